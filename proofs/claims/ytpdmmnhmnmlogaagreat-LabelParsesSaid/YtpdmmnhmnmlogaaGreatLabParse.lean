/- A series' name, read: the program's read, Parse and May. -/
import Derived.Test.YtpdmmnhmnmlogaaGreatLabReads
namespace Go.Proofs.YtpdmmnhmnmlogaaGreat
open Go.RowKit

/-- A metric's name and labels, or an error. -/
def RdPost (o : Option (List UInt8 × List Lbl)) (w : World) (e : Ending) (w' : World) : Prop :=
  ((∃ m l v, o = some (m, l) ∧ e = .returned (.tuple #[.string ⟨m.toArray⟩, v, .nilIface]) ∧ OwnedL w.heap.size w' v l) ∨ (o = none ∧ ∃ u, e = .returned (.tuple #[.string ⟨#[]⟩, .slice none 0 0, u]) ∧ FaultIs w' u)) ∧ Below w.heap.size w w'

theorem rdOn_some (k : Nat) (x : Lbl) (r : List UInt8) : rdOn k (some (x, r)) = if r = [125] then some [x] else (match r with | [] => none | c :: s' => if c = 44 then (rdL k s').map fun l => x :: l else none) := rfl
theorem rdL_small : ∀ (k : Nat) {s : List UInt8} {l : List Lbl}, s.length ≤ 1000000 → rdL k s = some l → smallL l
  | 0, _, _, _, h => by cases h
  | k + 1, s, l, hs, h => by
    rw [rdL_eq] at h
    cases ho : rdLab s with
    | none => rw [ho] at h; cases h
    | some p =>
      obtain ⟨x, r⟩ := p
      rw [ho] at h
      have hl := rdLab_len ho
      have hx : x.1.length ≤ 1000000 ∧ x.2.length ≤ 1000000 := by omega
      rw [rdOn_some] at h
      split at h
      · cases h
        intro y hy
        rw [List.mem_singleton] at hy
        subst hy
        exact hx
      · split at h
        · cases h
        · split at h
          · rw [Option.map_eq_some_iff] at h
            obtain ⟨l', h1, rfl⟩ := h
            simp only [List.length_cons] at hl
            have ih := rdL_small k (by omega) h1
            intro y hy
            rcases List.mem_cons.1 hy with rfl | hy
            · exact hx
            · exact ih y hy
          · cases h

set_option maxRecDepth 100000 in
set_option maxHeartbeats 4000000 in
theorem read_none (s : ByteArray) (m : Int) (w : World) (o : Option (List UInt8 × List Lbl)) (hs : s.size ≤ 100000)
    (HC : Hid (Calls Tryz.prog 29 #[.string s, .string ⟨#[123]⟩] w fun e w' => e = .returned (.tuple #[.string s, .string ⟨#[]⟩, .bool false]) ∧ ∃ n, w' = w.drewN n))
    (HO : Hid (o = if checkB s.data.toList [] = true then some (s.data.toList, []) else none)) :
    Calls Tryz.prog 17 #[.string s] w (RdPost o w) := by
  have hz1 := neq_held_nil
  have hz2 := neq_nil_nil
  have HCK := fun W => Lib.hid (check_any none 0 s [] W (by omega) (by simp) (by intro x hx; cases hx) (.inl rfl))
  have HCL := fun W => Lib.hid (clone_str s W (by omega))
  go_enter Tryz.func17, Tryz.ntmps17
  go_wp2_with fail
  refine (Hid.out HC).mono ?_
  rintro e w1 ⟨rfl, n, rfl⟩
  go_wp2_with fail
  refine (Hid.out (HCK _)).mono ?_
  rintro e w2 ⟨h, hb2⟩
  have HB2 := Lib.hid ((below_drewN (Below.refl _ w) n).trans (hb2.mono (Nat.le_refl _)))
  have hs2 : w.heap.size ≤ w2.heap.size := HB2.out.size
  rcases h with ⟨hc, rfl⟩ | ⟨hc, u, rfl, hf⟩
  · have HE := Lib.hid (show o = some (s.data.toList, []) by rw [HO.out, if_pos hc])
    clear hc hb2
    go_wp2_with fail
    refine (Hid.out (HCL _)).mono ?_
    rintro e w3 ⟨rfl, hb3⟩
    have HB3 := Lib.hid (HB2.out.trans (hb3.mono hs2))
    clear hb3
    go_wp2
    go_ret3
    exact ⟨.inl ⟨_, [], _, HE.out, by rw [Lib.mk_data]; rfl, World.ownsRow_nil _ _ _ _⟩, HB3.out⟩
  · obtain ⟨g, rfl⟩ := hf.form
    have HE := Lib.hid (show o = none by rw [HO.out, if_neg (by rw [hc]; simp)])
    have HF := Lib.hid hf
    clear hc hb2 hf
    go_wp2
    go_ret3
    obtain ⟨k, hk⟩ := HF.out
    exact ⟨.inr ⟨HE.out, _, rfl, FaultIs.here (by simp) (n := k + 1) hk⟩, HB2.out.trans (below_alloc hs2 _)⟩
set_option maxRecDepth 100000 in
set_option maxHeartbeats 4000000 in
theorem read_some (s : ByteArray) (m : Int) (nm bh : List UInt8) (w : World) (o : Option (List UInt8 × List Lbl)) (hnm : (⟨nm.toArray⟩ : ByteArray).size ≤ 100000) (hbh : (⟨bh.toArray⟩ : ByteArray).size ≤ 100000) (hm : ML m w)
    (HC : Hid (Calls Tryz.prog 29 #[.string s, .string ⟨#[123]⟩] w fun e w' => e = .returned (.tuple #[.string ⟨nm.toArray⟩, .string ⟨bh.toArray⟩, .bool true]) ∧ ∃ n, w' = w.drewN n))
    (HO : Hid (o = match rdL 16 bh with
      | none => none
      | some l => if checkB nm l = true then some (nm, l) else none)) :
    Calls Tryz.prog 17 #[.string s] w (RdPost o w) := by
  have hz1 := neq_held_nil
  have hz2 := neq_nil_nil
  have HRS := Lib.hid (fun n => readLabels_any ⟨bh.toArray⟩ m (w.drewN n) hbh hm)
  have HCK := Lib.hid (fun A cap l W h1 h2 h3 => check_any A cap ⟨nm.toArray⟩ l W (by omega) h1 h2 h3)
  have HCL := fun W => Lib.hid (clone_str ⟨nm.toArray⟩ W (by omega))
  have HSM := Lib.hid (show bh.length ≤ 1000000 by rw [Lib.size_eq] at hbh; have : bh.length ≤ 100000 := hbh; omega)
  clear hnm hbh hm
  go_enter Tryz.func17, Tryz.ntmps17
  go_wp2_with fail
  refine (Hid.out HC).mono ?_
  rintro e w1 ⟨rfl, n, rfl⟩
  go_wp2_with fail
  refine (Hid.out HRS n).mono ?_
  rintro e w2 ⟨h, hb2⟩
  have HB2 := Lib.hid ((below_drewN (Below.refl _ w) n).trans (hb2.mono (Nat.le_refl _)))
  have hs2 : w.heap.size ≤ w2.heap.size := HB2.out.size
  rcases h with ⟨l, v, ho, rfl, hown⟩ | ⟨ho, u, rfl, hf⟩
  · have ho' : rdL 16 bh = some l := ho
    have hl16 : l.length ≤ 16 := by obtain ⟨x, l', rfl, _, h⟩ := rdL_sound _ _ _ ho'; exact h
    have hsm := rdL_small 16 HSM.out ho'
    obtain ⟨A, cap, rfl, hrd, _, _⟩ := hown.reads
    have HCK2 := Lib.hid (HCK.out A cap l w2 (by omega) hsm hrd)
    have HOWN := Lib.hid hown
    have HO1 := Lib.hid (show o = if checkB nm l = true then some (nm, l) else none by rw [HO.out, ho'])
    clear ho ho' hsm hrd hown hb2 hl16 HO
    go_wp2_with fail
    refine (Hid.out HCK2).mono ?_
    rintro e w3 ⟨h, hb3⟩
    have HB3 := Lib.hid (HB2.out.trans (hb3.mono hs2))
    have hs3 : w.heap.size ≤ w3.heap.size := HB3.out.size
    have HOWN3 := Lib.hid (HOWN.out.below hb3)
    rcases h with ⟨hc, rfl⟩ | ⟨hc, u, rfl, hf⟩
    · have hc' : checkB nm l = true := hc
      have HE := Lib.hid (show o = some (nm, l) by rw [HO1.out, if_pos hc'])
      clear hc hc' hb3
      go_wp2_with fail
      refine (Hid.out (HCL _)).mono ?_
      rintro e w4 ⟨rfl, hb4⟩
      have HB4 := Lib.hid (HB3.out.trans (hb4.mono hs3))
      have HOWN4 := Lib.hid (HOWN3.out.below hb4)
      clear hb4
      go_wp2
      go_ret3
      exact ⟨.inl ⟨nm, l, _, HE.out, rfl, HOWN4.out⟩, HB4.out⟩
    · have hc' : checkB nm l = false := hc
      obtain ⟨g, rfl⟩ := hf.form
      have HE := Lib.hid (show o = none by rw [HO1.out, if_neg (by rw [hc']; simp)])
      have HF := Lib.hid hf
      clear hc hc' hb3 hf
      go_wp2
      go_ret3
      obtain ⟨k, hk⟩ := HF.out
      exact ⟨.inr ⟨HE.out, _, rfl, FaultIs.here (by simp) (n := k + 1) hk⟩, HB3.out.trans (below_alloc hs3 _)⟩
  · obtain ⟨g, rfl⟩ := hf.form
    have HE := Lib.hid (show o = none by rw [HO.out, show rdL 16 bh = none from ho])
    have HF := Lib.hid hf
    clear ho hb2 hf
    go_wp2
    go_ret3
    obtain ⟨k, hk⟩ := HF.out
    exact ⟨.inr ⟨HE.out, _, rfl, FaultIs.here (by simp) (n := k + 1) hk⟩, HB2.out.trans (below_alloc hs2 _)⟩
theorem read_any (s : ByteArray) (m : Int) (w : World) (hs : s.size ≤ 100000) (hm : ML m w) :
    Calls Tryz.prog 17 #[.string s] w (RdPost (parseP s.data.toList) w) := by
  have HC := Lib.hid (cut_any s ⟨#[123]⟩ m w (by omega) hm)
  change Hid (Calls Tryz.prog 29 _ _ fun e w' => e = .returned (.tuple #[.string ⟨(Lib.cut s.data.toList [123]).1.toArray⟩, .string ⟨(Lib.cut s.data.toList [123]).2.1.toArray⟩, .bool (Lib.cut s.data.toList [123]).2.2]) ∧ ∃ n, w' = w.drewN n) at HC
  have HL := cut_len (s := s.data.toList) (sep := [123])
  have HN : (Lib.cut s.data.toList [123]).2.2 = false → Lib.cut s.data.toList [123] = (s.data.toList, [], false) := by
    intro h
    have hge := Lib.index_ge s.data.toList [123]
    rcases Int.lt_or_le (Lib.index s.data.toList [123]) 0 with h1 | h1
    · exact cut_no (by omega)
    · obtain ⟨i, hi⟩ : ∃ i : Nat, Lib.index s.data.toList [123] = i := ⟨_, (Int.toNat_of_nonneg h1).symm⟩
      rw [cut_eq hi] at h
      cases h
  unfold parseP
  generalize Lib.cut s.data.toList [123] = t at HC HL HN ⊢
  obtain ⟨nm, bh, ok⟩ := t
  rw [← Lib.size_eq] at HL
  cases ok with
  | false =>
    have h1 := HN rfl
    cases h1
    rw [Lib.mk_data] at HC
    exact read_none s m w _ hs HC (Lib.hid rfl)
  | true => exact read_some s m nm bh w _ (by rw [Lib.size_eq]; show nm.length ≤ _; exact Nat.le_trans HL.1 hs) (by rw [Lib.size_eq]; show bh.length ≤ _; exact Nat.le_trans HL.2 hs) hm HC (Lib.hid rfl)

def PsPost (o : Option (List UInt8 × List Lbl)) (w : World) (e : Ending) (w' : World) : Prop :=
  ((∃ m l v, o = some (m, l) ∧ e = .returned (.tuple #[.string ⟨m.toArray⟩, v, .int .i64 0]) ∧ OwnedL w.heap.size w' v l) ∨ (o = none ∧ e = .returned (.tuple #[.string ⟨#[]⟩, .slice none 0 0, .int .i64 5]))) ∧ Below w.heap.size w w'
set_option maxRecDepth 100000 in
set_option maxHeartbeats 1000000 in
theorem parse_any (s : ByteArray) (m : Int) (w : World) (hs : s.size ≤ 100000) (hm : ML m w) :
    Calls Tryz.prog 6 #[.string s] w (PsPost (parseP s.data.toList) w) := by
  have HR := Lib.hid (read_any s m w hs hm)
  generalize parseP s.data.toList = o at HR ⊢
  clear hm
  go_enter Tryz.func6, Tryz.ntmps6
  go_wp2_with fail
  refine (Hid.out HR).mono ?_
  rintro e w1 ⟨h, hb⟩
  have HB := Lib.hid hb
  rcases h with ⟨mm, l, v, rfl, rfl, hown⟩ | ⟨rfl, u, rfl, hf⟩
  · have HE := Lib.hid (errno_nil w1)
    have HO := Lib.hid hown
    clear hb hown
    go_wp2_with fail
    refine (Hid.out HE).mono ?_
    rintro e w2 ⟨rfl, rfl⟩
    go_wp2
    go_ret3
    exact ⟨.inl ⟨mm, l, _, rfl, rfl, HO.out⟩, HB.out⟩
  · obtain ⟨g, rfl⟩ := hf.form
    have HE := Lib.hid (errno_fault _ w1 hf)
    clear hb hf
    go_wp2_with fail
    refine (Hid.out HE).mono ?_
    rintro e w2 ⟨rfl, rfl⟩
    go_wp2
    go_ret3
    exact ⟨.inr ⟨rfl, rfl⟩, HB.out⟩
set_option maxRecDepth 100000 in
set_option maxHeartbeats 1000000 in
theorem may_any (s : ByteArray) (m : Int) (w : World) (hs : s.size ≤ 100000) (hm : ML m w) :
    Calls Tryz.prog 9 #[.string s] w fun e w' => e = .returned (.bool (parseP s.data.toList).isSome) ∧ Below w.heap.size w w' := by
  have HR := Lib.hid (read_any s m w hs hm)
  generalize parseP s.data.toList = o at HR ⊢
  clear hm
  go_enter Tryz.func9, Tryz.ntmps9
  go_wp2_with fail
  refine (Hid.out HR).mono ?_
  rintro e w1 ⟨h, hb⟩
  have HB := Lib.hid hb
  rcases h with ⟨mm, l, v, rfl, rfl, hown⟩ | ⟨rfl, u, rfl, hf⟩
  · have HE := Lib.hid (errno_nil w1)
    clear hb hown
    go_wp2_with fail
    refine (Hid.out HE).mono ?_
    rintro e w2 ⟨rfl, rfl⟩
    go_wp2
    go_ret
    exact ⟨rfl, HB.out⟩
  · obtain ⟨g, rfl⟩ := hf.form
    have HE := Lib.hid (errno_fault _ w1 hf)
    clear hb hf
    go_wp2_with fail
    refine (Hid.out HE).mono ?_
    rintro e w2 ⟨rfl, rfl⟩
    go_wp2
    go_ret
    exact ⟨rfl, HB.out⟩
end Go.Proofs.YtpdmmnhmnmlogaaGreat
