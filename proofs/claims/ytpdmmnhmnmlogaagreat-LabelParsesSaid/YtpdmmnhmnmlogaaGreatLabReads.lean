/- Labels, read: the program's readLabels. -/
import Derived.Test.YtpdmmnhmnmlogaaGreatLabRead
import Derived.Laws.AppendOwnNone
namespace Go.Proofs.YtpdmmnhmnmlogaaGreat
open Go.RowKit

theorem wpList_append_lbls {w : World} {ops : Array Oper} {rest : List Oper} {o : Oper} {a : Act} {Q : Exit → Act → World → Prop} (hgd : o.guard = none) (s x : Operand)
    (ho : o.op = .call { callee := .builtin .append, args := #[s, x], argTypes := #[22, 22] })
    (base : Nat) (v : Value) (l1 : List Lbl) (hs : a.eval s = v) (hown : OwnedL base w v l1)
    (ad : Addr) (l2 : List Lbl) (c : Nat) (hx : a.eval x = .slice (some ad) l2.length c) (hr : ∀ j u, (flatL l2)[j]? = some u → w.cell? (ad.add j) = some u)
    (hlen : l1.length + l2.length ≤ 100000) (hbase : base ≤ w.heap.size)
    (h : ∀ v' w', OwnedL base w' v' (l1 ++ l2) → Below base w w' → (v' = .slice none 0 0 → l1 ++ l2 = []) → wpList Tryz.prog ops Q rest (a.put o.dst v') w') : wpList Tryz.prog ops Q (o :: rest) a w := by
  obtain ⟨i0, hi, hz0, hz1, hz2⟩ := info_parts Tryz.infoLbl
  refine wpList_append_own w hgd s x 22 ho base 42 i0 (.agg #[.string ⟨#[]⟩, .string ⟨#[]⟩]) 2 32 Tryz.underlying22 hi hz0 hz1 hz2 rfl (by decide) v l1.length (flatL l1) hs hown ad l2.length c (flatL l2) hx (flatL_len l2) hr (flatL_one l2) (by unfold maxLen; omega) (by omega) hbase ?_
  intro v' w' h1 h2 h3
  refine h v' w' ?_ ((Below.refl _ _).grown h2 hbase (fun k hk => hown.grows k hk)) ?_
  · unfold OwnedL
    rw [List.length_append, flatL_append]
    exact h1
  · intro e
    obtain ⟨e1, e2⟩ := h3.1 e
    subst e1
    rcases hown.form with ⟨_, e3⟩ | ⟨g, cap, e3, _⟩
    · rw [e3, List.eq_nil_of_length_eq_zero e2]; rfl
    · cases e3
theorem lone_cells {W : World} {p : Nat} (x : Lbl) (t : TypeId) (hp : p = W.heap.size) : ∀ j u, (flatL [x])[j]? = some u → (W.alloc (.cells #[.string ⟨x.1.toArray⟩, .string ⟨x.2.toArray⟩] t)).cell? ((⟨p, 0, none⟩ : Addr).add j) = some u := by
  subst hp
  intro j u hj
  rw [add_plain', Nat.zero_add]
  match j, hj with
  | 0, hj => cases hj; simp [strV]
  | 1, hj => cases hj; simp [strV]
  | j + 2, hj => cases hj

def lenV : Value → Nat
  | .slice _ n _ => n
  | _ => 0
def RSPost (o : Option (List Lbl)) (w : World) (e : Ending) (w' : World) : Prop :=
  ((∃ l v, o = some l ∧ e = .returned (.tuple #[v, .nilIface]) ∧ OwnedL w.heap.size w' v l) ∨ (o = none ∧ ∃ u, e = .returned (.tuple #[.slice none 0 0, u]) ∧ FaultIs w' u)) ∧ Below w.heap.size w w'
theorem onL_step {acc : List Lbl} {x : Lbl} {o : Option (List Lbl)} : (o.map fun l => x :: l).map (fun l => acc ++ l) = o.map fun l => (acc ++ [x]) ++ l := by
  cases o <;> simp
theorem rdLab_len {s r : List UInt8} {x : Lbl} (h : rdLab s = some (x, r)) : r.length ≤ s.length ∧ x.1.length ≤ s.length ∧ x.2.length ≤ s.length := by
  unfold rdLab at h
  have hc := cut_len (s := s) (sep := [61, 34])
  split at h
  · split at h
    · cases h
    · cases h
    · rename_i v c rest hv
      cases h
      have hs := (rdV_sound _ _ _ _ (Nat.le_refl _) hv).1
      have hl := congrArg List.length hs
      rw [List.length_append, List.length_cons] at hl
      have he : v.length ≤ (escL v).length := by
        clear hs hl hv
        induction v with
        | nil => exact Nat.le_refl _
        | cons c v ih =>
          rw [escL_cons, List.length_append, List.length_cons]
          have : 1 ≤ (esc1 c).length := by unfold esc1; split; decide; split <;> simp
          omega
      simp only
      omega
  · cases h

set_option maxRecDepth 100000 in
set_option maxHeartbeats 6000000 in
theorem readLabels_any (s : ByteArray) (m : Int) (w : World) (hs : s.size ≤ 100000) (hm : ML m w) :
    Calls Tryz.prog 30 #[.string s] w (RSPost (rdL 16 s.data.toList) w) := by
  have hz1 := neq_held_nil
  have hz2 := neq_nil_nil
  have HM := Lib.hid hm
  clear hm
  go_enter Tryz.func30, Tryz.ntmps30
  go_wp2
  go_loopw [0, 4] (fun sv lv wr => ∃ (acc : List Lbl) (t : ByteArray) (lv' : Value), lv' = lv ∧ sv = .string t ∧ t.size ≤ 100000 ∧ acc.length ≤ 16 ∧ lenV lv = acc.length ∧ Hid (rdL 16 s.data.toList = (rdL (16 - acc.length) t.data.toList).map fun l => acc ++ l) ∧ Hid (OwnedL w.heap.size wr lv acc) ∧ Hid (Below w.heap.size w wr) ∧ w.heap.size ≤ wr.heap.size) (fun _ lv _ => 16 - lenV lv)
  case atStart => exact ⟨[], s, _, rfl, rfl, hs, by simp, rfl, Lib.hid (by show rdL 16 _ = (rdL 16 _).map _; cases rdL 16 s.data.toList <;> simp), Lib.hid (World.ownsRow_nil _ _ _ _), Lib.hid (Below.refl _ _), Nat.le_refl _⟩
  case round =>
    obtain ⟨acc, t, lv', rfl, rfl, ht, hac, hlv, HR, HO, HB, hBr⟩ := hrel
    obtain ⟨A, cap, rfl, hrd, _, _⟩ := HO.out.reads
    clear hlv hrd
    by_cases hlt : acc.length < 16
    · have hlt' : (acc.length : Int) < 16 := by omega
      have HRL := Lib.hid (readLabel_any t m wr ht (HM.out.below HB.out (Nat.le_refl _)))
      have HR1 := Lib.hid (show rdL 16 s.data.toList = (rdOn (15 - acc.length) (rdLab t.data.toList)).map fun l => acc ++ l by
        rw [HR.out, show 16 - acc.length = (15 - acc.length) + 1 by omega, rdL_eq])
      go_wp2_with fail
      refine (Hid.out HRL).mono ?_
      rintro e w1 ⟨h, hb1⟩
      rcases h with ⟨x, r, ho, rfl⟩ | ⟨ho, u, rfl, hf⟩
      · have HO1 := Lib.hid ((HO.out.below hb1).alloc (.cells #[.string ⟨x.1.toArray⟩, .string ⟨x.2.toArray⟩] 42))
        have HB1 := Lib.hid (HB.out.trans (hb1.mono hBr))
        have hBr1 := Nat.le_trans hBr hb1.size
        have HR2 := Lib.hid (show rdL 16 s.data.toList = (rdOn (15 - acc.length) (some (x, r))).map fun l => acc ++ l by rw [HR1.out, ho])
        have hrl := (rdLab_len ho).1
        rw [← Lib.size_eq] at hrl
        have HP := fun W => Lib.hid (Tryz.strings_HasPrefix ⟨r.toArray⟩ ⟨#[44]⟩ W)
        change ∀ W, Hid (Calls Tryz.prog 49 _ W fun e w' => e = .returned (.bool (Lib.hasPrefix r [44])) ∧ w' = W) at HP
        clear hb1 HR HR1
        by_cases h125 : r = [125]
        · have HE := Lib.hid (show rdL 16 s.data.toList = some (acc ++ [x]) by rw [HR2.out, h125]; rfl)
          subst h125
          clear ho
          go_wp2_with (at_builtin; refine wpList_append_lbls rfl (.tmp 23) (.tmp 25) rfl w.heap.size _ acc rfl (HO1.out.alloc _) ⟨w1.heap.size + 1, 0, none⟩ [x] 1 rfl (lone_cells x _ (by simp)) (by simp; omega) (le_alloc (le_alloc hBr1 _) _) ?_; intro v2 w2 hown2 hb2 _; have HO2 := Lib.hid hown2; have HB2 := Lib.hid (HB1.out.trans (((below_alloc hBr1 _).alloc (le_alloc hBr1 _) _).trans hb2)); have hBr2 : w.heap.size ≤ w2.heap.size := HB2.out.size; clear hown2 hb2)
          go_ret2
          exact ⟨.inl ⟨_, v2, HE.out, rfl, HO2.out⟩, HB2.out⟩
        · cases r with
          | nil =>
            have HE := Lib.hid (show rdL 16 s.data.toList = none by rw [HR2.out]; rfl)
            clear ho
            go_wp2_with (first | (go_at_call 49; refine (Hid.out (HP _)).mono ?_; rintro e w3 ⟨rfl, rfl⟩) | (at_builtin; refine wpList_append_lbls rfl (.tmp 23) (.tmp 25) rfl w.heap.size _ acc rfl (HO1.out.alloc _) ⟨w1.heap.size + 1, 0, none⟩ [x] 1 rfl (lone_cells x _ (by simp)) (by simp; omega) (le_alloc (le_alloc hBr1 _) _) ?_; intro v2 w2 hown2 hb2 _; have HO2 := Lib.hid hown2; have HB2 := Lib.hid (HB1.out.trans (((below_alloc hBr1 _).alloc (le_alloc hBr1 _) _).trans hb2)); have hBr2 : w.heap.size ≤ w2.heap.size := HB2.out.size; clear hown2 hb2))
            go_ret2
            exact ⟨.inr ⟨HE.out, _, rfl, FaultIs.here (by simp) (n := 0) rfl⟩, HB2.out.trans (below_alloc hBr2 _)⟩
          | cons c r =>
            by_cases h44 : c = 44
            · subst h44
              have HE := Lib.hid (show rdL 16 s.data.toList = (rdL (15 - acc.length) r).map fun l => (acc ++ [x]) ++ l by
                rw [HR2.out]
                show ((if 44 :: r = [125] then some [x] else (if (44 : UInt8) = 44 then (rdL (15 - acc.length) r).map fun l => x :: l else none))).map _ = _
                rw [if_neg h125, if_pos rfl, onL_step])
              have hpf : Lib.hasPrefix (44 :: r) [44] = true := by simp [Lib.hasPrefix, List.isPrefixOf]
              rw [hpf] at HP
              have hx : (⟨(44 :: r).toArray⟩ : ByteArray).extract 1 (⟨(44 :: r).toArray⟩ : ByteArray).size = ⟨r.toArray⟩ := ba_eq (by rw [Lib.extract_to_end]; rfl)
              have hp : (1 : Int) ≤ ((⟨(44 :: r).toArray⟩ : ByteArray).size : Int) := by rw [Lib.size_eq]; simp; omega
              have hrl' : (⟨r.toArray⟩ : ByteArray).size ≤ 100000 := by
                rw [Lib.size_eq]
                show r.length ≤ _
                simp at hrl
                omega
              have h125' : ((⟨(44 :: r).toArray⟩ : ByteArray).toList == [125]) = false := by rw [Lib.toList_data]; simp
              generalize (⟨(44 :: r).toArray⟩ : ByteArray) = rs at HP hx hp h125' ⊢
              clear ho hpf hrl h125
              go_wp2_with (first | (go_at_call 49; refine (Hid.out (HP _)).mono ?_; rintro e w3 ⟨rfl, rfl⟩) | (at_builtin; refine wpList_append_lbls rfl (.tmp 23) (.tmp 25) rfl w.heap.size _ acc rfl (HO1.out.alloc _) ⟨w1.heap.size + 1, 0, none⟩ [x] 1 rfl (lone_cells x _ (by simp)) (by simp; omega) (le_alloc (le_alloc hBr1 _) _) ?_; intro v2 w2 hown2 hb2 _; have HO2 := Lib.hid hown2; have HB2 := Lib.hid (HB1.out.trans (((below_alloc hBr1 _).alloc (le_alloc hBr1 _) _).trans hb2)); have hBr2 : w.heap.size ≤ w2.heap.size := HB2.out.size; clear hown2 hb2))
              obtain ⟨A', cap', rfl, _⟩ := HO2.out.reads
              go_roundw
              case rel => exact ⟨acc ++ [x], ⟨r.toArray⟩, _, rfl, rfl, hrl', by simp <;> omega, by simp [lenV], by rw [show 16 - (acc ++ [x]).length = 15 - acc.length by simp <;> omega]; exact HE, HO2, HB2, hBr2⟩
              case measure => simp [lenV]; omega
            · have HE := Lib.hid (show rdL 16 s.data.toList = none by
                rw [HR2.out]
                show ((if c :: r = [125] then some [x] else (if c = 44 then (rdL (15 - acc.length) r).map fun l => x :: l else none))).map _ = _
                rw [if_neg h125, if_neg h44]
                rfl)
              have hpf : Lib.hasPrefix (c :: r) [44] = false := by
                simp [Lib.hasPrefix, List.isPrefixOf]
                exact fun e => h44 e.symm
              rw [hpf] at HP
              have h125' : ((⟨(c :: r).toArray⟩ : ByteArray).toList == [125]) = false := by rw [Lib.toList_data]; simpa using h125
              generalize (⟨(c :: r).toArray⟩ : ByteArray) = rs at HP h125' ⊢
              clear ho hpf hrl h125
              go_wp2_with (first | (go_at_call 49; refine (Hid.out (HP _)).mono ?_; rintro e w3 ⟨rfl, rfl⟩) | (at_builtin; refine wpList_append_lbls rfl (.tmp 23) (.tmp 25) rfl w.heap.size _ acc rfl (HO1.out.alloc _) ⟨w1.heap.size + 1, 0, none⟩ [x] 1 rfl (lone_cells x _ (by simp)) (by simp; omega) (le_alloc (le_alloc hBr1 _) _) ?_; intro v2 w2 hown2 hb2 _; have HO2 := Lib.hid hown2; have HB2 := Lib.hid (HB1.out.trans (((below_alloc hBr1 _).alloc (le_alloc hBr1 _) _).trans hb2)); have hBr2 : w.heap.size ≤ w2.heap.size := HB2.out.size; clear hown2 hb2))
              go_ret2
              exact ⟨.inr ⟨HE.out, _, rfl, FaultIs.here (by simp) (n := 0) rfl⟩, HB2.out.trans (below_alloc hBr2 _)⟩
      · obtain ⟨g, rfl⟩ := hf.form
        have HE := Lib.hid (show rdL 16 s.data.toList = none by rw [HR1.out, ho]; rfl)
        have HF := Lib.hid hf
        have HB1 := Lib.hid (HB.out.trans (hb1.mono hBr))
        have hBr1 := Nat.le_trans hBr hb1.size
        clear ho hb1 hf HR HR1
        go_wp2
        go_ret2
        obtain ⟨n, hn⟩ := HF.out
        exact ⟨.inr ⟨HE.out, _, rfl, FaultIs.here (by simp) (n := n + 1) (FaultN.below (below_alloc (Nat.le_refl _) _) (Nat.le_refl _) hn)⟩, HB1.out.trans ((below_alloc hBr1 _).alloc (le_alloc hBr1 _) _)⟩
    · have hge : decide ((acc.length : Int) < 16) = false := by simp; omega
      have HE := Lib.hid (show rdL 16 s.data.toList = none by
        rw [HR.out, show 16 - acc.length = 0 by omega]
        rfl)
      go_wp2
      go_ret2
      exact ⟨.inr ⟨HE.out, _, rfl, FaultIs.here (by simp) (n := 0) rfl⟩, HB.out.trans (below_alloc hBr _)⟩
end Go.Proofs.YtpdmmnhmnmlogaaGreat
