/- LabelNames: the walk. -/
import Derived.Test.YtlbnlgmgfghpoaaLabKnown
import Derived.Test.YtlbnlgmgfghpoaaLabParse
import Derived.Test.YtlbnlgmgfghpoaaRefName
import Derived.Test.YtlbnlgmgfghpoaaAppendS
import Derived.Deep.RegionLaw
namespace Go.Proofs.Ytlbnlgmgfghpoaa.labelNames
open Go.RowKit

def Fin (w : World) (e : Ending) (w' : World) : Prop := e = .returned (.bool true) ∧ Below w.heap.size w w'
theorem later {w w0 w1 : World} (h : Below w.heap.size w w0) (h1 : Below w0.heap.size w0 w1) : Below w.heap.size w w1 := h.trans (h1.mono h.size)
set_option maxRecDepth 100000 in
set_option maxHeartbeats 1000000 in
theorem early (m : ByteArray) (A : Option Addr) (cap : Nat) (l : List Lbl) (n : Int) (w : World) (hl : l.length ≤ 9223372036854775807) (hh : hugeL l) (hr : LReads w w.heap.size A l) (h : muchP l = true ∨ 300 < (m.size : Int)) :
    Calls Try.prog 3 #[.string m, .slice A l.length cap, .int .i64 n] w (Fin w) := by
  have HMU := Lib.hid (much_any A cap l w hl hh hr)
  have HK := fun q => Lib.hid (known_yes w (w.drewN q) (below_drewN (Below.refl _ _) q))
  clear hh hr
  cases hm : muchP l with
  | true =>
    rw [hm] at HMU
    clear hm h
    go_enter Try.func3, Try.ntmps3
    go_wp2_with fail
    refine (Hid.out HMU).mono ?_
    rintro e w1 ⟨rfl, q, rfl⟩
    go_wp2_with fail
    refine (Hid.out (HK q)).mono ?_
    rintro e w1 ⟨rfl, hb1⟩
    go_wp2
    go_ret
    exact ⟨rfl, hb1⟩
  | false =>
    rw [hm] at HMU
    have h2 : 300 < (m.size : Int) := by
      rcases h with h | h
      · rw [hm] at h; cases h
      · exact h
    clear hm h
    go_enter Try.func3, Try.ntmps3
    go_wp2_with fail
    refine (Hid.out HMU).mono ?_
    rintro e w1 ⟨rfl, q, rfl⟩
    go_wp2_with fail
    refine (Hid.out (HK q)).mono ?_
    rintro e w1 ⟨rfl, hb1⟩
    go_wp2
    go_ret
    exact ⟨rfl, hb1⟩

/-- The turned list has the same name. -/
theorem turned (m : List UInt8) (l : List Lbl) (k : Nat) : nameP m ([] ++ l.drop k ++ l.take k) = nameP m l :=
  nameP_perm (by
    have h : (l.drop k ++ l.take k).Perm (l.take k ++ l.drop k) := List.perm_append_comm
    rw [List.take_append_drop] at h
    simpa using h)
theorem name_len {m t : List UInt8} {l : List Lbl} (h : nameP m l = some t) : t.length ≤ 40000 ∧ parseP t = some (m, sortP l) := by
  unfold nameP at h
  split at h
  · rename_i hc
    cases h
    have hv : validB m (sortP l) = true := by
      unfold validB
      rw [hc.2, decide_eq_true (by rw [sortP_len]; exact hc.1)]
      rfl
    refine ⟨?_, parseP_text hv⟩
    have h1 := piecesT_len 16 (checkB_labs hc.2)
    rw [List.take_of_length_le (by rw [sortP_len]; exact hc.1)] at h1
    have h2 := metB_len (checkB_met hc.2)
    rw [textT_eq]
    split
    · omega
    · rw [List.length_append, List.length_append]
      simp only [List.length_cons, List.length_nil]
      omega
  · cases h
set_option maxRecDepth 100000 in
set_option maxHeartbeats 8000000 in
theorem main (m : ByteArray) (A : Option Addr) (cap : Nat) (l : List Lbl) (n mx : Int) (w : World) (hm : m.size ≤ 300) (hmu : muchP l = false) (hh : hugeL l) (hr : LReads w w.heap.size A l) (hcap : l.length ≤ cap) (hcm : cap ≤ 9223372036854775807) (hml : ML mx w) :
    Calls Try.prog 3 #[.string m, .slice A l.length cap, .int .i64 n] w (Fin w) := by
  obtain ⟨hl, hsm⟩ := muchP_small hmu
  have HMU := Lib.hid (much_any A cap l w (by omega) hh hr)
  rw [hmu] at HMU
  have HR := Lib.hid hr
  have HSM := Lib.hid hsm
  have HML := Lib.hid hml
  have HNL := Lib.hid (fun t => @name_len m.data.toList t l)
  have HTU := Lib.hid (fun k => turned m.data.toList l k)
  have HN : Hid (∀ (A' : Option Addr) (c' : Nat) (l' : List Lbl) (W : World), l'.length ≤ 20 → smallL l' → LReads W W.heap.size A' l' → nameP m.data.toList l' = nameP m.data.toList l → Calls Try.prog 9 #[.string m, .slice A' l'.length c'] W (NamePost (nameP m.data.toList l) W)) := Lib.hid (fun A' c' l' W h1 h2 h3 h4 => by
    rw [← h4]
    exact name_any A' c' m l' W (by omega) (by omega) h2 h3)
  have HRN : Hid (∀ W, LReads W W.heap.size A l → Calls Try.prog 10 #[.string m, .slice A l.length cap] W (NamePost (nameP m.data.toList l) W)) := Lib.hid (fun W h => rname_any A cap m l W (by omega) (by omega) HSM.out h)
  obtain ⟨o, ho⟩ : ∃ o, o = nameP m.data.toList l := ⟨_, rfl⟩
  rw [← ho] at HN HRN HTU HNL
  have HNO := Lib.hid ho.symm
  have hm' : decide (300 < (m.size : Int)) = false := by simp; omega
  clear hmu hh hr hsm hml ho
  go_enter Try.func3, Try.ntmps3
  go_wp2_with fail
  refine (Hid.out HMU).mono ?_
  rintro e w1 ⟨rfl, q, rfl⟩
  have HBQ := Lib.hid (below_drewN (Below.refl w.heap.size w) q)
  go_wp2_with (at_builtin; refine wpList_append_lblsA rfl (.const (.slice none 0 0)) (.tmp 26) rfl w.heap.size (.slice none 0 0) [] rfl (World.ownsRow_nil _ _ _ _) w.heap.size A l cap rfl (HR.out.below HBQ.out) (by simp; omega) (Nat.le_refl _) ?_; intro v2 w2 hown2 hb2; have HO2 := Lib.hid hown2; have HB2 := Lib.hid (HBQ.out.trans hb2); clear hown2 hb2)
  have HO2' := Lib.hid (show OwnedL w.heap.size w2 v2 l by simpa using HO2.out)
  obtain ⟨A1, c1, rfl, hrd1, _, _⟩ := HO2'.out.reads
  have HR1 := Lib.hid hrd1
  clear hrd1
  refine (HN.out A1 c1 l w2 hl HSM.out HR1.out HNO.out).mono ?_
  rintro e w3 ⟨rfl, hb3⟩
  have HB23 := Lib.hid hb3
  have HB3 := Lib.hid (later HB2.out hb3)
  clear hb3
  go_wp2_with fail
  refine (HRN.out w3 ((HR.out.below HB3.out).more HB3.out.size)).mono ?_
  rintro e w4 ⟨rfl, hb4⟩
  have HB24 := Lib.hid (later HB23.out hb4)
  have HB4 := Lib.hid (later HB3.out hb4)
  clear hb4
  have HSA := Lib.hid (same_any A1 A c1 cap l w4 (by omega) ((HR1.out.below HB24.out).more HB24.out.size) ((HR.out.below HB4.out).more HB4.out.size))
  have HK := fun W (h : Below w.heap.size w W) => known_yes w W h
  have HK := Lib.hid HK
  obtain ⟨code, hcode⟩ : ∃ c, c = nameE o := ⟨_, rfl⟩
  obtain ⟨T, hT⟩ : ∃ T : ByteArray, T = ⟨(nameS o).toArray⟩ := ⟨_, rfl⟩
  rw [← hcode, ← hT]
  have HCO := Lib.hid hcode
  have HTT := Lib.hid hT
  clear hcode hT
  go_wp2_with fail
  refine (Hid.out HSA).mono ?_
  rintro e w5 ⟨rfl, q5, rfl⟩
  have HB5 := Lib.hid (show Below w.heap.size w (w4.drewN q5) from below_drewN HB4.out q5)
  obtain ⟨w5, hw5⟩ : ∃ w5, w5 = w4.drewN q5 := ⟨_, rfl⟩
  rw [← hw5] at HB5 ⊢
  clear hw5
  by_cases h0 : l = []
  · have hn0 : l.length = 0 := by rw [h0]; rfl
    have HB6 := Lib.hid HB5.out
    clear h0
    rcases o with _ | t
    · obtain rfl : code = 5 := HCO.out
      obtain rfl : T = ⟨#[]⟩ := HTT.out
      go_wp2_with fail
      refine (HK.out _ HB6.out).mono ?_
      rintro e w7 ⟨rfl, hb7⟩
      go_wp2
      go_ret
      exact ⟨rfl, hb7⟩
    · obtain rfl : code = 0 := HCO.out
      obtain rfl : T = ⟨t.toArray⟩ := HTT.out
      obtain ⟨ht, hpt⟩ := HNL.out t rfl
      have htz : (⟨t.toArray⟩ : ByteArray).size ≤ 100000 := by rw [Lib.size_eq]; show t.length ≤ _; omega
      obtain ⟨S, hS⟩ : ∃ S, S = sortP l := ⟨_, rfl⟩
      have hSl : S.length ≤ 20 := by rw [hS, sortP_len]; exact hl
      have HP : Hid (Calls Try.prog 12 #[.string ⟨t.toArray⟩] w5 fun e w' => ∃ v, e = .returned (.tuple #[.string m, v, .int .i64 0]) ∧ OwnedL w5.heap.size w' v S ∧ Below w5.heap.size w5 w') := Lib.hid (by
        have h := parse_any ⟨t.toArray⟩ mx w5 htz (HML.out.below HB6.out (Nat.le_refl _))
        rw [show parseP (⟨t.toArray⟩ : ByteArray).data.toList = some (m.data.toList, sortP l) from hpt, ← hS] at h
        refine h.mono fun e w' hh => ?_
        obtain ⟨hh, hb⟩ := hh
        rcases hh with ⟨mm, ll, v, he, rfl, ho⟩ | ⟨he, _⟩
        · cases he
          exact ⟨v, by rw [Lib.mk_data], ho, hb⟩
        · cases he)
      have HMA : Hid (∀ W, ML mx W → Calls Try.prog 14 #[.string ⟨t.toArray⟩] W fun e w' => e = .returned (.bool true) ∧ Below W.heap.size W w') := Lib.hid (fun W h => by
        have h := may_any ⟨t.toArray⟩ mx W htz h
        rw [show parseP (⟨t.toArray⟩ : ByteArray).data.toList = some (m.data.toList, sortP l) from hpt] at h
        exact h)
      have HST : Hid (∀ W, LReads W W.heap.size A l → Calls Try.prog 13 #[.slice A 0 cap] W fun e w' => ∃ v, e = .returned v ∧ OwnedL W.heap.size w' v S ∧ Below W.heap.size W w') := Lib.hid (fun W h => by
        rw [hS]
        have h2 := rsorted_any A cap l W (by omega) h
        rwa [hn0] at h2)
      clear hpt ht htz hS
      go_wp2_with fail
      refine (Hid.out HP).mono ?_
      rintro e w7 ⟨v7, rfl, hown7, hb7⟩
      have HB7 := Lib.hid (later HB6.out hb7)
      obtain ⟨A7, c7, rfl, hrd7, _, _⟩ := hown7.reads
      have HR7 := Lib.hid hrd7
      clear hrd7 hb7 hown7
      go_wp2_with fail
      refine (HST.out w7 ((HR.out.below HB7.out).more HB7.out.size)).mono ?_
      rintro e w8 ⟨v8, rfl, hown8, hb8⟩
      have HB8 := Lib.hid (later HB7.out hb8)
      obtain ⟨A8, c8, rfl, hrd8, _, _⟩ := hown8.reads
      have HSM2 := Lib.hid (same_any A7 A8 c7 c8 S w8 (by omega) ((HR7.out.below hb8).more hb8.size) hrd8)
      clear hrd8 hb8 hown8
      go_wp2_with fail
      refine (Hid.out HSM2).mono ?_
      rintro e w9 ⟨rfl, q9, rfl⟩
      have HB9 := Lib.hid (show Below w.heap.size w (w8.drewN q9) from below_drewN HB8.out q9)
      go_wp2_with fail
      refine (HMA.out _ (HML.out.below HB9.out (Nat.le_refl _))).mono ?_
      rintro e w10 ⟨rfl, hb10⟩
      have HB10 := Lib.hid (later HB9.out hb10)
      clear hb10
      go_wp2_with fail
      refine (HK.out _ HB10.out).mono ?_
      rintro e w11 ⟨rfl, hb11⟩
      go_wp2
      go_ret
      exact ⟨rfl, hb11⟩
  · have hpos : (0 : Int) < (l.length : Int) := by have := List.length_pos_iff.2 h0; omega
    obtain ⟨kk, hkk, hkl⟩ : ∃ kk : Nat, wrap64 ((IntKind.u64.wrap n).tmod (l.length : Int)) = (kk : Int) ∧ kk < l.length := by
      have h1 : 0 ≤ IntKind.u64.wrap n := (by have e : IntKind.u64.wrap n = n % 18446744073709551616 := rfl; rw [e]; omega)
      have h2 : 0 ≤ (IntKind.u64.wrap n).tmod (l.length : Int) := Int.tmod_nonneg _ h1
      have h3 : (IntKind.u64.wrap n).tmod (l.length : Int) < (l.length : Int) := Int.tmod_lt_of_pos _ hpos
      refine ⟨((IntKind.u64.wrap n).tmod (l.length : Int)).toNat, ?_, by omega⟩
      rw [Int.toNat_of_nonneg h2]
      exact (by unfold wrap64; omega)
    obtain ⟨b, off, rfl, hb, hc⟩ := HR.out.at (by omega)
    have hk0 : (0 : Int) ≤ (kk : Int) := by omega
    have hkl' : (kk : Int) ≤ (l.length : Int) := by omega
    have hkc : (kk : Int) ≤ (cap : Int) := by omega
    have hcp : ¬ cap = kk := by omega
    have HS1 := Lib.hid (show LReads w w.heap.size (some ⟨b, off + kk * 2, none⟩) (l.drop kk) from LReads.drops HR.out hkl)
    have HS2 := Lib.hid (show LReads w w.heap.size (some ⟨b, off, none⟩) (l.take kk) from HR.out.takes kk)
    have HD := Lib.hid (show (l.drop kk).length = l.length - kk by rw [List.length_drop])
    have HT := Lib.hid (show (l.take kk).length = kk by rw [List.length_take, Nat.min_eq_left (by omega)])
    have HL1 := Lib.hid (show ([] : List Lbl).length + (l.drop kk).length ≤ 100000 by rw [HD.out]; simp; omega)
    have HL2 := Lib.hid (show ([] ++ l.drop kk).length + (l.take kk).length ≤ 100000 by rw [List.nil_append, HD.out, HT.out]; omega)
    have HL3 := Lib.hid (show ([] ++ l.drop kk ++ l.take kk).length ≤ 20 by rw [List.nil_append, List.length_append, HD.out, HT.out]; omega)
    have HSM3 := Lib.hid (show smallL ([] ++ l.drop kk ++ l.take kk) from fun x hx => by
      rw [List.nil_append] at hx
      rcases List.mem_append.1 hx with h | h
      · exact HSM.out x (List.mem_of_mem_drop h)
      · exact HSM.out x (List.mem_of_mem_take h))
    have HTU3 := Lib.hid (HTU.out kk)
    clear hc h0
    go_wp2_with fail
    rw [hkk]
    clear hkk
    go_region_law (first | (refine step_append_lblsN (by rfl) (.const (.slice none 0 0)) (.tmp 68) (by rfl) w.heap.size (.slice none 0 0) [] (by kernel_rfl) (World.ownsRow_nil _ _ _ _) w.heap.size (some ⟨b, off + kk * 2, none⟩) (l.drop kk) (l.length - kk) (cap - kk) HD.out (by kernel_rfl) (LReads.drew (HS1.out.below HB5.out)) HL1.out (show w.heap.size ≤ w5.heap.size from HB5.out.size) ?_; intro v6 w6 hown6 hb6 _; have HO6 := Lib.hid hown6; have HB6a := Lib.hid (show Below w.heap.size w w6 from (HB5.out.drew).trans hb6); clear hown6 hb6) | (refine step_append_lblsN (by rfl) (.tmp 69) (.tmp 72) (by rfl) w.heap.size v6 ([] ++ l.drop kk) (by kernel_rfl) HO6.out w.heap.size (some ⟨b, off, none⟩) (l.take kk) kk cap HT.out (by kernel_rfl) (HS2.out.below HB6a.out) HL2.out HB6a.out.size ?_; intro v7 w7 hown7 hb7 _; have HB7 := Lib.hid (HB6a.out.trans hb7); obtain ⟨L, hL⟩ : ∃ L, L = [] ++ l.drop kk ++ l.take kk := ⟨_, rfl⟩; rw [← hL] at hown7 HL3 HSM3 HTU3; obtain ⟨A7, c7, rfl, hrd7, _, _⟩ := hown7.reads; have HN7 := Lib.hid (HN.out A7 c7 L w7 HL3.out HSM3.out hrd7 HTU3.out); unfold NamePost at HN7; rw [← HCO.out, ← HTT.out] at HN7; clear hown7 hb7 hrd7 hL) | (go_simp; go_at_call 9; refine (Hid.out HN7).mono ?_; rintro e w8 ⟨rfl, hb8⟩; have HB8 := Lib.hid (later HB7.out hb8); clear hb8))
    all_goals
      have HB6 := Lib.hid HB8.out
      clear HMU HSA HN7 HN HRN
      rcases o with _ | t
      · obtain rfl : code = 5 := HCO.out
        obtain rfl : T = ⟨#[]⟩ := HTT.out
        go_wp2_with fail
        refine (HK.out _ HB6.out).mono ?_
        rintro e w7 ⟨rfl, hb7⟩
        go_wp2
        go_ret
        exact ⟨rfl, hb7⟩
      · obtain rfl : code = 0 := HCO.out
        obtain rfl : T = ⟨t.toArray⟩ := HTT.out
        obtain ⟨ht, hpt⟩ := HNL.out t rfl
        have htz : (⟨t.toArray⟩ : ByteArray).size ≤ 100000 := by rw [Lib.size_eq]; show t.length ≤ _; omega
        obtain ⟨S, hS⟩ : ∃ S, S = sortP l := ⟨_, rfl⟩
        have hSl : S.length ≤ 20 := by rw [hS, sortP_len]; exact hl
        have HP : Hid (Calls Try.prog 12 #[.string ⟨t.toArray⟩] w8 fun e w' => ∃ v, e = .returned (.tuple #[.string m, v, .int .i64 0]) ∧ OwnedL w8.heap.size w' v S ∧ Below w8.heap.size w8 w') := Lib.hid (by
          have h := parse_any ⟨t.toArray⟩ mx w8 htz (HML.out.below HB6.out (Nat.le_refl _))
          rw [show parseP (⟨t.toArray⟩ : ByteArray).data.toList = some (m.data.toList, sortP l) from hpt, ← hS] at h
          refine h.mono fun e w' hh => ?_
          obtain ⟨hh, hb⟩ := hh
          rcases hh with ⟨mm, ll, v, he, rfl, ho⟩ | ⟨he, _⟩
          · cases he
            exact ⟨v, by rw [Lib.mk_data], ho, hb⟩
          · cases he)
        have HMA : Hid (∀ W, ML mx W → Calls Try.prog 14 #[.string ⟨t.toArray⟩] W fun e w' => e = .returned (.bool true) ∧ Below W.heap.size W w') := Lib.hid (fun W h => by
          have h := may_any ⟨t.toArray⟩ mx W htz h
          rw [show parseP (⟨t.toArray⟩ : ByteArray).data.toList = some (m.data.toList, sortP l) from hpt] at h
          exact h)
        have HST : Hid (∀ W, LReads W W.heap.size (some ⟨b, off, none⟩) l → Calls Try.prog 13 #[.slice (some ⟨b, off, none⟩) l.length cap] W fun e w' => ∃ v, e = .returned v ∧ OwnedL W.heap.size w' v S ∧ Below W.heap.size W w') := Lib.hid (fun W h => by
          rw [hS]
          exact rsorted_any (some ⟨b, off, none⟩) cap l W (by omega) h)
        clear hpt ht htz hS
        go_wp2_with fail
        refine (Hid.out HP).mono ?_
        rintro e w7 ⟨v7, rfl, hown7, hb7⟩
        have HB7 := Lib.hid (later HB6.out hb7)
        obtain ⟨A7, c7, rfl, hrd7, _, _⟩ := hown7.reads
        have HR7 := Lib.hid hrd7
        clear hrd7 hb7 hown7
        go_wp2_with fail
        refine (HST.out w7 ((HR.out.below HB7.out).more HB7.out.size)).mono ?_
        rintro e w8 ⟨v8, rfl, hown8, hb8⟩
        have HB8 := Lib.hid (later HB7.out hb8)
        obtain ⟨A8, c8, rfl, hrd8, _, _⟩ := hown8.reads
        have HSM2 := Lib.hid (same_any A7 A8 c7 c8 S w8 (by omega) ((HR7.out.below hb8).more hb8.size) hrd8)
        clear hrd8 hb8 hown8
        go_wp2_with fail
        refine (Hid.out HSM2).mono ?_
        rintro e w9 ⟨rfl, q9, rfl⟩
        have HB9 := Lib.hid (show Below w.heap.size w (w8.drewN q9) from below_drewN HB8.out q9)
        go_wp2_with fail
        refine (HMA.out _ (HML.out.below HB9.out (Nat.le_refl _))).mono ?_
        rintro e w10 ⟨rfl, hb10⟩
        have HB10 := Lib.hid (later HB9.out hb10)
        clear hb10
        go_wp2_with fail
        refine (HK.out _ HB10.out).mono ?_
        rintro e w11 ⟨rfl, hb11⟩
        go_wp2
        go_ret
        exact ⟨rfl, hb11⟩
end Go.Proofs.Ytlbnlgmgfghpoaa.labelNames
