/- The document's Name. -/
import Derived.Test.YtnbghappfclnjaaRefSorted
import Derived.Test.YtnbghappfclnjaaRefEscA
import Derived.Test.YtnbghappfclnjaaLabName
namespace Go.Proofs.Ytnbghappfclnjaa
open Go.RowKit

set_option maxRecDepth 100000 in
set_option maxHeartbeats 8000000 in
theorem rname_any (A : Option Addr) (cap : Nat) (m : ByteArray) (l : List Lbl) (w : World) (hm : m.size ≤ 1000000) (hl : l.length ≤ 1000) (hs : smallL l) (hr : LReads w w.heap.size A l) :
    Calls Try.prog 25 #[.string m, .slice A l.length cap] w (NamePost (nameP m.data.toList l) w) := by
  have HR := Lib.hid hr
  have HNP := Lib.hid (nameP_may m.data.toList l)
  have HME := fun W => Lib.hid (rmetric_any m W (by omega))
  have HMY := Lib.hid (may_lbl A cap l w (by omega) hs hr)
  have HST : ∀ W, LReads W W.heap.size A l → Hid (Calls Try.prog 48 #[.slice A l.length cap] W fun e w' => ∃ v, e = .returned v ∧ OwnedL W.heap.size w' v (sortP l) ∧ Below W.heap.size W w') := fun W h => Lib.hid (rsorted_any A cap l W hl h)
  have HST := Lib.hid HST
  clear hs hr
  cases hmb : metB m.data.toList with
  | false =>
    rw [hmb] at HME HNP
    have HE := Lib.hid (show nameP m.data.toList l = none by rw [HNP.out]; rfl)
    clear hmb
    go_enter Try.func25, Try.ntmps25
    go_wp2_with fail
    refine (Hid.out (HME _)).mono ?_
    rintro e w' ⟨rfl, rfl⟩
    go_wp2
    go_ret2
    rw [HE.out]
    exact ⟨rfl, Below.refl _ _⟩
  | true =>
    rw [hmb] at HME HNP
    clear hmb
    cases hmy : mayP l with
    | false =>
      rw [hmy] at HMY HNP
      have HE := Lib.hid (show nameP m.data.toList l = none by rw [HNP.out]; rfl)
      clear hmy
      go_enter Try.func25, Try.ntmps25
      go_wp2_with fail
      refine (Hid.out (HME _)).mono ?_
      rintro e w' ⟨rfl, rfl⟩
      go_wp2_with fail
      refine (Hid.out HMY).mono ?_
      rintro e w' ⟨rfl, q, rfl⟩
      go_wp2
      go_ret2
      rw [HE.out]
      exact ⟨rfl, below_drewN (Below.refl _ _) q⟩
    | true =>
      rw [hmy] at HMY HNP
      have HE := Lib.hid (show nameP m.data.toList l = some (textT m.data.toList (sortP l)) by rw [HNP.out]; rfl)
      have HLB := Lib.hid (show labsB (sortP l) = true by
        unfold mayP at hmy
        simp only [Bool.and_eq_true] at hmy
        rw [labsB_perm (sortP_perm l)]
        exact hmy.2.1)
      have hl16 : (sortP l).length ≤ 16 := by
        unfold mayP at hmy
        simp only [Bool.and_eq_true, decide_eq_true_eq] at hmy
        rw [sortP_len]
        exact hmy.1
      have HTE := Lib.hid (textT_eq m.data.toList (sortP l))
      clear hmy
      go_enter Try.func25, Try.ntmps25
      go_wp2_with fail
      refine (Hid.out (HME _)).mono ?_
      rintro e w' ⟨rfl, rfl⟩
      go_wp2_with fail
      refine (Hid.out HMY).mono ?_
      rintro e w' ⟨rfl, q, rfl⟩
      go_wp2_with fail
      refine (Hid.out (HST.out (w.drewN q) (HR.out.below (w' := w.drewN q) (below_drewN (Below.refl _ _) q) : LReads (w.drewN q) w.heap.size A l))).mono ?_
      rintro e w1 ⟨v1, rfl, hown, hb1⟩
      have HB1 := Lib.hid (show Below w.heap.size w w1 from (below_drewN (Below.refl _ _) q).trans hb1)
      have hB1 : w.heap.size ≤ w1.heap.size := HB1.out.size
      generalize sortP l = S at hown HE HLB hl16 HTE
      obtain ⟨A1, c1, rfl, hrd, _, _⟩ := hown.reads
      have HRD := Lib.hid hrd
      clear hown hb1 hrd
      go_wp2
      go_loopw [6, 7] (fun t i wr => ∃ (k : Nat) (T : ByteArray), t = .string T ∧ k ≤ S.length ∧ i = .int .i64 k ∧ Hid (T.data.toList = m.data.toList ++ piecesT (S.take k)) ∧ Hid (Below w1.heap.size w1 wr) ∧ w1.heap.size ≤ wr.heap.size) (fun _ i _ => S.length - (intOf i).toNat)
      case atStart => exact ⟨0, m, rfl, Nat.zero_le _, rfl, Lib.hid (by simp [piecesT]), Lib.hid (Below.refl _ _), Nat.le_refl _⟩
      case round =>
        obtain ⟨k, T, rfl, hk, rfl, HTX, HB, hBr⟩ := hrel
        by_cases hlt : k < S.length
        · obtain ⟨x, hx⟩ : ∃ x, S[k]? = some x := ⟨_, List.getElem?_eq_getElem hlt⟩
          obtain ⟨b, off, rfl, hb, hc⟩ := HRD.out.at (by omega)
          have hc1 := (HB.out.cell (p := ⟨b, off + k * 2, none⟩) hb).trans (hc k x hx).1
          have hc2 := (HB.out.cell (p := ⟨b, off + k * 2 + 1, none⟩) hb).trans (hc k x hx).2
          unfold strV at hc1 hc2
          have hbr : b < wr.heap.size := Nat.lt_of_lt_of_le hb hBr
          have HSN := Lib.hid (piecesT_snoc hx)
          have hlt' : (k : Int) < (S.length : Int) := by omega
          have hk0 : (0 : Int) ≤ (k : Int) := by omega
          have hlx := List.all_eq_true.1 HLB.out x (List.mem_of_getElem? hx)
          have HES := fun W => Lib.hid (rescape_any ⟨x.2.toArray⟩ W (by
            unfold labB at hlx
            rw [Bool.and_eq_true, decide_eq_true_eq] at hlx
            rw [Lib.size_eq]
            show x.2.length ≤ _
            omega))
          change ∀ W, Hid (Calls Try.prog _ _ W fun e w' => e = .returned (.string ⟨(escL x.2).toArray⟩) ∧ Below W.heap.size W w') at HES
          have HTS := Lib.hid (show T.size ≤ 1040000 by
            have h1 := piecesT_len k HLB.out
            rw [Lib.size_eq, HTX.out, List.length_append, ← Lib.size_eq]
            omega)
          have HX1 := Lib.hid (show x.1.length ≤ 300 by
            have h := labT_len hlx
            unfold labB wrdB at hlx
            simp only [Bool.and_eq_true] at hlx
            have := metB_len hlx.1.1
            omega)
          have HX2 := Lib.hid (show (escL x.2).length ≤ 4000 by
            have h := labT_len hlx
            simp only [labT, List.length_append, List.length_cons, List.length_nil] at h
            omega)
          clear hc hx hlx
          by_cases hz : k = 0
          · subst hz
            rw [if_pos rfl] at HSN
            simp only [Nat.zero_mul, Nat.add_zero] at hc1 hc2
            have z1 : ¬ (9223372036854775807 < T.size + 1) := by have := HTS.out; omega
            have z1' : ¬ (9223372036854775806 < T.size) := by have := HTS.out; omega
            have z2 : ¬ (9223372036854775807 < T.size + 1 + x.1.length) := by have := HTS.out; have := HX1.out; omega
            have z3 : ¬ (9223372036854775807 < T.size + 1 + x.1.length + 2) := by have := HTS.out; have := HX1.out; omega
            have z3' : ¬ (9223372036854775805 < T.size + 1 + x.1.length) := by have := HTS.out; have := HX1.out; omega
            have z4 : ¬ (9223372036854775807 < T.size + 1 + x.1.length + 2 + (escL x.2).length) := by have := HTS.out; have := HX1.out; have := HX2.out; omega
            have z5 : ¬ (9223372036854775807 < T.size + 1 + x.1.length + 2 + (escL x.2).length + 1) := by have := HTS.out; have := HX1.out; have := HX2.out; omega
            have z5' : ¬ (9223372036854775806 < T.size + 1 + x.1.length + 2 + (escL x.2).length) := by have := HTS.out; have := HX1.out; have := HX2.out; omega
            go_wp2
            go_region_with (go_at_call 49; refine (Hid.out (HES _)).mono ?_; rintro e w3 ⟨rfl, hb3⟩; have HB3 := Lib.hid hb3; have n1 := (HB3.out.cell (p := ⟨b, off, none⟩) (show b < wr.heap.size from hbr)).trans hc1; clear hb3)
            all_goals
              have HBN := Lib.hid (show Below w1.heap.size w1 w3 from HB.out.trans (((Below.refl _ _).drew).trans (HB3.out.mono hBr)))
              have hBN : w1.heap.size ≤ w3.heap.size := HBN.out.size
              clear z1 z1' z2 z3 z3' z4 z5 z5'
              go_wp2
              go_roundw
              case rel => exact ⟨0 + 1, _, rfl, by omega, by go_num, Lib.hid (by rw [HSN.out]; simp [HTX.out, labT]), HBN, hBN⟩
              case measure => simp [intOf] <;> omega
          · have hz' : decide ((k : Int) = 0) = false := by simp; omega
            rw [if_neg hz] at HSN
            have z1 : ¬ (9223372036854775807 < T.size + 1) := by have := HTS.out; omega
            have z1' : ¬ (9223372036854775806 < T.size) := by have := HTS.out; omega
            have z2 : ¬ (9223372036854775807 < T.size + 1 + x.1.length) := by have := HTS.out; have := HX1.out; omega
            have z3 : ¬ (9223372036854775807 < T.size + 1 + x.1.length + 2) := by have := HTS.out; have := HX1.out; omega
            have z3' : ¬ (9223372036854775805 < T.size + 1 + x.1.length) := by have := HTS.out; have := HX1.out; omega
            have z4 : ¬ (9223372036854775807 < T.size + 1 + x.1.length + 2 + (escL x.2).length) := by have := HTS.out; have := HX1.out; have := HX2.out; omega
            have z5 : ¬ (9223372036854775807 < T.size + 1 + x.1.length + 2 + (escL x.2).length + 1) := by have := HTS.out; have := HX1.out; have := HX2.out; omega
            have z5' : ¬ (9223372036854775806 < T.size + 1 + x.1.length + 2 + (escL x.2).length) := by have := HTS.out; have := HX1.out; have := HX2.out; omega
            go_wp2
            go_region_with (go_at_call 49; refine (Hid.out (HES _)).mono ?_; rintro e w3 ⟨rfl, hb3⟩; have HB3 := Lib.hid hb3; have n1 := (HB3.out.cell (p := ⟨b, off + k * 2, none⟩) (show b < wr.heap.size from hbr)).trans hc1; clear hb3)
            all_goals
              have HBN := Lib.hid (show Below w1.heap.size w1 w3 from HB.out.trans (((Below.refl _ _).drew).trans (HB3.out.mono hBr)))
              have hBN : w1.heap.size ≤ w3.heap.size := HBN.out.size
              clear z1 z1' z2 z3 z3' z4 z5 z5'
              go_wp2
              go_roundw
              case rel => exact ⟨k + 1, _, rfl, by omega, by go_num, Lib.hid (by rw [HSN.out]; simp [HTX.out, labT]), HBN, hBN⟩
              case measure => simp [intOf] <;> omega
        · have hge : decide ((k : Int) < (S.length : Int)) = false := by simp; omega
          have hk' : k = S.length := by omega
          have HT := Lib.hid (show S.take k = S by rw [hk', List.take_length])
          by_cases h0 : S = []
          · have HX := Lib.hid (show T = ⟨(textT m.data.toList S).toArray⟩ from ba_eq (by rw [HTX.out, HT.out, HTE.out, if_pos h0, h0]; simp [piecesT]))
            clear hk'
            subst h0
            go_wp2
            go_ret2
            rw [HE.out, HX.out]
            exact ⟨rfl, HB1.out.trans (HB.out.mono hB1)⟩
          · have hn : (0 : Int) < (S.length : Int) := by have := List.length_pos_iff.2 h0; omega
            have HX := Lib.hid (show T ++ ⟨#[125]⟩ = ⟨(textT m.data.toList S).toArray⟩ from ba_eq (by
              have e : (T ++ ⟨#[125]⟩ : ByteArray).data.toList = T.data.toList ++ [125] := by simp
              rw [e, HTX.out, HT.out, HTE.out, if_neg h0]))
            have HTS := (show T.size ≤ 1040000 by
              have h1 := piecesT_len k HLB.out
              rw [Lib.size_eq, HTX.out, List.length_append, ← Lib.size_eq]
              omega)
            have z1 : ¬ (9223372036854775807 < T.size + 1) := by omega
            have z1' : ¬ (9223372036854775806 < T.size) := by omega
            clear hk' h0 HTS
            go_wp2
            go_ret2
            rw [HE.out, HX.out]
            exact ⟨rfl, HB1.out.trans (HB.out.mono hB1)⟩
end Go.Proofs.Ytnbghappfclnjaa
