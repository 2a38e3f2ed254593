/- The document's Set: ahead of one of its time. -/
import Derived.Test.YtaepgcicgmbbeaaWhRSetP
namespace Go.Proofs.Ytaepgcicgmbbeaa
open Go.RowKit

section
variable {B : Nat} {w : World} {rv : Nat} {A : Option Addr} {c : Nat} {T : Int} {L : List Fi}
set_option maxRecDepth 100000 in
set_option maxHeartbeats 8000000 in
theorem rset_B (h : RefW B w rv A c T L) (hi : Ids L) (hL : L.length ≤ 900) (id at' : Int) (hn : ¬ (at' < T ∨ 1125899906842624 < at')) (hcs : ∃ z, (canL id L).find? (fun z => !ltF z (id, at')) = some z ∧ z.2 = at') :
    Calls Try.prog 22 #[.pointer (some ⟨rv, 0, none⟩), .int .i64 id, .int .i64 at'] w (RefP B w rv A T (insL (id, at') (canL id L)) (.int .i64 0)) := by
  have c0 := h.cells.1
  have e1 : decide (at' < T) = false := by simp; omega
  have e2 : decide (1125899906842624 < at') = false := by simp; omega
  have HC := Lib.hid (rcancel_any h hi (by omega) id)
  have HLN := Lib.hid (show (canL id L).length ≤ 900 from Nat.le_trans (List.length_filter_le _ _) hL)
  have HB := Lib.hid (show blkA A = blkA A from rfl)
  have H0 := Lib.hid h
  have HCS := Lib.hid hcs
  clear h hi hL hn hcs
  go_enter Try.func22, Try.ntmps22
  go_wp2_with fail
  refine (Hid.out HC).mono ?_
  rintro e W ⟨rfl, A1, c1, q1, q2, q3⟩
  have H := Lib.hid q1
  have HT := Lib.hid q2
  have HA := Lib.hid q3
  obtain ⟨d0, d1, df⟩ := q1.cells
  have dfz := df 1
  obtain ⟨M, hM⟩ : ∃ M, M = canL id L := ⟨_, rfl⟩
  have HMM := Lib.hid hM
  rw [← hM] at H HLN d1 HCS
  clear q1 q2 q3 HC c0 hM df e1 e2
  go_wp2
  go_loopw [7] (fun i wr => ∃ k : Nat, i = .int .i64 (k : Int) ∧ k ≤ M.length ∧ Hid (∀ y ∈ M.take k, ltF y (id, at') = true) ∧ W = wr) (fun i _ => M.length - (intOf i).toNat)
  case atStart => exact ⟨0, rfl, Nat.zero_le _, Lib.hid (by simp), rfl⟩
  case round =>
    obtain ⟨k, rfl, hk, HQ, rfl⟩ := hrel
    have HSK : Hid (∀ y, M[k]? = some y → ltF y (id, at') = true → ∀ z ∈ M.take (k + 1), ltF z (id, at') = true) := Lib.hid (fun y hy hl z hz => by
      rw [List.take_add_one, hy] at hz
      rcases List.mem_append.1 hz with h | h
      · exact HQ.out z h
      · simp at h
        rw [h]
        exact hl)
    by_cases hgo : ∃ y, M[k]? = some y ∧ ltF y (id, at') = true
    · obtain ⟨y, hy, hly⟩ := hgo
      obtain ⟨b, off, rfl, g0, g1⟩ := H.out.at_ hy
      have hlt : k < M.length := (List.getElem?_eq_some_iff.1 hy).1
      have f2 : (k : Int) < (M.length : Int) := by omega
      have f3 : (0 : Int) ≤ (k : Int) := by omega
      have HY := Lib.hid hy
      have HLY := Lib.hid hly
      have HKL := Lib.hid hlt
      have HWK := Lib.hid (wrapS (i := k) (by have := HLN.out; omega))
      have hcs := ltF_iff.1 hly
      simp only at hcs
      clear hy hlt hly
      by_cases hlt2 : y.2 < at'
      · have hb : decide (y.2 < at') = true := by simpa using hlt2
        clear hcs hlt2
        go_wp2
        go_roundw
        case rel => exact ⟨k + 1, congrArg (Value.int .i64) HWK.out, HKL.out, Lib.hid (HSK.out y HY.out HLY.out), trivial⟩
        case measure => exact measS HKL.out HWK.out
      · have hb : decide (y.2 < at') = false := by simpa using hlt2
        have hb2 : (y.2 == at') = true := by simp; omega
        have hb3 : decide (y.1 < id) = true := by simp; omega
        clear hcs hlt2
        go_wp2
        go_roundw
        case rel => exact ⟨k + 1, congrArg (Value.int .i64) HWK.out, HKL.out, Lib.hid (HSK.out y HY.out HLY.out), trivial⟩
        case measure => exact measS HKL.out HWK.out
    · have HEX : Hid (∀ y, M[k]? = some y → ltF y (id, at') = false) := Lib.hid (fun y hy => by
        cases h : ltF y (id, at') with
        | false => rfl
        | true => exact absurd ⟨y, hy, h⟩ hgo)
      clear hgo HSK
      by_cases hlt : k < M.length
      · obtain ⟨y, hy⟩ : ∃ y, M[k]? = some y := ⟨_, List.getElem?_eq_getElem hlt⟩
        have hfd := find_at HQ.out hy (HEX.out y hy)
        obtain ⟨z, hz, heq⟩ := HCS.out
        rw [hfd] at hz
        cases hz
        clear hfd HCS
        obtain ⟨b, off, rfl, y0, y1⟩ := H.out.at_ hy
        have f2 : (k : Int) < (M.length : Int) := by omega
        have hly := HEX.out y hy
        unfold ltF at hly
        rw [decide_eq_false_iff_not] at hly
        simp only at hly
        have hb : decide (y.2 < at') = false := by simp; omega
        have hb2 : (y.2 == at') = true := by simpa using heq
        have hb3 : decide (y.1 < id) = false := by simp; omega
        clear hly heq hy
        obtain ⟨R1, hR1⟩ : ∃ R1, R1 = M.take k := ⟨_, rfl⟩
        obtain ⟨R2, hR2⟩ : ∃ R2, R2 = M.drop k := ⟨_, rfl⟩
        have HIN : Hid (insL (id, at') M = R1 ++ (id, at') :: R2) := Lib.hid (by rw [hR1, hR2]; exact ins_split HQ.out HEX.out)
        have HP := Lib.hid (show R1.length = k by rw [hR1, List.length_take]; omega)
        have HM2 := Lib.hid (show R2.length = (M.length - k) by rw [hR2, List.length_drop])
        have hsp : M = R1 ++ R2 := by rw [hR1, hR2]; exact (List.take_append_drop k M).symm
        have hcap := H.out.cap
        have hrd := H.out.reads
        have hml := HLN.out
        have HCL : Hid (∀ X, Turns [] W X → X.cell? ⟨rv, 1, none⟩ = some (.slice (some ⟨b, off, none⟩) M.length c1) ∧ X.frozen? ⟨rv, 1, none⟩ = false ∧ W.heap.size ≤ X.heap.size) := Lib.hid (fun X ht => ⟨(ht.cell H.out.lt (by simp) 1).trans H.out.cells.2.1, (ht.frozen H.out.lt (by simp) 1).trans (H.out.cells.2.2 1), ht.size⟩)
        have HR1 : Hid (∀ X, Turns [] W X → fK.Reads X W.heap.size (some ⟨b, off, none⟩) R1) := Lib.hid (fun X ht => by
          have := EK.Reads.part fOk (l1 := []) (l2 := R1) (l3 := R2) (by simpa [← hsp] using hrd.turns (Nat.le_refl _) ht (by simp))
          simpa using this)
        have HR2 : Hid (∀ X, Turns [] W X → fK.Reads X W.heap.size (if c1 = k then some ⟨b, off, none⟩ else some ⟨b, off + k * 2, none⟩) R2) := Lib.hid (fun X ht => by
          by_cases hcp : c1 = k
          · exact .inl (List.eq_nil_of_length_eq_zero (by rw [HM2.out]; omega))
          · rw [if_neg hcp]
            have := EK.Reads.part fOk (off := off) (l1 := R1) (l2 := R2) (l3 := []) (by simpa [← hsp] using hrd.turns (Nat.le_refl _) ht (by simp))
            simpa [HP.out, fK] using this)
        have HL1 := Lib.hid (show ([] : List Fi).length + R1.length ≤ 100000 by rw [HP.out]; simp <;> omega)
        have HL2 := Lib.hid (show ([] ++ R1).length + [((id, at') : Fi)].length ≤ 100000 by simp [HP.out] <;> omega)
        have HL3 := Lib.hid (show ([] ++ R1 ++ [((id, at') : Fi)]).length + R2.length ≤ 100000 by simp [HP.out, HM2.out] <;> omega)
        obtain ⟨e0, e3, _⟩ := HCL.out W (Turns.refl _ _)
        obtain ⟨g0, g3, _⟩ := HCL.out (W.alloc (.cells #[.int .i64 id, .int .i64 at'] 44)) (Turns.alloc (F := []) _ _)
        have hk1 : (k : Int) ≤ (c1 : Int) := by omega
        have hk2 : (k : Int) ≤ (M.length : Int) := by omega
        have hk3 : (M.length : Int) ≤ (c1 : Int) := by omega
        have hi0 : (0 : Int) ≤ (k : Int) := by omega
        clear hcap hrd
        clear hsp hR1 hR2 hml
        go_wp2
        go_region_law (first | (refine EK.step_append_all fOk (by rfl) (.const (.slice none 0 0)) (.tmp 72) (by rfl) W.heap.size (.slice none 0 0) [] (by rfl) (World.ownsRow_nil _ _ _ _) W.heap.size (some ⟨b, off, none⟩) R1 k c1 HP.out (by kernel_rfl) (HR1.out _ (by first | exact Turns.refl _ _ | exact (Turns.refl _ _).drew | exact ((Turns.refl [] _).drew.trans (Turns.alloc (F := []) _ _) (by simp)) | exact Turns.alloc (F := []) _ _ | exact (Turns.alloc (F := []) _ _).drew)) HL1.out (HCL.out _ (by first | exact Turns.refl _ _ | exact (Turns.refl _ _).drew | exact ((Turns.refl [] _).drew.trans (Turns.alloc (F := []) _ _) (by simp)) | exact Turns.alloc (F := []) _ _ | exact (Turns.alloc (F := []) _ _).drew)).2.2 ?_; intro v2 w2 hown2 ht2 hf2; have HT2 := Lib.hid (show Turns [] W w2 from Turns.trans (by first | exact Turns.refl _ _ | exact (Turns.refl _ _).drew | exact ((Turns.refl [] _).drew.trans (Turns.alloc (F := []) _ _) (by simp)) | exact Turns.alloc (F := []) _ _ | exact (Turns.alloc (F := []) _ _).drew) (ht2.mono (G := []) (by simp [ownB, Value.ownBlock])) (by simp)); have HO2 := Lib.hid hown2; have HG2 := Lib.hid (show ∀ i ∈ ownB v2, W.heap.size ≤ i from fun i hi => by rcases hf2 i hi with h1 | h1; (simp [ownB, Value.ownBlock] at h1); (rw [h1]; first | exact Nat.le_refl _ | simp)); obtain ⟨m0, m3, _⟩ := HCL.out w2 HT2.out; have HLT2 := Lib.hid ht2; obtain ⟨m0', m3', _⟩ := HCL.out (w2.alloc (.cells #[.int .i64 id, .int .i64 at'] 44)) (HT2.out.trans (Turns.alloc (F := []) _ _) (by simp)); clear hown2 ht2 hf2) | (refine EK.step_append_all fOk (by rfl) (.tmp 73) (.tmp 77) (by rfl) W.heap.size v2 ([] ++ R1) (by kernel_rfl) (by first | exact HO2.out | exact HO2.out.alloc _) _ _ [((id, at') : Fi)] 1 1 rfl (by rfl) (by first | exact EK.Reads.lone fOk ((id, at') : Fi) _ _ (by rfl) rfl | exact (EK.Reads.lone (W := W.drew) (p := W.heap.size) fOk ((id, at') : Fi) _ 44 (by rfl) rfl).turns (by simp) HLT2.out (by simp [ownB, Value.ownBlock])) HL2.out (by first | exact (HCL.out w2 HT2.out).2.2 | exact (HCL.out _ (HT2.out.trans (Turns.alloc (F := []) _ _) (by simp))).2.2) ?_; intro v3 w3 hown3 ht3 hf3; have HO3 := Lib.hid hown3; have HT3 := Lib.hid (show Turns [] W w3 from by first | exact HT2.out.trans ht3 (fun i hi => .inr (HG2.out i hi)) | exact (HT2.out.trans (Turns.alloc (F := []) _ _) (by simp)).trans ht3 (fun i hi => .inr (HG2.out i hi))); have HG3 := Lib.hid (show ∀ i ∈ ownB v3, W.heap.size ≤ i from fun i hi => by rcases hf3 i hi with h1 | h1; (exact HG2.out i h1); (subst h1; first | exact HT2.out.size | exact (HT2.out.trans (Turns.alloc (F := []) _ _) (by simp)).size)); obtain ⟨n0, n3, _⟩ := HCL.out w3 HT3.out; clear hown3 ht3 hf3) | (refine EK.step_append_all fOk (by rfl) (.tmp 78) (.tmp 84) (by rfl) W.heap.size v3 ([] ++ R1 ++ [((id, at') : Fi)]) (by kernel_rfl) HO3.out W.heap.size (if c1 = k then some ⟨b, off, none⟩ else some ⟨b, off + k * 2, none⟩) R2 (M.length - k) (c1 - k) HM2.out (by kernel_rfl) (HR2.out _ HT3.out) HL3.out HT3.out.size ?_; intro v4 w4 hown4 ht4 hf4; have HO4 := Lib.hid hown4; have HB4 := Lib.hid (show Below W.heap.size W w4 from (HT3.out.trans ht4 (fun i hi => .inr (HG3.out i hi))).below (by simp) (Nat.le_refl _)); obtain ⟨o0, o3, _⟩ := HCL.out w4 (Turns.of_below HB4.out (Nat.le_refl _)); obtain ⟨A4, c4, rfl, _⟩ := hown4.reads; obtain ⟨N4, hN4⟩ : ∃ N4, N4 = ([] ++ R1 ++ [((id, at') : Fi)] ++ R2).length := ⟨_, rfl⟩; rw [← hN4] at HO4 ⊢; clear hown4 ht4 hf4 hN4))
        all_goals
          have HE := Lib.hid (H.out.laid HB4.out HO4.out)
          clear e0 e3 g0 g3 m0 m3 m0' m3' n0 n3 o0 o3
          go_wp2
          all_goals
            go_ret
            obtain ⟨A', c', _, p2, p3, p4⟩ := HE.out
            refine ⟨rfl, A', c', ?_, HT.out.then p3, fun i hi => .inr (Nat.le_trans HT.out.size (p4 i hi))⟩
            rw [← HMM.out, HIN.out]
            simpa using p2
      · exfalso
        have hfd := find_no HQ.out (show M.length ≤ k by omega)
        rw [hfd] at HCS
        obtain ⟨z, hz, _⟩ := HCS.out
        cases hz
end
end Go.Proofs.Ytaepgcicgmbbeaa
