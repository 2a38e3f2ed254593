/- The document's Close. -/
import Derived.Test.YtlelemjmknbnaaaDocDial
namespace Go.Proofs.Ytlelemjmknbnaaa
open Go.RowKit

set_option maxRecDepth 100000 in
set_option maxHeartbeats 1000000 in
theorem rclose_no {B : Nat} {w : World} {rn : Nat} {v : Value} {most : Int} {N : Nat} {rs : List Rc} (h : RefAt B w rn v most N rs) (hl : rs.length ≤ 1000) (k : Int) (hz : getR rs k = none) :
    Calls Try.prog 31 #[.pointer (some ⟨rn, 0, none⟩), .int .i64 k] w fun e w' => e = .returned (.int .i64 8) ∧ w = w' := by
  have HOF := Lib.hid (of_any h hl k)
  have HR := Lib.hid h.rise
  have HZ := Lib.hid hz
  clear h hz
  go_enter Try.func31, Try.ntmps31
  go_wp2_with fail
  refine HOF.out.mono ?_
  rintro e w1 ⟨⟨i, r, hi, hk, rfl⟩ | ⟨hno, rfl⟩, rfl⟩
  · have := getR_at HR.out hi hk
    rw [HZ.out] at this
    cases this
  · clear hno
    go_wp2
    go_ret
    exact ⟨rfl, rfl⟩
theorem RefAt.shut {B : Nat} {w W1 w3 : World} {rn : Nat} {v v' : Value} {most : Int} {N : Nat} {R1 R2 : List Rc} {r : Rc} (h : RefAt B w rn v most N (R1 ++ r :: R2)) (hs : W1.heap.size = w.heap.size) (h1 : Turns [] w W1) (hb : Below W1.heap.size W1 w3)
    (ho : rcK.Own w.heap.size w3 v' ([] ++ R1 ++ R2)) (hg : ∀ i ∈ ownB v', W1.heap.size ≤ i) :
    RefAt B (w3.setCell ⟨rn, 0, none⟩ v') rn v' most N (R1 ++ R2) ∧ Turns [rn] w (w3.setCell ⟨rn, 0, none⟩ v') ∧ ∀ i ∈ ownB v', w.heap.size ≤ i := by
  have hrn : rn < w.heap.size := lt_of_block h.head
  have hoff : rn ∉ ownB v' := fun hm => by have := hg rn hm; omega
  have ht : Turns [rn] w3 (w3.setCell ⟨rn, 0, none⟩ v') := Turns.setCell _ _ _ (List.mem_singleton.2 rfl)
  have hb0 : Turns [] w w3 := h1.trans (Turns.of_below hb (Nat.le_refl _)) (by simp)
  have hd := (hb0.block rn hrn (by simp)).trans h.head
  have hh : (w3.setCell ⟨rn, 0, none⟩ v').heap[rn]? = some (.cells #[v', .int .i64 most, .int .i64 (N : Int)] 50 (0, 0)) := by
    have := heap_cell (w := w3) (j := 0) v' hd
    simpa using this
  have hsub : ∀ x ∈ R1 ++ R2, x ∈ R1 ++ r :: R2 := fun y hy => by
    rcases List.mem_append.1 hy with h1 | h1
    · exact List.mem_append.2 (.inl h1)
    · exact List.mem_append.2 (.inr (List.mem_cons.2 (.inr h1)))
  refine ⟨⟨hh, ?_, h.low, hoff, fun x hx => h.ids x (hsub x hx), h.rise.sublist (List.Sublist.append (List.Sublist.refl _) (List.sublist_cons_self _ _)), fun x hx => h.ats x (hsub x hx)⟩, (hb0.mono (by simp)).trans ht (fun i hi => .inl hi), fun i hi => by have := hg i hi; omega⟩
  rw [List.nil_append] at ho
  exact (ho.turns ht (fun g hg' hm => by rw [List.mem_singleton] at hm; subst hm; exact hoff (ownB_mem hg'))).low (Nat.le_trans h.low (Nat.le_of_lt hrn))
set_option maxRecDepth 100000 in
set_option maxHeartbeats 4000000 in
theorem rclose_ok {B : Nat} {w : World} {rn : Nat} {v : Value} {most : Int} {N : Nat} {R1 R2 : List Rc} {r : Rc} (h : RefAt B w rn v most N (R1 ++ r :: R2)) (hl : (R1 ++ r :: R2).length ≤ 1000) :
    Calls Try.prog 31 #[.pointer (some ⟨rn, 0, none⟩), .int .i64 (r.id : Int)] w fun e w' => e = .returned (.int .i64 0) ∧ (∃ v', RefAt B w' rn v' most N (R1 ++ R2) ∧ ∀ i ∈ ownB v', w.heap.size ≤ i) ∧ Turns [rn] w w' := by
  have HOF := Lib.hid (of_at h hl)
  obtain ⟨e0, _, _, hf⟩ := h.cells
  have e3 := hf 0
  obtain ⟨g, c, hv, -, -, -, -, hlt⟩ := h.place
  obtain ⟨A', c', hv', hrd, hcap, _⟩ := h.own.reads
  rw [hv] at hv'
  cases hv'
  rw [hv] at e0
  obtain ⟨P, hP⟩ : ∃ P, P = R1.length := ⟨_, rfl⟩
  obtain ⟨NN, hNN⟩ : ∃ NN, NN = (R1 ++ r :: R2).length := ⟨_, rfl⟩
  have hN2 : NN = P + 1 + R2.length := by rw [hNN, hP]; simp; omega
  rw [← hNN] at e0 hlt hcap
  rw [← hP] at hlt HOF
  have hi0 : (0 : Int) ≤ (P : Int) := by omega
  have hi1 : decide ((P : Int) < 0) = false := by simp
  have hadd : IntKind.i64.wrap ((P : Int) + 1) = (P : Int) + 1 := IntWalk.i64_in _ (by omega)
  have H := Lib.hid h
  rw [← hNN] at hv
  have HV := Lib.hid hv
  have HNN := Lib.hid hNN
  have HN2 := Lib.hid hN2
  have HP := Lib.hid hP.symm
  have HRC : Hid (∀ W, Turns [] w W → rcK.Reads W w.heap.size (some ⟨g, 0, none⟩) (R1 ++ r :: R2) ∧ w.heap.size ≤ W.heap.size) := Lib.hid (fun W ht => ⟨hrd.turns (Nat.le_refl _) ht (by simp), ht.size⟩)
  have HR1 : Hid (∀ W, Turns [] w W → rcK.Reads W w.heap.size (some ⟨g, 0, none⟩) R1) := Lib.hid (fun W ht => by
    have := EK.Reads.part rcOk (l1 := []) (l2 := R1) (l3 := r :: R2) (HRC.out W ht).1
    simpa using this)
  have HR2 : Hid (∀ W, Turns [] w W → rcK.Reads W w.heap.size (if c = P + 1 then some ⟨g, 0, none⟩ else some ⟨g, (P + 1) * 6, none⟩) R2) := Lib.hid (fun W ht => by
    by_cases hcp : c = P + 1
    · exact .inl (List.eq_nil_of_length_eq_zero (by omega))
    · rw [if_neg hcp]
      have := EK.Reads.part rcOk (off := 0) (l1 := R1 ++ [r]) (l2 := R2) (l3 := []) (by simpa using (HRC.out W ht).1)
      simpa [hP, rcK] using this)
  have HM2 := Lib.hid (show R2.length = NN - (P + 1) by omega)
  have HL1 := Lib.hid (show ([] : List Rc).length + R1.length ≤ 100000 by simp; omega)
  have HL2 := Lib.hid (show ([] ++ R1).length + R2.length ≤ 100000 by simp; omega)
  have hk1 : (P : Int) ≤ (c : Int) := by omega
  have hk2 : (P : Int) + 1 ≤ (NN : Int) := by omega
  have hk3 : (NN : Int) ≤ (c : Int) := by omega
  have hk4 : (0 : Int) ≤ (P : Int) + 1 := by omega
  clear h hf hv hrd hNN hN2 hP
  go_enter Try.func31, Try.ntmps31
  go_wp2_with fail
  refine HOF.out.mono ?_
  rintro e w1 ⟨rfl, rfl⟩
  go_wp2_with fail
  go_region_law (first | (refine EK.step_append_all rcOk (by rfl) (.const (.slice none 0 0)) (.tmp 17) (by rfl) w.heap.size (.slice none 0 0) [] (by rfl) (World.ownsRow_nil _ _ _ _) w.heap.size (some ⟨g, 0, none⟩) R1 P c HP.out (by kernel_rfl) (HR1.out _ (by first | exact Turns.refl _ _ | exact (Turns.refl _ _).drew)) HL1.out (HRC.out _ (by first | exact Turns.refl _ _ | exact (Turns.refl _ _).drew)).2 ?_; intro v2 w2 hown2 ht2 hf2; have HT2 := Lib.hid (show Turns [] w w2 from Turns.trans (by first | exact Turns.refl _ _ | exact (Turns.refl _ _).drew) (ht2.mono (G := []) (by simp [ownB, Value.ownBlock])) (by simp)); have HO2 := Lib.hid hown2; have HG2 := Lib.hid (show ∀ i ∈ ownB v2, w.heap.size ≤ i from fun i hi => by rcases hf2 i hi with h1 | h1; (simp [ownB, Value.ownBlock] at h1); (rw [h1]; first | exact Nat.le_refl _ | simp)); have hd2 := (HT2.out.block rn (lt_of_block H.out.head) (by simp)).trans H.out.head; have m0 : w2.cell? ⟨rn, 0, none⟩ = some (.slice (some ⟨g, 0, none⟩) NN c) := (by simp [World.cell?, hd2, HV.out]); have m3 : w2.frozen? ⟨rn, 0, none⟩ = false := (by simp [World.frozen?, hd2]); clear hown2 ht2 hf2 hd2) | (refine EK.step_append_all rcOk (by rfl) (.tmp 18) (.tmp 25) (by rfl) w.heap.size v2 ([] ++ R1) (by kernel_rfl) HO2.out w.heap.size (if c = P + 1 then some ⟨g, 0, none⟩ else some ⟨g, (P + 1) * 6, none⟩) R2 (NN - (P + 1)) (c - (P + 1)) HM2.out (by kernel_rfl) (HR2.out _ HT2.out) HL2.out HT2.out.size ?_; intro v3 w3 hown3 ht3 hf3; have HO3 := Lib.hid hown3; have HB3 := Lib.hid (show Below w.heap.size w w3 from (HT2.out.below (by simp) (Nat.le_refl _)).trans (ht3.below HG2.out HT2.out.size)); have HG3 := Lib.hid (show ∀ i ∈ ownB v3, w.heap.size ≤ i from fun i hi => by rcases hf3 i hi with h1 | h1; (exact HG2.out i h1); (subst h1; exact HT2.out.size)); have HD3 := Lib.hid ((HB3.out.block rn (lt_of_block H.out.head)).trans H.out.head); have n0 : w3.cell? ⟨rn, 0, none⟩ = some (.slice (some ⟨g, 0, none⟩) NN c) := (by simp [World.cell?, HD3.out, HV.out]); have n3 : w3.frozen? ⟨rn, 0, none⟩ = false := (by simp [World.frozen?, HD3.out]); obtain ⟨A3, c3, rfl, _⟩ := hown3.reads; obtain ⟨M, hM⟩ : ∃ M, M = ([] ++ R1 ++ R2).length := ⟨_, rfl⟩; rw [← hM] at HG3 HO3 ⊢; clear hown3 ht3 hf3 hM))
  all_goals
    have HE := Lib.hid (H.out.shut rfl (Turns.refl _ _) HB3.out HO3.out HG3.out)
    clear e0 e3 m0 m3 n0 n3
    go_wp2
    all_goals
      go_ret
      exact ⟨rfl, ⟨_, HE.out.1, HE.out.2.2⟩, HE.out.2.1⟩
end Go.Proofs.Ytlelemjmknbnaaa
