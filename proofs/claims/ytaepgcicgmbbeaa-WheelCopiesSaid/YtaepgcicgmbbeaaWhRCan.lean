/- The document's Cancel. -/
import Derived.Test.YtaepgcicgmbbeaaWhRAdv
namespace Go.Proofs.Ytaepgcicgmbbeaa
open Go.RowKit

theorem at_split {L : List Fi} {i : Nat} {x : Fi} (hx : L[i]? = some x) : L = L.take i ++ x :: L.drop (i + 1) := by
  have hi := (List.getElem?_eq_some_iff.1 hx).1
  have h1 := (List.take_append_drop i L).symm
  rw [List.drop_eq_getElem_cons hi] at h1
  have h2 := (List.getElem?_eq_some_iff.1 hx).2
  rw [h2] at h1
  exact h1
theorem can_split {L : List Fi} (hi : Ids L) {i : Nat} {x : Fi} (hx : L[i]? = some x) : canL x.1 L = L.take i ++ L.drop (i + 1) := by
  have hs := at_split hx
  have hid := hi
  rw [hs] at hid
  unfold Ids at hid
  rw [List.pairwise_append, List.pairwise_cons] at hid
  unfold canL
  conv => lhs; rw [hs]
  rw [List.filter_append, List.filter_cons_of_neg (by simp), List.filter_eq_self.2 fun y hy => by simpa using hid.2.2 y hy x (List.mem_cons_self ..), List.filter_eq_self.2 fun y hy => by simpa using (hid.2.1.1 y hy).symm]
section
variable {B : Nat} {w : World} {rv : Nat} {A : Option Addr} {c : Nat} {T : Int} {L : List Fi}
/-- A new list is laid. -/
theorem RefW.laid (h : RefW B w rv A c T L) {w3 : World} {v3 : Value} {L' : List Fi} (hb : Below w.heap.size w w3) (ho : fK.Own w.heap.size w3 v3 L') :
    ∃ A' c', v3 = .slice A' L'.length c' ∧ RefW B (w3.setCell ⟨rv, 1, none⟩ v3) rv A' c' T L' ∧ Turns [rv] w (w3.setCell ⟨rv, 1, none⟩ v3) ∧ ∀ i ∈ blkA A', w.heap.size ≤ i := by
  have hrl := h.lt
  have t1 : Turns [] w w3 := Turns.of_below hb (Nat.le_refl _)
  have t2 : Turns [rv] w3 (w3.setCell ⟨rv, 1, none⟩ v3) := Turns.setCell _ _ _ (List.mem_singleton.2 rfl)
  have hh := heap_setCell_same w3 rv 1 _ _ v3 ((t1.block rv hrl (by simp)).trans h.head)
  have ho2 : fK.Own w.heap.size (w3.setCell ⟨rv, 1, none⟩ v3) v3 L' := ho.turns t2 fun g hg hm => by
    have := (World.ownsRow.lt ho g hg).1
    simp at hm
    omega
  rcases ho2.form with ⟨rfl, rfl⟩ | ⟨g, cap, rfl, b1, b2, b3, _⟩
  · exact ⟨none, 0, rfl, ⟨by simpa using hh, .inl rfl, h.low, .inl ⟨rfl, rfl⟩, Nat.le_refl _⟩, (t1.mono (by simp)).then t2, by simp [blkA]⟩
  · obtain ⟨A2, c2, e, hr, _⟩ := ho2.reads
    cases e
    exact ⟨some ⟨g, 0, none⟩, cap, rfl, ⟨by simpa using hh, hr, h.low, .inr ⟨g, 0, rfl, Nat.le_trans h.low (Nat.le_trans (Nat.le_of_lt hrl) b1), b2, by omega⟩, b3⟩, (t1.mono (by simp)).then t2, fun i hi => by simp [blkA] at hi; omega⟩
set_option maxRecDepth 100000 in
set_option maxHeartbeats 4000000 in
theorem rcancel_ok (h : RefW B w rv A c T L) (hi : Ids L) (hL : L.length ≤ 1000) {x : Fi} {i : Nat} (hx : L[i]? = some x) (hg : getL x.1 L = some x) :
    Calls Try.prog 23 #[.pointer (some ⟨rv, 0, none⟩), .int .i64 x.1] w (RefP B w rv A T (canL x.1 L) (.bool true)) := by
  have hil : i < L.length := (List.getElem?_eq_some_iff.1 hx).1
  have HOF : Hid (Calls Try.prog 25 #[.pointer (some ⟨rv, 0, none⟩), .int .i64 x.1] w fun e w' => e = .returned (.int .i64 (i : Int)) ∧ w = w') := Lib.hid ((of_any h hL x.1).mono (by
    rintro e w' ⟨⟨k, rfl, hk⟩, rfl⟩
    rcases hk with ⟨_, h0⟩ | ⟨j, y, rfl, hj, hy⟩
    · rw [hg] at h0; cases h0
    · rw [hg] at hy
      cases hy
      have := at_inj hi.nodup hj hx
      subst this
      exact ⟨rfl, rfl⟩))
  obtain ⟨b, off, hA, _⟩ := h.at_ hx
  subst hA
  have hcap := h.cap
  obtain ⟨e0, e1, hf⟩ := h.cells
  have e3 := hf 1
  obtain ⟨P, hP⟩ : ∃ P, P = i := ⟨_, rfl⟩
  obtain ⟨NN, hNN⟩ : ∃ NN, NN = L.length := ⟨_, rfl⟩
  obtain ⟨R1, hR1⟩ : ∃ R1, R1 = L.take i := ⟨_, rfl⟩
  obtain ⟨R2, hR2⟩ : ∃ R2, R2 = L.drop (i + 1) := ⟨_, rfl⟩
  have hl1 : R1.length = P := by rw [hR1, hP]; simp; omega
  have hl2 : R2.length = NN - (P + 1) := by rw [hR2, hP, hNN]; simp
  have hsp : L = R1 ++ x :: R2 := by rw [hR1, hR2]; exact at_split hx
  have hcn : canL x.1 L = R1 ++ R2 := by rw [hR1, hR2]; exact can_split hi hx
  have hrd := h.reads
  rw [← hNN] at e1
  have H := Lib.hid h
  rw [← hP] at HOF
  have hN2 : P + 1 ≤ NN := by omega
  have HP := Lib.hid hl1
  have HRC : Hid (∀ W, Turns [] w W → fK.Reads W w.heap.size (some ⟨b, off, none⟩) (R1 ++ x :: R2) ∧ w.heap.size ≤ W.heap.size) := Lib.hid (fun W ht => ⟨by rw [← hsp]; exact hrd.turns (Nat.le_refl _) ht (by simp), ht.size⟩)
  have HR1 : Hid (∀ W, Turns [] w W → fK.Reads W w.heap.size (some ⟨b, off, none⟩) R1) := Lib.hid (fun W ht => by
    have := EK.Reads.part fOk (l1 := []) (l2 := R1) (l3 := x :: R2) (HRC.out W ht).1
    simpa using this)
  have HR2 : Hid (∀ W, Turns [] w W → fK.Reads W w.heap.size (if c = P + 1 then some ⟨b, off, none⟩ else some ⟨b, off + (P + 1) * 2, none⟩) R2) := Lib.hid (fun W ht => by
    by_cases hcp : c = P + 1
    · exact .inl (List.eq_nil_of_length_eq_zero (by omega))
    · rw [if_neg hcp]
      have := EK.Reads.part fOk (off := off) (l1 := R1 ++ [x]) (l2 := R2) (l3 := []) (by simpa using (HRC.out W ht).1)
      simpa [hl1, fK] using this)
  have HM2 := Lib.hid hl2
  have HL1 := Lib.hid (show ([] : List Fi).length + R1.length ≤ 100000 by simp; omega)
  have HL2 := Lib.hid (show ([] ++ R1).length + R2.length ≤ 100000 by simp; omega)
  have hi0 : (0 : Int) ≤ (P : Int) := by omega
  have hi1 : decide ((P : Int) < 0) = false := by simp
  have hadd : IntKind.i64.wrap ((P : Int) + 1) = (P : Int) + 1 := IntWalk.i64_in _ (by omega)
  have hk1 : (P : Int) ≤ (c : Int) := by omega
  have hk2 : (P : Int) + 1 ≤ (NN : Int) := by omega
  have hk3 : (NN : Int) ≤ (c : Int) := by omega
  have hk4 : (0 : Int) ≤ (P : Int) + 1 := by omega
  have HCN := Lib.hid hcn
  have HNN := Lib.hid hNN
  clear h hf hrd hNN hN2 hP hl1 hl2 hsp hcn hR1 hR2 hx hg hi hL hil hcap
  go_enter Try.func23, Try.ntmps23
  go_wp2_with fail
  refine HOF.out.mono ?_
  rintro e w1 ⟨rfl, rfl⟩
  go_wp2_with fail
  go_region_law (first | (refine EK.step_append_all fOk (by rfl) (.const (.slice none 0 0)) (.tmp 17) (by rfl) w.heap.size (.slice none 0 0) [] (by rfl) (World.ownsRow_nil _ _ _ _) w.heap.size (some ⟨b, off, none⟩) R1 P c HP.out (by kernel_rfl) (HR1.out _ (by first | exact Turns.refl _ _ | exact (Turns.refl _ _).drew)) HL1.out (HRC.out _ (by first | exact Turns.refl _ _ | exact (Turns.refl _ _).drew)).2 ?_; intro v2 w2 hown2 ht2 hf2; have HT2 := Lib.hid (show Turns [] w w2 from Turns.trans (by first | exact Turns.refl _ _ | exact (Turns.refl _ _).drew) (ht2.mono (G := []) (by simp [ownB, Value.ownBlock])) (by simp)); have HO2 := Lib.hid hown2; have HG2 := Lib.hid (show ∀ i ∈ ownB v2, w.heap.size ≤ i from fun i hi => by rcases hf2 i hi with h1 | h1; (simp [ownB, Value.ownBlock] at h1); (rw [h1]; first | exact Nat.le_refl _ | simp)); have hd2 := (HT2.out.block rv (lt_of_block H.out.head) (by simp)).trans H.out.head; have m0 : w2.cell? ⟨rv, 1, none⟩ = some (.slice (some ⟨b, off, none⟩) NN c) := (by simp [World.cell?, hd2, HNN.out]); have m3 : w2.frozen? ⟨rv, 1, none⟩ = false := (by simp [World.frozen?, hd2]); clear hown2 ht2 hf2 hd2) | (refine EK.step_append_all fOk (by rfl) (.tmp 18) (.tmp 25) (by rfl) w.heap.size v2 ([] ++ R1) (by kernel_rfl) HO2.out w.heap.size (if c = P + 1 then some ⟨b, off, none⟩ else some ⟨b, off + (P + 1) * 2, none⟩) R2 (NN - (P + 1)) (c - (P + 1)) HM2.out (by kernel_rfl) (HR2.out _ HT2.out) HL2.out HT2.out.size ?_; intro v3 w3 hown3 ht3 hf3; have HO3 := Lib.hid hown3; have HB3 := Lib.hid (show Below w.heap.size w w3 from (HT2.out.below (by simp) (Nat.le_refl _)).trans (ht3.below HG2.out HT2.out.size)); have HD3 := Lib.hid ((HB3.out.block rv (lt_of_block H.out.head)).trans H.out.head); have n0 : w3.cell? ⟨rv, 1, none⟩ = some (.slice (some ⟨b, off, none⟩) NN c) := (by simp [World.cell?, HD3.out, HNN.out]); have n3 : w3.frozen? ⟨rv, 1, none⟩ = false := (by simp [World.frozen?, HD3.out]); obtain ⟨A3, c3, rfl, _⟩ := hown3.reads; obtain ⟨M, hM⟩ : ∃ M, M = ([] ++ R1 ++ R2).length := ⟨_, rfl⟩; rw [← hM] at HO3 ⊢; clear hown3 ht3 hf3 hM))
  all_goals
    have HE := Lib.hid (H.out.laid HB3.out HO3.out)
    clear e0 e1 e3 m0 m3 n0 n3
    go_wp2
    all_goals
      go_ret
      obtain ⟨A', c', _, q2, q3, q4⟩ := HE.out
      refine ⟨rfl, A', c', ?_, q3, fun i hi => .inr (q4 i hi)⟩
      rw [HCN.out]
      simpa using q2
theorem rcancel_no (h : RefW B w rv A c T L) (hL : L.length ≤ 1000) (id : Int) (hg : getL id L = none) :
    Calls Try.prog 23 #[.pointer (some ⟨rv, 0, none⟩), .int .i64 id] w (RefP B w rv A T (canL id L) (.bool false)) := by
  have HOF : Hid (Calls Try.prog 25 #[.pointer (some ⟨rv, 0, none⟩), .int .i64 id] w fun e w' => e = .returned (.int .i64 (-1)) ∧ w = w') := Lib.hid ((of_any h hL id).mono (by
    rintro e w' ⟨⟨k, rfl, hk⟩, rfl⟩
    rcases hk with ⟨rfl, h0⟩ | ⟨j, y, rfl, hj, hy⟩
    · exact ⟨rfl, rfl⟩
    · rw [hg] at hy; cases hy))
  rw [canL_none hg]
  have HE : Hid (RefP B w rv A T L (.bool false) (.returned (.bool false)) w) := Lib.hid ⟨rfl, A, c, h, Turns.refl _ _, fun i hi => .inl hi⟩
  clear h hL hg
  go_enter Try.func23, Try.ntmps23
  go_wp2_with fail
  refine HOF.out.mono ?_
  rintro e w1 ⟨rfl, rfl⟩
  go_wp2
  go_ret
  exact HE.out
theorem rcancel_any (h : RefW B w rv A c T L) (hi : Ids L) (hL : L.length ≤ 1000) (id : Int) :
    Calls Try.prog 23 #[.pointer (some ⟨rv, 0, none⟩), .int .i64 id] w (RefP B w rv A T (canL id L) (.bool (getL id L).isSome)) := by
  cases hg : getL id L with
  | none => exact rcancel_no h hL id hg
  | some x =>
    obtain ⟨hx, rfl⟩ := getL_some hg
    obtain ⟨i, hi'⟩ := List.getElem?_of_mem hx
    exact rcancel_ok h hi hL hi' hg
end
end Go.Proofs.Ytaepgcicgmbbeaa
