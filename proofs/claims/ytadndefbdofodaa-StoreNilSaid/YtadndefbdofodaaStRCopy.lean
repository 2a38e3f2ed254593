/- The document's Copy. -/
import Derived.Test.YtadndefbdofodaaStPut
namespace Go.Proofs.Ytadndefbdofodaa
open Go.RowKit

set_option maxRecDepth 100000 in
set_option maxHeartbeats 4000000 in
theorem rcopyS_any {B : Nat} {w : World} {rv : Nat} {v : Value} {most : Nat} {L : List One} (h : RefS B w rv v most L) (hl : L.length ≤ 90000) :
    Calls Try.prog 17 #[.pointer (some ⟨rv, 0, none⟩)] w fun e w' => (∃ r2 v2, e = .returned (.pointer (some ⟨r2, 0, none⟩)) ∧ RefS w.heap.size w' r2 v2 most L) ∧ Turns [] w w' := by
  obtain ⟨e0, e1, hf⟩ := h.cells
  obtain ⟨A, c, hv, hrd, _⟩ := h.own.reads
  have H := Lib.hid h
  have HL := Lib.hid hl
  obtain ⟨NN, hNN⟩ : ∃ NN, NN = L.length := ⟨_, rfl⟩
  rw [← hNN] at hv
  rw [hv] at e0
  have HV := Lib.hid hv
  have HNN := Lib.hid hNN
  have HRD : Hid (∀ W, Turns [] w W → oK.Reads W w.heap.size A L ∧ w.heap.size ≤ W.heap.size) := Lib.hid (fun W ht => ⟨hrd.turns (Nat.le_refl _) ht (by simp), ht.size⟩)
  have HC : Hid (∀ W, Turns [] w W → W.cell? ⟨rv, 0, none⟩ = some (.slice A NN c) ∧ W.cell? ⟨rv, 1, none⟩ = some (.int .i64 most)) := Lib.hid (fun W ht => by
    obtain ⟨g0, g1, _⟩ := (h.pre ht).cells
    rw [hv] at g0
    exact ⟨g0, g1⟩)
  have HL1 := Lib.hid (show ([] : List One).length + L.length ≤ 100000 by simp; omega)
  clear h hf hv hrd hNN hl
  go_enter Try.func17, Try.ntmps17
  go_upto_region 1 with fail
  go_region_law (refine EK.step_append_all oOk (by rfl) (.const (.slice none 0 0)) (.tmp 6) (by rfl) w.heap.size (.slice none 0 0) [] (by rfl) (World.ownsRow_nil _ _ _ _) w.heap.size A L NN c HNN.out.symm (by kernel_rfl) (HRD.out _ (by first | exact Turns.refl _ _ | exact (Turns.refl _ _).drew0)).1 HL1.out (HRD.out _ (by first | exact Turns.refl _ _ | exact (Turns.refl _ _).drew0)).2 ?_; intro v2 w2 hown2 ht2 hf2; have HT2 := Lib.hid (show Turns [] w w2 from Turns.trans (by first | exact Turns.refl _ _ | exact (Turns.refl _ _).drew0) (ht2.mono (G := []) (by simp [ownB, Value.ownBlock])) (by simp)); have HO2 := Lib.hid hown2; have HG2 := Lib.hid (show ∀ i ∈ ownB v2, w.heap.size ≤ i from fun i hi => by rcases hf2 i hi with h1 | h1; (simp [ownB, Value.ownBlock] at h1); (rw [h1]; first | exact Nat.le_refl _ | simp)); obtain ⟨m0, m1⟩ := HC.out w2 HT2.out; obtain ⟨A3, c3, rfl, _⟩ := hown2.reads; obtain ⟨M, hM⟩ : ∃ M, M = ([] ++ L).length := ⟨_, rfl⟩; rw [← hM] at HG2 HO2 ⊢; clear hown2 ht2 hf2 hM)
  all_goals
    have HE := Lib.hid (show RefS w.heap.size (w2.alloc (.cells #[.slice A3 M c3, .int .i64 most] 65)) w2.heap.size (.slice A3 M c3) most L from
      ⟨heap_alloc_new _ _, HO2.out.alloc _, HT2.out.size, fun hm => Nat.lt_irrefl _ (HO2.out.foot _ hm).2⟩)
    clear e0 e1 m0 m1
    go_wp2
    all_goals
      go_ret
      exact ⟨⟨_, _, rfl, HE.out⟩, HT2.out.trans (Turns.alloc (F := []) _ _) (by simp)⟩
end Go.Proofs.Ytadndefbdofodaa
