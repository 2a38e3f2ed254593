/- The document's Copy. -/
import Derived.Test.YtaepgcicgmbbeaaWhRef
namespace Go.Proofs.Ytaepgcicgmbbeaa
open Go.RowKit

theorem ref_made {B : Nat} {w : World} {A : Option Addr} {c : Nat} {T : Int} {L : List Fi} (ho : fK.Own B w (.slice A L.length c) L) (hB : B ≤ w.heap.size) : RefW B (w.alloc (.cells #[.int .i64 T, .slice A L.length c] 29)) w.heap.size A c T L := by
  have ht : Turns [] w (w.alloc (.cells #[.int .i64 T, .slice A L.length c] 29)) := Turns.alloc _ _
  obtain ⟨A2, c2, e, hr, hc, _⟩ := ho.reads
  cases e
  refine ⟨heap_alloc_new w _, (hr.turns (Nat.le_refl _) ht (by simp)).more ht.size, hB, ?_, hc⟩
  rcases ho.form with ⟨e, _⟩ | ⟨g, cap, e, b1, b2, _⟩
  · injection e with e1 e2 e3
    exact .inl ⟨e1, e3⟩
  · injection e with e1 e2 e3
    subst e1
    exact .inr ⟨g, 0, rfl, b1, Nat.lt_of_lt_of_le b2 ht.size, by omega⟩
set_option maxRecDepth 100000 in
set_option maxHeartbeats 4000000 in
theorem rcopy_any {B : Nat} {w : World} {rv : Nat} {A : Option Addr} {c : Nat} {T : Int} {L : List Fi} (h : RefW B w rv A c T L) (hl : L.length ≤ 1000) :
    Calls Try.prog 12 #[.pointer (some ⟨rv, 0, none⟩)] w fun e w' => (∃ rv2 A2 c2, e = .returned (.pointer (some ⟨rv2, 0, none⟩)) ∧ RefW w.heap.size w' rv2 A2 c2 T L) ∧ Turns [] w w' := by
  obtain ⟨e0, e1, hf⟩ := h.cells
  have hrd := h.reads
  obtain ⟨NN, hNN⟩ : ∃ NN, NN = L.length := ⟨_, rfl⟩
  rw [← hNN] at e1
  have HNN := Lib.hid hNN
  have HRD : Hid (∀ W, Turns [] w W → fK.Reads W w.heap.size A L ∧ w.heap.size ≤ W.heap.size) := Lib.hid (fun W ht => ⟨hrd.turns (Nat.le_refl _) ht (by simp), ht.size⟩)
  have HC : Hid (∀ W, Turns [] w W → W.cell? ⟨rv, 0, none⟩ = some (.int .i64 T) ∧ W.cell? ⟨rv, 1, none⟩ = some (.slice A NN c)) := Lib.hid (fun W ht => by
    have h1 := (h.pre ht).cells
    rw [← hNN] at h1
    exact ⟨h1.1, h1.2.1⟩)
  have HL1 := Lib.hid (show ([] : List Fi).length + L.length ≤ 100000 by simp; omega)
  clear h hf hrd hNN hl
  go_enter Try.func12, Try.ntmps12
  go_upto_region 1 with fail
  go_region_law (refine EK.step_append_all fOk (by rfl) (.const (.slice none 0 0)) (.tmp 10) (by rfl) w.heap.size (.slice none 0 0) [] (by rfl) (World.ownsRow_nil _ _ _ _) w.heap.size A L NN c HNN.out.symm (by kernel_rfl) (HRD.out _ (by first | exact Turns.refl _ _ | exact (Turns.refl _ _).drew)).1 HL1.out (HRD.out _ (by first | exact Turns.refl _ _ | exact (Turns.refl _ _).drew)).2 ?_; intro v2 w2 hown2 ht2 hf2; have HT2 := Lib.hid (show Turns [] w w2 from Turns.trans (by first | exact Turns.refl _ _ | exact (Turns.refl _ _).drew) (ht2.mono (G := []) (by simp [ownB, Value.ownBlock])) (by simp)); have HO2 := Lib.hid hown2; obtain ⟨m0, m1⟩ := HC.out w2 HT2.out; obtain ⟨A3, c3, rfl, _⟩ := hown2.reads; clear hown2 ht2 hf2)
  all_goals
    have HE := Lib.hid (show RefW w.heap.size (w2.alloc (.cells #[.int .i64 T, .slice A3 L.length c3] 29)) w2.heap.size A3 c3 T L from
      ref_made HO2.out HT2.out.size)
    clear e0 e1 m0 m1
    go_wp2
    all_goals
      go_ret
      exact ⟨⟨_, _, _, rfl, HE.out⟩, HT2.out.trans (Turns.alloc (F := []) _ _) (by simp)⟩
end Go.Proofs.Ytaepgcicgmbbeaa
