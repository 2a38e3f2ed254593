/- The document's one: a sample of a series that is there. -/
import Derived.Test.YtadndefbdofodaaStRef
import Derived.Deep.RegionLaw
namespace Go.Proofs.Ytadndefbdofodaa
open Go.RowKit

def OneR (B : Nat) (w : World) (rv : Nat) (v : Value) (most : Nat) (r : Sn × List One) (e : Ending) (w' : World) : Prop :=
  e = .returned r.1.val' ∧ ∃ v', RefS B w' rv v' most r.2 ∧ Turns (rv :: ownB v) w w' ∧ ∀ i ∈ ownB v', i ∈ ownB v ∨ w.heap.size ≤ i
theorem OneR.drew {B : Nat} {w : World} {rv : Nat} {v : Value} {most : Nat} {r : Sn × List One} {e : Ending} {W : World} (h : OneR B w rv v most r e W) : OneR B w rv v most r e W.drew := by
  obtain ⟨h1, v', h2, h3, h4⟩ := h
  exact ⟨h1, v', ⟨h2.head, h2.own.drew, h2.low, h2.ne⟩, ⟨h3.os, h3.tape, h3.output, h3.size, h3.block⟩, h4⟩
def zSnO : Obj := .cells #[.string ⟨#[]⟩, .int .i64 0, .int .i64 0, .bool false, .int .i64 0, .bool false, .int .i64 0] 43
def putN (W : World) (b : Nat) (s : Sn) : World := (((((((W.setCell ⟨b, 0, none⟩ (.string s.s.name)).setCell ⟨b, 1, none⟩ (.int .i64 s.s.val)).setCell ⟨b, 2, none⟩ (.int .i64 s.s.tm)).setCell ⟨b, 3, none⟩ (.bool s.s.cnt)).setCell ⟨b, 4, none⟩ (.int .i64 s.v)).setCell ⟨b, 5, none⟩ (.bool s.chain)).setCell ⟨b, 6, none⟩ (.int .i64 s.ahead))
def putL (W : World) (g k : Nat) (l : Lst) : World := ((((((W.setCell ⟨g, k * 7 + 1, none⟩ (.string l.s.name)).setCell ⟨g, k * 7 + 1 + 1, none⟩ (.int .i64 l.s.val)).setCell ⟨g, k * 7 + 1 + 2, none⟩ (.int .i64 l.s.tm)).setCell ⟨g, k * 7 + 1 + 3, none⟩ (.bool l.s.cnt)).setCell ⟨g, k * 7 + 1 + 4, none⟩ (.bool l.live)).setCell ⟨g, k * 7 + 1 + 5, none⟩ (.int .i64 l.own))
theorem turns_cell {F : List Nat} {W W1 : World} {b j : Nat} {u : Value} (h : Turns F W W1) (hb : b ∈ F) : Turns F W (W1.setCell ⟨b, j, none⟩ u) := h.trans (Turns.setCell (F := F) W1 _ _ hb) (fun _ hi => .inl hi)
theorem putN_turns (W : World) (b : Nat) (s : Sn) : Turns [b] W (putN W b s) := by
  unfold putN
  exact turns_cell (turns_cell (turns_cell (turns_cell (turns_cell (turns_cell (turns_cell (Turns.refl _ _) (by simp)) (by simp)) (by simp)) (by simp)) (by simp)) (by simp)) (by simp)
theorem putL_turns (W : World) (g k : Nat) (l : Lst) : Turns [g] W (putL W g k l) := by
  unfold putL
  exact turns_cell (turns_cell (turns_cell (turns_cell (turns_cell (turns_cell (Turns.refl _ _) (by simp)) (by simp)) (by simp)) (by simp)) (by simp)) (by simp)
theorem putN_full {W : World} {b : Nat} (s : Sn) (h : W.heap[b]? = some zSnO) : (putN W b s).heap[b]? = some (.cells #[.string s.s.name, .int .i64 s.s.val, .int .i64 s.s.tm, .bool s.s.cnt, .int .i64 s.v, .bool s.chain, .int .i64 s.ahead] 43 (0, 0)) := by
  unfold putN
  have h0 := heap_setCell_same W b 0 _ _ (.string s.s.name) h
  have h1 := heap_setCell_same _ b 1 _ _ (.int .i64 s.s.val) h0
  have h2 := heap_setCell_same _ b 2 _ _ (.int .i64 s.s.tm) h1
  have h3 := heap_setCell_same _ b 3 _ _ (.bool s.s.cnt) h2
  have h4 := heap_setCell_same _ b 4 _ _ (.int .i64 s.v) h3
  have h5 := heap_setCell_same _ b 5 _ _ (.bool s.chain) h4
  have h6 := heap_setCell_same _ b 6 _ _ (.int .i64 s.ahead) h5
  rw [h6]
  simp
section
variable {B : Nat} {w W : World} {rv : Nat} {v : Value} {most : Nat} {L : List One}
theorem RefS.putL (h : RefS B W rv v most L) {g k c : Nat} {y : One} (hv : v = .slice (some ⟨g, 0, none⟩) L.length c) (hy : L[k]? = some y) (l : Lst) : RefS B (putL W g k l) rv v most (L.set k ⟨y.name, l⟩) := by
  have ht := putL_turns W g k l
  have hg : rv ∉ [g] := fun hm => h.ne (by rw [hv]; simpa [ownB, Value.ownBlock] using hm)
  refine ⟨(ht.block rv h.lt hg).trans h.head, ?_, h.low, h.ne⟩
  have h3 := h.own
  rw [hv] at h3 ⊢
  unfold EK.Own at h3 ⊢
  rw [List.length_set, flatO_set L k y ⟨y.name, l⟩ hy rfl]
  unfold Go.Proofs.Ytadndefbdofodaa.putL
  exact own_cell (own_cell (own_cell (own_cell (own_cell (own_cell h3 _ _) _ _) _ _) _ _) _ _) _ _
theorem seen_struct : Try.prog.underlying 43 = some (.struct (Try.prog.fieldsOf 43)) := by kernel_rfl
/-- The walk's boxes: the sample's, the verdict's. -/
structure OneB (w : World) (x : Smp) (W : World) : Prop where
  xb : W.heap[w.heap.size]? = some (.cells #[.string x.name, .int .i64 x.val, .int .i64 x.tm, .bool x.cnt] 38)
  rb : W.heap[w.heap.size + 1]? = some zSnO
  old : Turns [] w W
  more : w.heap.size + 2 ≤ W.heap.size
theorem OneB.new (w : World) (x : Smp) : OneB w x ((w.alloc (.cells #[.string x.name, .int .i64 x.val, .int .i64 x.tm, .bool x.cnt] 38)).alloc (.cells #[.string ⟨#[]⟩, .int .i64 0, .int .i64 0, .bool false, .int .i64 0, .bool false, .int .i64 0] 43)) := by
  have t1 := Turns.alloc (F := []) w (.cells #[.string x.name, .int .i64 x.val, .int .i64 x.tm, .bool x.cnt] 38)
  have t2 := Turns.alloc (F := []) (w.alloc (.cells #[.string x.name, .int .i64 x.val, .int .i64 x.tm, .bool x.cnt] 38)) (.cells #[.string ⟨#[]⟩, .int .i64 0, .int .i64 0, .bool false, .int .i64 0, .bool false, .int .i64 0] 43)
  refine ⟨(t2.block _ (by simp) (by simp)).trans (heap_alloc_new w _), ?_, t1.trans t2 (by simp), by simp⟩
  have h := heap_alloc_new (w.alloc (.cells #[.string x.name, .int .i64 x.val, .int .i64 x.tm, .bool x.cnt] 38)) (.cells #[.string ⟨#[]⟩, .int .i64 0, .int .i64 0, .bool false, .int .i64 0, .bool false, .int .i64 0] 43)
  rwa [show (w.alloc (.cells #[.string x.name, .int .i64 x.val, .int .i64 x.tm, .bool x.cnt] 38)).heap.size = w.heap.size + 1 by simp] at h
theorem OneB.next {x : Smp} {W' : World} {F : List Nat} (h : OneB w x W) (ht : Turns F W W') (hF : ∀ i ∈ F, w.heap.size + 2 ≤ i) : OneB w x W' :=
  ⟨(ht.block _ (by have := h.more; omega) (fun hm => by have := hF _ hm; omega)).trans h.xb, (ht.block _ (by have := h.more; omega) (fun hm => by have := hF _ hm; omega)).trans h.rb, h.old.trans ht (fun i hi => .inr (by have := hF i hi; omega)), Nat.le_trans h.more ht.size⟩
theorem OneB.facts {x : Smp} (h : OneB w x W) : W.cell? ⟨w.heap.size, 0, none⟩ = some (.string x.name) ∧ W.cell? ⟨w.heap.size, 1, none⟩ = some (.int .i64 x.val) ∧ W.cell? ⟨w.heap.size, 2, none⟩ = some (.int .i64 x.tm) ∧ W.cell? ⟨w.heap.size, 3, none⟩ = some (.bool x.cnt) ∧ W.cell? ⟨w.heap.size + 1, 0, none⟩ = some (.string ⟨#[]⟩) ∧ W.cell? ⟨w.heap.size + 1, 1, none⟩ = some (.int .i64 0) ∧ W.cell? ⟨w.heap.size + 1, 2, none⟩ = some (.int .i64 0) ∧ W.cell? ⟨w.heap.size + 1, 3, none⟩ = some (.bool false) ∧ W.cell? ⟨w.heap.size + 1, 4, none⟩ = some (.int .i64 0) ∧ W.cell? ⟨w.heap.size + 1, 5, none⟩ = some (.bool false) ∧ W.cell? ⟨w.heap.size + 1, 6, none⟩ = some (.int .i64 0) ∧ ∀ j, W.frozen? ⟨w.heap.size + 1, j, none⟩ = false := by
  have h1 := h.xb
  have h2 := h.rb
  unfold zSnO at h2
  refine ⟨?_, ?_, ?_, ?_, ?_, ?_, ?_, ?_, ?_, ?_, ?_, ?_⟩
  all_goals first | (unfold World.cell?; simp only [h1, h2]; rfl) | (intro j; unfold World.frozen?; simp [h2])
/-- What is answered: the verdict's box is filled. -/
theorem one_fin (s : Sn) {v' : Value} {L' : List One} {F : List Nat} (hr : RefS B W rv v' most L') (hB : B ≤ w.heap.size) (hw : Turns F w W) (hF : ∀ i ∈ F, i = rv ∨ i ∈ ownB v) (hv : ∀ i ∈ ownB v', i ∈ ownB v ∨ w.heap.size + 2 ≤ i) (hlow : rv < w.heap.size) (hov : ∀ i ∈ ownB v, i < w.heap.size) :
    OneR B w rv v most (s, L') (.returned s.val') (putN W (w.heap.size + 1) s) := by
  have ht := putN_turns W (w.heap.size + 1) s
  have hne : ∀ i ∈ ownB v', i ∉ [w.heap.size + 1] := fun i hi hm => by
    rw [List.mem_singleton] at hm
    rcases hv i hi with h1 | h1
    · have := hov i h1; omega
    · omega
  refine ⟨rfl, v', hr.turns ht (by rw [List.mem_singleton]; omega) hne, ?_, fun i hi => (hv i hi).imp id fun h => by omega⟩
  exact (hw.mono (G := rv :: ownB v) (fun i hi => by rcases hF i hi with rfl | h; exact List.mem_cons_self .. ; exact List.mem_cons_of_mem _ h)).trans ht (fun i hi => .inr (by rw [List.mem_singleton] at hi; omega))
end
end Go.Proofs.Ytadndefbdofodaa
