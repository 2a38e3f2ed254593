/- A config's box that is made and then filled: opaque. -/
import Derived.Test.YtnbghappfclnjaaCfRSame
import Derived.Deep.RegionLaw
namespace Go.Proofs.Ytnbghappfclnjaa
open Go.RowKit

theorem hsize_drew (w : World) : w.drew.heap.size = w.heap.size := rfl
theorem hsize_alloc (w : World) (o : Obj) : (w.alloc o).heap.size = w.heap.size + 1 := by simp
def IsBox (W : World) (b : Nat) : Prop := W.heap[b]? = some (.cells #[.slice none 0 0, .int .i64 0, .int .i64 0, .slice none 0 0, .int .i64 0, .int .i64 0, .int .i64 0, .int .i64 0, .int .i64 0, .int .i64 0, .int .i64 0] 38)
def putBox (W : World) (b : Nat) (c : Cf) : World :=
  ((((((((((W.setCell ⟨b, 0, none⟩ (.slice c.A c.ts.length c.cap)).setCell ⟨b, 1, none⟩ (.int .i64 c.win)).setCell ⟨b, 2, none⟩ (.int .i64 c.lat)).setCell ⟨b, 3, none⟩ (.slice c.B c.by'.length c.cb)).setCell ⟨b, 4, none⟩ (.int .i64 c.ser)).setCell ⟨b, 5, none⟩ (.int .i64 c.wins)).setCell ⟨b, 6, none⟩ (.int .i64 c.que)).setCell ⟨b, 7, none⟩ (.int .i64 c.con)).setCell ⟨b, 8, none⟩ (.int .i64 c.bod)).setCell ⟨b, 9, none⟩ (.int .i64 c.base)).setCell ⟨b, 10, none⟩ (.int .i64 c.most)
set_option maxRecDepth 100000 in
theorem run_put {W : World} {b : Nat} (c : Cf) (hb : IsBox W b) : (storeCells ⟨b, 0, none⟩ c.val.cells.toList).run Try.prog W = .ok () (putBox W b c) := by
  have f0 : ∀ j, W.frozen? ⟨b, j, none⟩ = false := fun j => by unfold World.frozen?; rw [show W.heap[b]? = _ from hb]; simp
  have k0 : W.cell? ⟨b, 0, none⟩ = some (.slice none 0 0) := by unfold World.cell?; simp only [show W.heap[b]? = _ from hb]; rfl
  have k1 : W.cell? ⟨b, 1, none⟩ = some (.int .i64 0) := by unfold World.cell?; simp only [show W.heap[b]? = _ from hb]; rfl
  have k2 : W.cell? ⟨b, 2, none⟩ = some (.int .i64 0) := by unfold World.cell?; simp only [show W.heap[b]? = _ from hb]; rfl
  have k3 : W.cell? ⟨b, 3, none⟩ = some (.slice none 0 0) := by unfold World.cell?; simp only [show W.heap[b]? = _ from hb]; rfl
  have k4 : W.cell? ⟨b, 4, none⟩ = some (.int .i64 0) := by unfold World.cell?; simp only [show W.heap[b]? = _ from hb]; rfl
  have k5 : W.cell? ⟨b, 5, none⟩ = some (.int .i64 0) := by unfold World.cell?; simp only [show W.heap[b]? = _ from hb]; rfl
  have k6 : W.cell? ⟨b, 6, none⟩ = some (.int .i64 0) := by unfold World.cell?; simp only [show W.heap[b]? = _ from hb]; rfl
  have k7 : W.cell? ⟨b, 7, none⟩ = some (.int .i64 0) := by unfold World.cell?; simp only [show W.heap[b]? = _ from hb]; rfl
  have k8 : W.cell? ⟨b, 8, none⟩ = some (.int .i64 0) := by unfold World.cell?; simp only [show W.heap[b]? = _ from hb]; rfl
  have k9 : W.cell? ⟨b, 9, none⟩ = some (.int .i64 0) := by unfold World.cell?; simp only [show W.heap[b]? = _ from hb]; rfl
  have k10 : W.cell? ⟨b, 10, none⟩ = some (.int .i64 0) := by unfold World.cell?; simp only [show W.heap[b]? = _ from hb]; rfl
  unfold putBox Cf.val
  simp [Value.cells, go_sem, f0, k0, k1, k2, k3, k4, k5, k6, k7, k8, k9, k10]
theorem IsBox.new (W : World) : IsBox (W.alloc (.cells #[.slice none 0 0, .int .i64 0, .int .i64 0, .slice none 0 0, .int .i64 0, .int .i64 0, .int .i64 0, .int .i64 0, .int .i64 0, .int .i64 0, .int .i64 0] 38)) W.heap.size := heap_alloc_new _ _
theorem IsBox.lt {W : World} {b : Nat} (h : IsBox W b) : b < W.heap.size := lt_of_block h
theorem IsBox.new' (W : World) (b : Nat) (hb : b = W.heap.size) : IsBox (W.alloc (.cells #[.slice none 0 0, .int .i64 0, .int .i64 0, .slice none 0 0, .int .i64 0, .int .i64 0, .int .i64 0, .int .i64 0, .int .i64 0, .int .i64 0, .int .i64 0] 38)) b := by subst hb; exact IsBox.new W
theorem IsBox.drew {W : World} {b : Nat} (h : IsBox W b) : IsBox W.drew b := h
theorem IsBox.alloc {W : World} {b : Nat} (h : IsBox W b) (o : Obj) : IsBox (W.alloc o) b := (Below.heap_alloc W o b h.lt).trans h
theorem IsBox.call {W W' : World} {b : Nat} (h : IsBox W b) (hb : Hid (Below W.heap.size W W')) : IsBox W' b := (hb.out.block b h.lt).trans h
theorem put_other (W : World) (b : Nat) (c : Cf) (k : Nat) (hk : k ≠ b) : (putBox W b c).heap[k]? = W.heap[k]? := by
  have sc : ∀ (V : World) (j : Nat) (v : Value), (V.setCell ⟨b, j, none⟩ v).heap[k]? = V.heap[k]? := fun V j v => Below.heap_setCell V ⟨b, j, none⟩ v k hk
  unfold putBox
  rw [sc, sc, sc, sc, sc, sc, sc, sc, sc, sc, sc]
theorem put_size (W : World) (b : Nat) (c : Cf) : (putBox W b c).heap.size = W.heap.size := by
  unfold putBox World.setCell
  simp
theorem IsBox.put {W : World} {b b' : Nat} (h : IsBox W b) (c : Cf) (hne : b ≠ b') : IsBox (putBox W b' c) b := (put_other W b' c b hne).trans h
def FullBox (W : World) (b : Nat) (c : Cf) : Prop := W.heap[b]? = some (.cells #[.slice c.A c.ts.length c.cap, .int .i64 c.win, .int .i64 c.lat, .slice c.B c.by'.length c.cb, .int .i64 c.ser, .int .i64 c.wins, .int .i64 c.que, .int .i64 c.con, .int .i64 c.bod, .int .i64 c.base, .int .i64 c.most] 38)
theorem FullBox.put {W : World} {b b' : Nat} {c d : Cf} (h : FullBox W b c) (hne : b ≠ b') : FullBox (putBox W b' d) b c := (put_other W b' d b hne).trans h
theorem FullBox.at' {W : World} {b : Nat} {c : Cf} (e : FullBox W b c) : CfAt W b c := by
  unfold FullBox at e
  unfold CfAt World.cell?
  simp only [e]
  exact ⟨rfl, rfl, rfl, rfl, rfl, rfl, rfl, rfl, rfl, rfl, rfl⟩
theorem put_full {W : World} {b : Nat} (c : Cf) (h : IsBox W b) : FullBox (putBox W b c) b c := by
  unfold FullBox putBox
  have h0 := heap_setCell_same W b 0 _ _ (.slice c.A c.ts.length c.cap) h
  have h1 := heap_setCell_same _ b 1 _ _ (.int .i64 c.win) h0
  have h2 := heap_setCell_same _ b 2 _ _ (.int .i64 c.lat) h1
  have h3 := heap_setCell_same _ b 3 _ _ (.slice c.B c.by'.length c.cb) h2
  have h4 := heap_setCell_same _ b 4 _ _ (.int .i64 c.ser) h3
  have h5 := heap_setCell_same _ b 5 _ _ (.int .i64 c.wins) h4
  have h6 := heap_setCell_same _ b 6 _ _ (.int .i64 c.que) h5
  have h7 := heap_setCell_same _ b 7 _ _ (.int .i64 c.con) h6
  have h8 := heap_setCell_same _ b 8 _ _ (.int .i64 c.bod) h7
  have h9 := heap_setCell_same _ b 9 _ _ (.int .i64 c.base) h8
  have h10 := heap_setCell_same _ b 10 _ _ (.int .i64 c.most) h9
  rw [h10]
  simp
theorem CfAt.put {W : World} {b b' : Nat} {c d : Cf} (h : CfAt W b c) (hne : b ≠ b') : CfAt (putBox W b' d) b c :=
  h.keep fun p hp => World.cell?_of_block (w := W) (put_other W b' d p.block (by rw [hp]; exact hne))
/-- What is no config stays as it is. -/
structure Kp (W W' : World) : Prop where
  size : W.heap.size ≤ W'.heap.size
  row : ∀ (k : Nat) (cs : Array Value) (t : TypeId) (fr : Nat × Nat), t ≠ 38 → W.heap[k]? = some (Obj.cells cs t fr) → W'.heap[k]? = some (Obj.cells cs t fr)
theorem Kp.refl (W : World) : Kp W W := ⟨Nat.le_refl _, fun _ _ _ _ _ h => h⟩
theorem Kp.alloc {V W : World} (h : Kp V W) (o : Obj) : Kp V (W.alloc o) := ⟨Nat.le_trans h.size (by simp), fun k cs t fr ht hk => (Below.heap_alloc W o k (lt_of_block (h.row k cs t fr ht hk))).trans (h.row k cs t fr ht hk)⟩
theorem Kp.call {V W W' : World} (h : Kp V W) (hb : Hid (Below W.heap.size W W')) : Kp V W' := ⟨Nat.le_trans h.size hb.out.size, fun k cs t fr ht hk => (hb.out.block k (lt_of_block (h.row k cs t fr ht hk))).trans (h.row k cs t fr ht hk)⟩
theorem Kp.put {V W : World} {b : Nat} {c : Cf} (h : Kp V W) (hb : IsBox W b) : Kp V (putBox W b c) := by
  refine ⟨by rw [put_size]; exact h.size, fun k cs t fr ht hk => ?_⟩
  have h1 := h.row k cs t fr ht hk
  rw [put_other W b c k (fun e => by
    subst e
    rw [show W.heap[k]? = _ from hb] at h1
    cases h1
    exact ht rfl)]
  exact h1
theorem Kp.own {α : Type} {K : EK α} {n : Nat} {V W : World} {v : Value} {l : List α} (h : Kp V W) (ho : K.Own n V v l) (ht : K.te ≠ 38) : K.Own n W v l := by
  refine ⟨ho.1, ?_⟩
  rcases ho.2 with hn | ⟨g, cap, cur, rfl, hB, hg, rest⟩
  · exact .inl hn
  · exact .inr ⟨g, cap, cur, rfl, hB, h.row g _ _ _ ht hg, rest⟩
end Go.Proofs.Ytnbghappfclnjaa
