/- Rows of samples, series and verdicts; the document's store in memory. -/
import Derived.Test.YtadndefbdofodaaRowK2
import Derived.Test.YtadndefbdofodaaStPlain
namespace Go.Proofs.Ytadndefbdofodaa
open Go.RowKit

def sK : EK Smp := ⟨30, 38, 4, 40, .agg #[.string ⟨#[]⟩, .int .i64 0, .int .i64 0, .bool false], Smp.cells⟩
theorem sOk : sK.Ok Try.prog := ⟨Try.underlying30, by kernel_rfl, rfl, by decide, by decide, fun _ => rfl, fun x u hu => by simp [sK, Smp.cells] at hu; rcases hu with rfl | rfl | rfl | rfl <;> rfl⟩
def oK : EK One := ⟨63, 67, 7, 72, .agg #[.string ⟨#[]⟩, .string ⟨#[]⟩, .int .i64 0, .int .i64 0, .bool false, .bool false, .int .i64 0], One.cells⟩
theorem oOk : oK.Ok Try.prog := ⟨Try.underlying63, by kernel_rfl, rfl, by decide, by decide, fun _ => rfl, fun x u hu => by simp [oK, One.cells] at hu; rcases hu with rfl | rfl | rfl | rfl | rfl | rfl | rfl <;> rfl⟩
def nK : EK Sn := ⟨33, 43, 7, 64, .agg #[.string ⟨#[]⟩, .int .i64 0, .int .i64 0, .bool false, .int .i64 0, .bool false, .int .i64 0], Sn.cells⟩
theorem nOk : nK.Ok Try.prog := ⟨Try.underlying33, by kernel_rfl, rfl, by decide, by decide, fun _ => rfl, fun x u hu => by simp [nK, Sn.cells] at hu; rcases hu with rfl | rfl | rfl | rfl | rfl | rfl | rfl <;> rfl⟩
section
variable {α : Type} {K : EK α} {P : Program}
/-- A cell of a row of the call's own is written. -/
theorem own_cell {B : Nat} {w : World} {te : TypeId} {sz n cap g : Nat} {xs : List Value} (h : w.ownsRow B te sz (.slice (some ⟨g, 0, none⟩) n cap) n xs) (j : Nat) (u : Value) :
    (w.setCell ⟨g, j, none⟩ u).ownsRow B te sz (.slice (some ⟨g, 0, none⟩) n cap) n (xs.set j u) := by
  obtain ⟨hl, h2⟩ := h
  rcases h2 with ⟨e, _⟩ | ⟨g', cap', cur, e, hB, hg, h3, h4, h5, h6⟩
  · cases e
  · cases e
    have h0 := heap_setCell_same w g j _ _ u hg
    refine ⟨by rw [List.length_set]; exact hl, .inr ⟨g, cap, _, rfl, hB, h0, h3, h4, by simpa using h5, ?_⟩⟩
    rw [← h6]
    simp [List.take_set]
theorem own_frozen {B : Nat} {w : World} {te : TypeId} {sz n cap g : Nat} {xs : List Value} (h : w.ownsRow B te sz (.slice (some ⟨g, 0, none⟩) n cap) n xs) (j : Nat) : w.frozen? ⟨g, j, none⟩ = false := by
  obtain ⟨_, h2⟩ := h
  rcases h2 with ⟨e, _⟩ | ⟨g', cap', cur, e, hB, hg, _⟩
  · cases e
  · cases e
    unfold World.frozen?
    rw [hg]
    simp
end
theorem flatO_set : ∀ (L : List One) (k : Nat) (y z : One), L[k]? = some y → z.name = y.name → oK.flat (L.set k z) = ((((((oK.flat L).set (k * 7 + 1) (.string z.l.s.name)).set (k * 7 + 2) (.int .i64 z.l.s.val)).set (k * 7 + 3) (.int .i64 z.l.s.tm)).set (k * 7 + 4) (.bool z.l.s.cnt)).set (k * 7 + 5) (.bool z.l.live)).set (k * 7 + 6) (.int .i64 z.l.own)
  | [], k, y, z, h, _ => by simp at h
  | x :: L, 0, y, z, h, e => by
    simp at h
    subst h
    simp [EK.flat, oK, One.cells, e]
  | x :: L, k + 1, y, z, h, e => by
    rw [List.getElem?_cons_succ] at h
    have ih := flatO_set L k y z h e
    rw [List.set_cons_succ, EK.flat_cons, EK.flat_cons, ih]
    have el : (oK.enc x).length = 7 := rfl
    have a : ∀ (j : Nat) (m : List Value) (v : Value), (oK.enc x ++ m).set ((k + 1) * 7 + j) v = oK.enc x ++ m.set (k * 7 + j) v := fun j m v => by
      rw [List.set_append_right _ _ (by rw [el]; omega), el]
      congr 1
      rw [show (k + 1) * 7 + j - 7 = k * 7 + j by omega]
    rw [a, a, a, a, a, a]
theorem flatO_live : ∀ (L : List One) (k : Nat) (y : One) (b : Bool), L[k]? = some y → oK.flat (L.set k ⟨y.name, ⟨y.l.s, b, y.l.own⟩⟩) = (oK.flat L).set (k * 7 + 5) (.bool b)
  | [], k, y, b, h => by simp at h
  | x :: L, 0, y, b, h => by
    simp at h
    subst h
    simp [EK.flat, oK, One.cells]
  | x :: L, k + 1, y, b, h => by
    rw [List.getElem?_cons_succ] at h
    have ih := flatO_live L k y b h
    rw [List.set_cons_succ, EK.flat_cons, EK.flat_cons, ih]
    have el : (oK.enc x).length = 7 := rfl
    rw [List.set_append_right _ _ (by rw [el]; omega), el]
    congr 2
    omega
/-- The document's store: its head in block rv, its series in a row of its own. -/
structure RefS (B : Nat) (w : World) (rv : Nat) (v : Value) (most : Nat) (L : List One) : Prop where
  head : w.heap[rv]? = some (.cells #[v, .int .i64 most] 65 (0, 0))
  own : oK.Own B w v L
  low : B ≤ rv
  ne : rv ∉ ownB v
section
variable {B : Nat} {w w' : World} {rv : Nat} {v : Value} {most : Nat} {L : List One}
theorem RefS.lt (h : RefS B w rv v most L) : rv < w.heap.size := lt_of_block h.head
theorem RefS.turns {F : List Nat} (h : RefS B w rv v most L) (ht : Turns F w w') (h1 : rv ∉ F) (h2 : ∀ i ∈ ownB v, i ∉ F) : RefS B w' rv v most L :=
  ⟨(ht.block rv h.lt h1).trans h.head, h.own.turns ht (fun g hg => h2 g (by unfold ownB; rw [hg]; simp)), h.low, h.ne⟩
theorem RefS.pre (h : RefS B w rv v most L) (ht : Turns [] w w') : RefS B w' rv v most L := h.turns ht (by simp) (by simp)
theorem RefS.cells (h : RefS B w rv v most L) : w.cell? ⟨rv, 0, none⟩ = some v ∧ w.cell? ⟨rv, 1, none⟩ = some (.int .i64 most) ∧ ∀ j, w.frozen? ⟨rv, j, none⟩ = false :=
  ⟨by simp [World.cell?, h.head], by simp [World.cell?, h.head], fun j => by simp [World.frozen?, h.head]⟩
/-- Its slice, written out. -/
theorem RefS.form (h : RefS B w rv v most L) : ∃ A c, v = .slice A L.length c ∧ oK.Reads w w.heap.size A L ∧ L.length ≤ c ∧ c ≤ maxLen := h.own.reads
end
end Go.Proofs.Ytadndefbdofodaa
