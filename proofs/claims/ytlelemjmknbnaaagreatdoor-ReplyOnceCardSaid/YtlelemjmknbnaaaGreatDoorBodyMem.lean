/- A decoder in memory. -/
import Derived.Test.YtlelemjmknbnaaaGreatDoorBodyPlain
import Derived.Test.YtlelemjmknbnaaaGreatDoorHeadLater
namespace Go.Proofs.YtlelemjmknbnaaaGreatDoor
open Go.RowKit

def fnS (f : Nat) : Value := .func (.func f) #[] #[]
def mustV (g h : Nat) : Value := .func (.func 62) #[] #[.pointer (some ⟨g, 0, none⟩), .pointer (some ⟨h, 0, none⟩)]
def BoxU (w : World) (g : Nat) (c : Int) : Prop := w.heap[g]? = some (.cells #[.int .u8 c] 5 (0, 0))
def BoxF (w : World) (g : Nat) (v : Value) : Prop := w.heap[g]? = some (.cells #[v] 58 (0, 0))
/-- What takes the next byte, as a value; the blocks that it stands on. -/
def NxV (w : World) (v : Value) (n : Nx) (K : List Nat) : Prop :=
  match n with
  | .none => v = .nilFunc ∧ K = []
  | .size => v = fnS 37 ∧ K = []
  | .beyond => v = fnS 38 ∧ K = []
  | .trailer => v = fnS 49 ∧ K = []
  | .lf => ∃ g h, v = mustV g h ∧ K = [g, h] ∧ BoxU w g 10 ∧ BoxF w h (fnS 37)
  | .cr => ∃ g h g2 h2, v = mustV g h ∧ K = [g, h, g2, h2] ∧ BoxU w g 13 ∧ BoxF w h (mustV g2 h2) ∧ BoxU w g2 10 ∧ BoxF w h2 (fnS 37)
theorem NxV.turns {w w' : World} {v : Value} {n : Nx} {K F : List Nat} (h : NxV w v n K) (ht : Turns F w w') (hk : ∀ g ∈ K, g ∉ F) : NxV w' v n K := by
  have hu : ∀ g c, g ∈ K → BoxU w g c → BoxU w' g c := fun g c hg hb => (ht.block g (lt_of_block hb) (hk g hg)).trans hb
  have hf : ∀ g u, g ∈ K → BoxF w g u → BoxF w' g u := fun g c hg hb => (ht.block g (lt_of_block hb) (hk g hg)).trans hb
  cases n with
  | none => exact h
  | size => exact h
  | beyond => exact h
  | trailer => exact h
  | lf =>
    obtain ⟨g, k, rfl, rfl, h1, h2⟩ := h
    exact ⟨g, k, rfl, rfl, hu _ _ (by simp) h1, hf _ _ (by simp) h2⟩
  | cr =>
    obtain ⟨g, k, g2, k2, rfl, rfl, h1, h2, h3, h4⟩ := h
    exact ⟨g, k, g2, k2, rfl, rfl, hu _ _ (by simp) h1, hf _ _ (by simp) h2, hu _ _ (by simp) h3, hf _ _ (by simp) h4⟩
theorem NxV.lt {w : World} {v : Value} {n : Nx} {K : List Nat} (h : NxV w v n K) : ∀ g ∈ K, g < w.heap.size := by
  cases n with
  | lf =>
    obtain ⟨g, k, rfl, rfl, h1, h2⟩ := h
    intro x hx
    simp at hx
    rcases hx with rfl | rfl
    · exact lt_of_block h1
    · exact lt_of_block h2
  | cr =>
    obtain ⟨g, k, g2, k2, rfl, rfl, h1, h2, h3, h4⟩ := h
    intro x hx
    simp at hx
    rcases hx with rfl | rfl | rfl | rfl
    · exact lt_of_block h1
    · exact lt_of_block h2
    · exact lt_of_block h3
    · exact lt_of_block h4
  | none => intro x hx; rw [h.2] at hx; cases hx
  | size => intro x hx; rw [h.2] at hx; cases hx
  | beyond => intro x hx; rw [h.2] at hx; cases hx
  | trailer => intro x hx; rw [h.2] at hx; cases hx
/-- The decoder's own cells; what stands in next is told apart. -/
structure DecR (B : Nat) (w : World) (p : Nat) (d : Dc) (lv bv nv : Value) : Prop where
  head : w.heap[p]? = some (.cells #[.int .i64 (d.left : Int), nv, .bool d.opn, .int .i64 (d.room : Int), lv, .int .i64 (d.trail : Int), bv, .int .i64 (d.wrong : Int)] 60 (0, 0))
  low : B ≤ p
  line : Owned B w lv d.line
  body : Owned B w bv d.body
  offL : p ∉ ownB lv
  offB : p ∉ ownB bv
  apart : ∀ g ∈ ownB lv, g ∉ ownB bv
def foot (p : Nat) (lv bv : Value) : List Nat := p :: (ownB lv ++ ownB bv)
namespace DecR
variable {B : Nat} {w w' : World} {p : Nat} {d : Dc} {lv bv nv : Value}
theorem lt (h : DecR B w p d lv bv nv) : p < w.heap.size := lt_of_block h.head
theorem cells (h : DecR B w p d lv bv nv) : w.cell? ⟨p, 0, none⟩ = some (.int .i64 (d.left : Int)) ∧ w.cell? ⟨p, 1, none⟩ = some nv ∧ w.cell? ⟨p, 2, none⟩ = some (.bool d.opn) ∧ w.cell? ⟨p, 3, none⟩ = some (.int .i64 (d.room : Int)) ∧ w.cell? ⟨p, 4, none⟩ = some lv ∧ w.cell? ⟨p, 5, none⟩ = some (.int .i64 (d.trail : Int)) ∧ w.cell? ⟨p, 6, none⟩ = some bv ∧ w.cell? ⟨p, 7, none⟩ = some (.int .i64 (d.wrong : Int)) ∧ ∀ j, w.frozen? ⟨p, j, none⟩ = false := by
  simp [World.cell?, World.frozen?, h.head]
theorem ltF (h : DecR B w p d lv bv nv) : ∀ g ∈ foot p lv bv, B ≤ g ∧ g < w.heap.size := by
  intro g hg
  unfold foot at hg
  rw [List.mem_cons, List.mem_append] at hg
  rcases hg with rfl | hg | hg
  · exact ⟨h.low, h.lt⟩
  · unfold ownB at hg
    rw [Option.mem_toList] at hg
    exact World.ownsRow.lt h.line g hg
  · unfold ownB at hg
    rw [Option.mem_toList] at hg
    exact World.ownsRow.lt h.body g hg
theorem turns (h : DecR B w p d lv bv nv) {F : List Nat} (ht : Turns F w w') (hF : ∀ g ∈ foot p lv bv, g ∉ F) : DecR B w' p d lv bv nv where
  head := (ht.block p h.lt (hF p (by simp [foot]))).trans h.head
  low := h.low
  line := h.line.turns ht (fun g hg => hF g (by unfold foot ownB; rw [hg]; simp))
  body := h.body.turns ht (fun g hg => hF g (by unfold foot ownB; rw [hg]; simp))
  offL := h.offL
  offB := h.offB
  apart := h.apart
theorem below (h : DecR B w p d lv bv nv) (hb : Below w.heap.size w w') : DecR B w' p d lv bv nv := h.turns (F := []) (Turns.of_below hb (Nat.le_refl _)) (by simp)
theorem drew (h : DecR B w p d lv bv nv) : DecR B w.drew p d lv bv nv := ⟨h.head, h.low, h.line, h.body, h.offL, h.offB, h.apart⟩
/-- Cells of the decoder's own block are set. -/
theorem set (h : DecR B w p d lv bv nv) {d' : Dc} {nv' : Value} (ht : Turns [p] w w')
    (hh : w'.heap[p]? = some (.cells #[.int .i64 (d'.left : Int), nv', .bool d'.opn, .int .i64 (d'.room : Int), lv, .int .i64 (d'.trail : Int), bv, .int .i64 (d'.wrong : Int)] 60 (0, 0)))
    (hl : d'.line = d.line) (hb : d'.body = d.body) : DecR B w' p d' lv bv nv' where
  head := hh
  low := h.low
  line := hl ▸ h.line.turns ht (fun g hg hm => h.offL (by rw [List.mem_singleton] at hm; subst hm; unfold ownB; rw [hg]; simp))
  body := hb ▸ h.body.turns ht (fun g hg hm => h.offB (by rw [List.mem_singleton] at hm; subst hm; unfold ownB; rw [hg]; simp))
  offL := h.offL
  offB := h.offB
  apart := h.apart
/-- ..and its line is dropped. -/
theorem setNil (h : DecR B w p d lv bv nv) {d' : Dc} {nv' : Value} (ht : Turns [p] w w')
    (hh : w'.heap[p]? = some (.cells #[.int .i64 (d'.left : Int), nv', .bool d'.opn, .int .i64 (d'.room : Int), .slice none 0 0, .int .i64 (d'.trail : Int), bv, .int .i64 (d'.wrong : Int)] 60 (0, 0)))
    (hl : d'.line = []) (hb : d'.body = d.body) : DecR B w' p d' (.slice none 0 0) bv nv' where
  head := hh
  low := h.low
  line := hl ▸ World.ownsRow_nil _ _ _ _
  body := hb ▸ h.body.turns ht (fun g hg hm => h.offB (by rw [List.mem_singleton] at hm; subst hm; unfold ownB; rw [hg]; simp))
  offL := by simp [ownB, Value.ownBlock]
  offB := h.offB
  apart := by simp [ownB, Value.ownBlock]
end DecR
end Go.Proofs.YtlelemjmknbnaaaGreatDoor
