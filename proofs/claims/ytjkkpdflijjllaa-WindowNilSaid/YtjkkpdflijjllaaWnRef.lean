/- The document's windows in memory; its May, New, Note, Copy, Alike. -/
import Derived.Test.YtjkkpdflijjllaaWnSame
import Derived.Deep.RegionHeld3
namespace Go.Proofs.Ytjkkpdflijjllaa
open Go.RowKit

structure Ws where
  len : Int
  lat : Int
  most : Int
  L : List Wn
  floor : Int
  mark : Int
  cred : Int
  late : Int
def mayW (len lat most : Int) : Int := if len < 1 ∨ 1073741824 < len ∨ lat < 0 ∨ 1073741824 < lat ∨ most < 1 ∨ 64 < most then 2 else 0
def newW (len lat most : Int) : Ws := ⟨len, lat, most, [], -1, -1, 0, 0⟩
def noteW (S : Ws) (t : Int) : Ws := if S.mark < t ∧ t ≤ 1125899906842624 then { S with mark := t } else S
/-- The document's windows: their head in block rv, their lists in blocks G, which are never written again. -/
structure RefW (B : Nat) (w : World) (rv : Nat) (G : List Nat) (v : Value) (S : Ws) : Prop where
  head : w.heap[rv]? = some (.cells #[.int .i64 S.len, .int .i64 S.lat, .int .i64 S.most, v, .int .i64 S.floor, .int .i64 S.mark, .int .i64 S.cred, .int .i64 S.late] 71 (0, 0))
  list : WnL w G v S.L
  low : B ≤ rv
  ne : rv ∉ G
  foot : ∀ i ∈ G, B ≤ i ∧ i < w.heap.size
section
variable {B : Nat} {w w' : World} {rv : Nat} {G : List Nat} {v : Value} {S : Ws}
theorem RefW.lt (h : RefW B w rv G v S) : rv < w.heap.size := lt_of_block h.head
theorem RefW.turns {F : List Nat} (h : RefW B w rv G v S) (ht : Turns F w w') (h1 : rv ∉ F) (h2 : ∀ i ∈ G, i ∉ F) : RefW B w' rv G v S :=
  ⟨(ht.block rv h.lt h1).trans h.head, h.list.turns ht h2, h.low, h.ne, fun i hi => ⟨(h.foot i hi).1, Nat.lt_of_lt_of_le (h.foot i hi).2 ht.size⟩⟩
theorem RefW.pre (h : RefW B w rv G v S) (ht : Turns [] w w') : RefW B w' rv G v S := h.turns ht (by simp) (by simp)
theorem RefW.cells (h : RefW B w rv G v S) : w.cell? ⟨rv, 0, none⟩ = some (.int .i64 S.len) ∧ w.cell? ⟨rv, 1, none⟩ = some (.int .i64 S.lat) ∧ w.cell? ⟨rv, 2, none⟩ = some (.int .i64 S.most) ∧ w.cell? ⟨rv, 3, none⟩ = some v ∧ w.cell? ⟨rv, 4, none⟩ = some (.int .i64 S.floor) ∧ w.cell? ⟨rv, 5, none⟩ = some (.int .i64 S.mark) ∧ w.cell? ⟨rv, 6, none⟩ = some (.int .i64 S.cred) ∧ w.cell? ⟨rv, 7, none⟩ = some (.int .i64 S.late) ∧ ∀ j, w.frozen? ⟨rv, j, none⟩ = false := by
  have h1 := h.head
  refine ⟨?_, ?_, ?_, ?_, ?_, ?_, ?_, ?_, ?_⟩
  all_goals first | (simp [World.cell?, h1]) | (intro j; simp [World.frozen?, h1])
theorem RefW.form (h : RefW B w rv G v S) : ∃ A c, v = .slice A S.L.length c ∧ S.L.length ≤ c ∧ c ≤ maxLen := by
  obtain ⟨A, c, R, e, h1, h2, _⟩ := h.list
  exact ⟨A, c, e, h1, h2⟩
/-- One number of the head, written. -/
theorem RefW.put (h : RefW B w rv G v S) (j : Nat) (u : Value) {S' : Ws} (hL : S'.L = S.L) (he : (#[Value.int .i64 S.len, .int .i64 S.lat, .int .i64 S.most, v, .int .i64 S.floor, .int .i64 S.mark, .int .i64 S.cred, .int .i64 S.late] : Array Value).set! j u = #[.int .i64 S'.len, .int .i64 S'.lat, .int .i64 S'.most, v, .int .i64 S'.floor, .int .i64 S'.mark, .int .i64 S'.cred, .int .i64 S'.late]) :
    RefW B (w.setCell ⟨rv, j, none⟩ u) rv G v S' := by
  have ht : Turns [rv] w (w.setCell ⟨rv, j, none⟩ u) := Turns.setCell _ _ _ (by simp)
  have hd := heap_setCell_same w rv j _ _ u h.head
  have hl := h.list.turns ht fun i hi hm => h.ne (by rw [List.mem_singleton] at hm; rw [← hm]; exact hi)
  rw [← hL] at hl
  exact ⟨by rw [← he]; exact hd, hl, h.low, h.ne, fun i hi => ⟨(h.foot i hi).1, Nat.lt_of_lt_of_le (h.foot i hi).2 ht.size⟩⟩
end
set_option maxRecDepth 100000 in
set_option maxHeartbeats 2000000 in
theorem rmayW_any (len lat most : Int) (w : World) : Calls Try.prog 8 #[.int .i64 len, .int .i64 lat, .int .i64 most] w fun e w' => e = .returned (.int .i64 (mayW len lat most)) ∧ w = w' := by
  by_cases h0 : len < 1
  · have d0 : decide (len < 1) = true := by simpa using h0
    have HM : Hid (mayW len lat most = 2) := Lib.hid (by unfold mayW; rw [if_pos (by omega)])
    go_enter Try.func8, Try.ntmps8
    go_wp2
    go_ret
    exact ⟨by rw [HM.out]; rfl, rfl⟩
  have d0 : decide (len < 1) = false := by simpa using h0
  by_cases h1 : 1073741824 < len
  · have d1 : decide (1073741824 < len) = true := by simpa using h1
    have HM : Hid (mayW len lat most = 2) := Lib.hid (by unfold mayW; rw [if_pos (by omega)])
    go_enter Try.func8, Try.ntmps8
    go_wp2
    go_ret
    exact ⟨by rw [HM.out]; rfl, rfl⟩
  have d1 : decide (1073741824 < len) = false := by simpa using h1
  by_cases h2 : lat < 0
  · have d2 : decide (lat < 0) = true := by simpa using h2
    have HM : Hid (mayW len lat most = 2) := Lib.hid (by unfold mayW; rw [if_pos (by omega)])
    go_enter Try.func8, Try.ntmps8
    go_wp2
    go_ret
    exact ⟨by rw [HM.out]; rfl, rfl⟩
  have d2 : decide (lat < 0) = false := by simpa using h2
  by_cases h3 : 1073741824 < lat
  · have d3 : decide (1073741824 < lat) = true := by simpa using h3
    have HM : Hid (mayW len lat most = 2) := Lib.hid (by unfold mayW; rw [if_pos (by omega)])
    go_enter Try.func8, Try.ntmps8
    go_wp2
    go_ret
    exact ⟨by rw [HM.out]; rfl, rfl⟩
  have d3 : decide (1073741824 < lat) = false := by simpa using h3
  by_cases h4 : most < 1
  · have d4 : decide (most < 1) = true := by simpa using h4
    have HM : Hid (mayW len lat most = 2) := Lib.hid (by unfold mayW; rw [if_pos (by omega)])
    go_enter Try.func8, Try.ntmps8
    go_wp2
    go_ret
    exact ⟨by rw [HM.out]; rfl, rfl⟩
  have d4 : decide (most < 1) = false := by simpa using h4
  by_cases h5 : 64 < most
  · have d5 : decide (64 < most) = true := by simpa using h5
    have HM : Hid (mayW len lat most = 2) := Lib.hid (by unfold mayW; rw [if_pos (by omega)])
    go_enter Try.func8, Try.ntmps8
    go_wp2
    go_ret
    exact ⟨by rw [HM.out]; rfl, rfl⟩
  have d5 : decide (64 < most) = false := by simpa using h5
  have HM : Hid (mayW len lat most = 0) := Lib.hid (by unfold mayW; rw [if_neg (by omega)])
  go_enter Try.func8, Try.ntmps8
  go_wp2
  go_ret
  exact ⟨by rw [HM.out]; rfl, rfl⟩
set_option maxRecDepth 100000 in
set_option maxHeartbeats 1000000 in
theorem rnewW_any (len lat most : Int) (w : World) :
    Calls Try.prog 26 #[.int .i64 len, .int .i64 lat, .int .i64 most] w fun e w' => e = .returned (.pointer (some ⟨w.heap.size, 0, none⟩)) ∧ RefW w.heap.size w' w.heap.size [] (.slice none 0 0) (newW len lat most) ∧ Turns [] w w' := by
  have HR : Hid (RefW w.heap.size (w.alloc (.cells #[.int .i64 len, .int .i64 lat, .int .i64 most, .slice none 0 0, .int .i64 (-1), .int .i64 (-1), .int .i64 0, .int .i64 0] 71)) w.heap.size [] (.slice none 0 0) (newW len lat most) ∧ Turns [] w (w.alloc (.cells #[.int .i64 len, .int .i64 lat, .int .i64 most, .slice none 0 0, .int .i64 (-1), .int .i64 (-1), .int .i64 0, .int .i64 0] 71))) := Lib.hid ⟨⟨heap_alloc_new w _, .nil, Nat.le_refl _, by simp, fun i hi => by cases hi⟩, Turns.alloc _ _⟩
  go_enter Try.func26, Try.ntmps26
  go_wp2
  go_ret
  exact ⟨rfl, HR.out⟩
set_option maxRecDepth 100000 in
set_option maxHeartbeats 1000000 in
theorem rnoteW_any {B : Nat} {w : World} {rv : Nat} {G : List Nat} {v : Value} {S : Ws} (h : RefW B w rv G v S) (t : Int) :
    Calls Try.prog 27 #[.pointer (some ⟨rv, 0, none⟩), .int .i64 t] w fun e w' => e = .returned (.tuple #[]) ∧ RefW B w' rv G v (noteW S t) ∧ Turns [rv] w w' := by
  obtain ⟨c0, c1, c2, c3, c4, c5, c6, c7, fz⟩ := h.cells
  have f5 := fz 5
  have HT0 := Lib.hid (Turns.refl [rv] w)
  by_cases h1 : S.mark < t
  · have d1 : decide (S.mark < t) = true := by simpa using h1
    by_cases h2 : t ≤ 1125899906842624
    · have d2 : decide (t ≤ 1125899906842624) = true := by simpa using h2
      have HN : Hid (RefW B (w.setCell ⟨rv, 5, none⟩ (.int .i64 t)) rv G v (noteW S t) ∧ Turns [rv] w (w.setCell ⟨rv, 5, none⟩ (.int .i64 t))) := Lib.hid ⟨by
        have e : noteW S t = { S with mark := t } := by unfold noteW; rw [if_pos ⟨h1, h2⟩]
        rw [e]
        exact h.put 5 _ rfl rfl, Turns.setCell _ _ _ (by simp)⟩
      clear h fz h1 h2
      go_enter Try.func27, Try.ntmps27
      go_wp2
      go_end0
      exact ⟨rfl, HN.out⟩
    · have d2 : decide (t ≤ 1125899906842624) = false := by simpa using h2
      have HN : Hid (RefW B w rv G v (noteW S t)) := Lib.hid (by unfold noteW; rw [if_neg (fun e => h2 e.2)]; exact h)
      clear h fz h1 h2
      go_enter Try.func27, Try.ntmps27
      go_wp2
      go_end0
      exact ⟨rfl, HN.out, HT0.out⟩
  · have d1 : decide (S.mark < t) = false := by simpa using h1
    have HN : Hid (RefW B w rv G v (noteW S t)) := Lib.hid (by unfold noteW; rw [if_neg (fun e => h1 e.1)]; exact h)
    clear h fz h1
    go_enter Try.func27, Try.ntmps27
    go_wp2
    go_end0
    exact ⟨rfl, HN.out, HT0.out⟩
set_option maxRecDepth 100000 in
set_option maxHeartbeats 1000000 in
theorem rcopyW_any {B : Nat} {w : World} {rv : Nat} {G : List Nat} {v : Value} {S : Ws} (h : RefW B w rv G v S) :
    Calls Try.prog 21 #[.pointer (some ⟨rv, 0, none⟩)] w fun e w' => e = .returned (.pointer (some ⟨w.heap.size, 0, none⟩)) ∧ RefW B w' w.heap.size G v S ∧ Turns [] w w' := by
  obtain ⟨c0, c1, c2, c3, c4, c5, c6, c7, fz⟩ := h.cells
  have HR : Hid (RefW B (w.alloc (.cells #[.int .i64 S.len, .int .i64 S.lat, .int .i64 S.most, v, .int .i64 S.floor, .int .i64 S.mark, .int .i64 S.cred, .int .i64 S.late] 71)) w.heap.size G v S ∧ Turns [] w (w.alloc (.cells #[.int .i64 S.len, .int .i64 S.lat, .int .i64 S.most, v, .int .i64 S.floor, .int .i64 S.mark, .int .i64 S.cred, .int .i64 S.late] 71))) := Lib.hid ⟨⟨heap_alloc_new w _, h.list.pre (Turns.alloc _ _), by have := h.lt; have := h.low; omega, fun hm => by have := (h.foot _ hm).2; omega, fun i hi => ⟨(h.foot i hi).1, by have := (h.foot i hi).2; simp; omega⟩⟩, Turns.alloc _ _⟩
  obtain ⟨A, c, rfl, _⟩ := h.form
  clear h fz
  go_enter Try.func21, Try.ntmps21
  go_wp2
  go_ret
  exact ⟨rfl, HR.out⟩
end Go.Proofs.Ytjkkpdflijjllaa
