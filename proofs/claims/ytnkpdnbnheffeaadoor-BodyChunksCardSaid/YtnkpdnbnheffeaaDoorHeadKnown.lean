/- The chapter's rows. -/
import Derived.Test.YtnkpdnbnheffeaaDoorHeadParse
namespace Go.Proofs.YtnkpdnbnheffeaaDoor
open Go.RowKit

def k1 : List UInt8 := [72, 84, 84, 80, 47, 49, 46, 49, 32, 50, 48, 48, 32, 79, 75, 13, 10, 67, 111, 110, 116, 101, 110, 116, 45, 76, 101, 110, 103, 116, 104, 58, 32, 53, 13, 10, 13, 10]
def k2 : List UInt8 := [72, 84, 84, 80, 47, 49, 46, 49, 32, 50, 48, 48, 32, 79, 75, 13, 10, 67, 111, 110, 116, 101, 110, 116, 45, 76, 101, 110, 103, 116, 104, 58, 32, 53, 13, 10]
def k3 : List UInt8 := [72, 84, 84, 80, 47, 50, 32, 50, 48, 48, 32, 79, 75, 13, 10]
theorem k1_is : parseL k1 = .whole ⟨200, 5, false, false⟩ 38 := by rfl
theorem k2_is : parseL k2 = .part := by rfl
theorem k3_is : parseL k3 = .err 9 := by rfl
theorem lit_reads' (w : World) (p : Nat) (t : TypeId) (l : List UInt8) (C : Array Value) (fr : Nat × Nat) (hC : C = (l.map bcell).toArray) (hp : p = w.heap.size) : BReads (w.alloc (.cells C t fr)) (w.alloc (.cells C t fr)).heap.size (some ⟨p, 0, none⟩) l := by
  subst hC hp
  exact (lit_reads w t l fr).more (by simp)
/-- Parse of bytes that were just laid. -/
theorem parse_lit (w : World) (p n : Nat) (l : List UInt8) (C : Array Value) (fr : Nat × Nat) (hC : C = (l.map bcell).toArray) (hp : p = w.heap.size) (hn : n = l.length) (hl : l.length ≤ 1000000) (hm : MX w) :
    Calls Tryd.prog 8 #[.slice (some ⟨p, 0, none⟩) n n] (w.alloc (.cells C 5 fr)) fun e w' => e = .returned (PsV (parseL l)) ∧ Below w.heap.size w w' := by
  subst hn
  exact (parse_any (lit_reads' w p _ l C fr hC hp) (Nat.le_refl _) (fun h => by cases h) hl (hm.grown (below_alloc (Nat.le_refl _) _))).mono fun e w' h => ⟨h.1, (below_alloc (Nat.le_refl _) _).trans (h.2.mono (by simp))⟩
set_option maxRecDepth 100000 in
set_option maxHeartbeats 2000000 in
theorem known_yes (w : World) (hm : MX w) : Calls Tryd.prog 7 #[] w fun e w' => e = .returned (.bool true) ∧ Below w.heap.size w w' := by
  have hcs := conv_lit
  have HP1 : Hid (∀ (W : World) (p : Nat), p = W.heap.size → MX W → Calls Tryd.prog 8 #[.slice (some ⟨p, 0, none⟩) 38 38] (W.alloc (.cells #[.int .u8 72, .int .u8 84, .int .u8 84, .int .u8 80, .int .u8 47, .int .u8 49, .int .u8 46, .int .u8 49, .int .u8 32, .int .u8 50, .int .u8 48, .int .u8 48, .int .u8 32, .int .u8 79, .int .u8 75, .int .u8 13, .int .u8 10, .int .u8 67, .int .u8 111, .int .u8 110, .int .u8 116, .int .u8 101, .int .u8 110, .int .u8 116, .int .u8 45, .int .u8 76, .int .u8 101, .int .u8 110, .int .u8 103, .int .u8 116, .int .u8 104, .int .u8 58, .int .u8 32, .int .u8 53, .int .u8 13, .int .u8 10, .int .u8 13, .int .u8 10] 5 (38, 39))) fun e w' => e = .returned (.tuple #[.agg #[.int .i64 200, .int .i64 5, .bool false, .bool false], .int .i64 38, .int .i64 0]) ∧ Below W.heap.size W w') := Lib.hid (fun W p hp hm => by have h := parse_lit W p 38 k1 _ (38, 39) rfl hp rfl (by decide) hm; rw [k1_is] at h; exact h)
  have HP2 : Hid (∀ (W : World) (p : Nat), p = W.heap.size → MX W → Calls Tryd.prog 8 #[.slice (some ⟨p, 0, none⟩) 36 36] (W.alloc (.cells #[.int .u8 72, .int .u8 84, .int .u8 84, .int .u8 80, .int .u8 47, .int .u8 49, .int .u8 46, .int .u8 49, .int .u8 32, .int .u8 50, .int .u8 48, .int .u8 48, .int .u8 32, .int .u8 79, .int .u8 75, .int .u8 13, .int .u8 10, .int .u8 67, .int .u8 111, .int .u8 110, .int .u8 116, .int .u8 101, .int .u8 110, .int .u8 116, .int .u8 45, .int .u8 76, .int .u8 101, .int .u8 110, .int .u8 103, .int .u8 116, .int .u8 104, .int .u8 58, .int .u8 32, .int .u8 53, .int .u8 13, .int .u8 10] 5 (36, 37))) fun e w' => e = .returned (.tuple #[.agg #[.int .i64 0, .int .i64 0, .bool false, .bool false], .int .i64 0, .int .i64 0]) ∧ Below W.heap.size W w') := Lib.hid (fun W p hp hm => by have h := parse_lit W p 36 k2 _ (36, 37) rfl hp rfl (by decide) hm; rw [k2_is] at h; exact h)
  have HP3 : Hid (∀ (W : World) (p : Nat), p = W.heap.size → MX W → Calls Tryd.prog 8 #[.slice (some ⟨p, 0, none⟩) 15 15] (W.alloc (.cells #[.int .u8 72, .int .u8 84, .int .u8 84, .int .u8 80, .int .u8 47, .int .u8 50, .int .u8 32, .int .u8 50, .int .u8 48, .int .u8 48, .int .u8 32, .int .u8 79, .int .u8 75, .int .u8 13, .int .u8 10] 5 (15, 16))) fun e w' => e = .returned (.tuple #[.agg #[.int .i64 0, .int .i64 0, .bool false, .bool false], .int .i64 0, .int .i64 9]) ∧ Below W.heap.size W w') := Lib.hid (fun W p hp hm => by have h := parse_lit W p 15 k3 _ (15, 16) rfl hp rfl (by decide) hm; rw [k3_is] at h; exact h)
  have HM := Lib.hid hm
  clear hm
  go_enter Tryd.func7, Tryd.ntmps7
  go_wp2_with fail
  refine (HP1.out w w.heap.size rfl HM.out).mono ?_
  rintro e w1 ⟨rfl, hb1⟩
  have hBA := hb1.alloc hb1.size (.cells #[.int .i64 200, .int .i64 5, .bool false, .bool false] 25)
  have HB1 := Lib.hid hb1
  have HBA := Lib.hid hBA
  clear hb1 hBA
  go_wp2_with fail
  refine (HP2.out _ _ (by simp) (HM.out.grown HBA.out)).mono ?_
  rintro e w2 ⟨rfl, hb2⟩
  have hh2 : w2.heap[w1.heap.size]? = some (.cells #[.int .i64 200, .int .i64 5, .bool false, .bool false] 25 (0, 0)) := (hb2.block _ (by simp)).trans (heap_alloc_new w1 _)
  have HB2 := Lib.hid ((HBA.out.trans (hb2.mono HBA.out.size)).alloc (Nat.le_trans HBA.out.size hb2.size) (.cells #[.int .i64 0, .int .i64 0, .bool false, .bool false] 25))
  have HH2 := Lib.hid hh2
  clear hb2 hh2
  go_wp2_with fail
  refine (HP3.out _ _ (by simp) (HM.out.grown HB2.out)).mono ?_
  rintro e w3 ⟨rfl, hb3⟩
  have hlt := lt_of_block HH2.out
  have hh3 : w3.heap[w1.heap.size]? = some (.cells #[.int .i64 200, .int .i64 5, .bool false, .bool false] 25 (0, 0)) := (hb3.block _ (by simp; omega)).trans ((heap_alloc_old w2 _ hlt).trans HH2.out)
  have HB3 := Lib.hid ((HB2.out.trans (hb3.mono HB2.out.size)).alloc (Nat.le_trans HB2.out.size hb3.size) (.cells #[.int .i64 0, .int .i64 0, .bool false, .bool false] 25))
  have hh4 := (heap_alloc_old w3 (.cells #[.int .i64 0, .int .i64 0, .bool false, .bool false] 25) (lt_of_block hh3)).trans hh3
  obtain ⟨c0, c1, c2, c3, -⟩ := read_cells hh4
  clear hb3 hh3 hh4 hlt HP1 HP2 HP3
  go_wp2
  go_ret
  exact ⟨rfl, HB3.out⟩
end Go.Proofs.YtnkpdnbnheffeaaDoor
