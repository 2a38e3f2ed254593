/- append of bytes, or of a text, behind a slice of the call's own; bytes that were just laid. -/
import Derived.Test.YtnbghappfclnjaaBytes
import Derived.Laws.AppendOwnNone
import Derived.Lib.AppendStr
namespace Go.Proofs.Ytnbghappfclnjaa
open Go.RowKit

theorem wpList_append_bytes {w : World} {ops : Array Oper} {rest : List Oper} {o : Oper} {a : Act} {Q : Exit → Act → World → Prop} (hgd : o.guard = none) (s x : Operand)
    (ho : o.op = .call { callee := .builtin .append, args := #[s, x], argTypes := #[74, 74] })
    (base : Nat) (v : Value) (l1 : List UInt8) (hs : a.eval s = v) (hown : Owned base w v l1)
    (B : Nat) (A : Option Addr) (l2 : List UInt8) (c : Nat) (hx : a.eval x = .slice A l2.length c) (hr : BReads w B A l2) (hc : A = none → c = 0)
    (hlen : l1.length + l2.length ≤ 1000000) (hbase : base ≤ w.heap.size)
    (h : ∀ v' w', Owned base w' v' (l1 ++ l2) → Below base w w' → wpList Try.prog ops Q rest (a.put o.dst v') w') : wpList Try.prog ops Q (o :: rest) a w := by
  obtain ⟨i0, hi, hz0, hz1, hz2⟩ := info_parts Try.infoU8
  cases A with
  | none =>
    have h0 := hr.hnone rfl
    have hc0 := hc rfl
    obtain rfl := List.eq_nil_of_length_eq_zero h0
    refine wpList_append_own_none hgd s x 74 ho base 5 i0 1 Try.underlying74 hi v l1.length (l1.map bcell) hs hown (by rw [hx, hc0]; rfl) (h v w ?_ (Below.refl _ _))
    rw [List.append_nil]
    exact hown
  | some ad =>
    refine wpList_append_own w hgd s x 74 ho base 5 i0 (.int .u8 0) 1 1 Try.underlying74 hi hz0 hz1 hz2 rfl (by decide) v l1.length (l1.map bcell) hs hown ad l2.length c (l2.map bcell) hx (by simp) (hr.cells ad rfl) (bcell_one l2) (by unfold maxLen; omega) (by omega) hbase ?_
    intro v' w' h1 h2 _
    refine h v' w' ?_ ((Below.refl _ _).grown h2 hbase (fun k hk => hown.grows k hk))
    unfold Owned
    rw [map_append_len, List.map_append]
    exact h1
theorem wpList_append_text {w : World} {ops : Array Oper} {rest : List Oper} {o : Oper} {a : Act} {Q : Exit → Act → World → Prop} (hgd : o.guard = none) (s x : Operand)
    (ho : o.op = .call { callee := .builtin .append, args := #[s, x], argTypes := #[74, 9] })
    (base : Nat) (v : Value) (l1 : List UInt8) (hs : a.eval s = v) (hown : Owned base w v l1) (t : ByteArray) (hx : a.eval x = .string t)
    (hlen : l1.length + t.size ≤ 1000000) (hbase : base ≤ w.heap.size)
    (h : ∀ v' w', Owned base w' v' (l1 ++ t.data.toList) → Below base w w' → wpList Try.prog ops Q rest (a.put o.dst v') w') : wpList Try.prog ops Q (o :: rest) a w := by
  obtain ⟨i0, hi, hz0, hz1, hz2⟩ := info_parts Try.infoU8
  refine Lib.wpList_append_own_string w hgd s x 74 9 ho base 5 i0 Try.underlying74 Try.underlying9 hi hz0 hz1 hz2 v l1.length (l1.map bcell) hs hown t hx (by unfold maxLen; omega) (by omega) hbase ?_
  intro v' w' h1 h2 _
  refine h v' w' ?_ ((Below.refl _ _).grown h2 hbase (fun k hk => hown.grows k hk))
  unfold Owned
  have e : t.data.toList.length = t.size := by rw [Array.length_toList]; rfl
  rw [map_append_len, List.map_append, e]
  exact h1

/-- What was just laid, as bytes. -/
theorem breads_one (w : World) (n : Int) (c : UInt8) (t : TypeId) (h : n = (c.toNat : Int)) : BReads (w.alloc (.cells #[.int .u8 n] t)) (w.heap.size + 1) (some ⟨w.heap.size, 0, none⟩) [c] := by
  subst h
  refine .inr ⟨w.heap.size, 0, rfl, Nat.lt_succ_self _, fun j d hj => ?_⟩
  cases j with
  | zero => simp at hj; subst hj; simp [bcell]
  | succ j => simp at hj
theorem breads_two (w : World) (n m : Int) (c d : UInt8) (t : TypeId) (h : n = (c.toNat : Int)) (h2 : m = (d.toNat : Int)) : BReads (w.alloc (.cells #[.int .u8 n, .int .u8 m] t)) (w.heap.size + 1) (some ⟨w.heap.size, 0, none⟩) [c, d] := by
  subst h h2
  refine .inr ⟨w.heap.size, 0, rfl, Nat.lt_succ_self _, fun j x hj => ?_⟩
  match j, hj with
  | 0, hj => simp at hj; subst hj; simp [bcell]
  | 1, hj => simp at hj; subst hj; simp [bcell]
  | j + 2, hj => simp at hj
theorem Owned.alloc {B : Nat} {w : World} {v : Value} {l : List UInt8} (h : Owned B w v l) (o : Obj) : Owned B (w.alloc o) v l := World.ownsRow.alloc h o
theorem below_alloc {B : Nat} {w : World} (h : B ≤ w.heap.size) (o : Obj) : Below B w (w.alloc o) := (Below.refl _ _).alloc h o
theorem le_alloc {B : Nat} {w : World} (h : B ≤ w.heap.size) (o : Obj) : B ≤ (w.alloc o).heap.size := Nat.le_trans h (by simp)
theorem owned_text {B : Nat} {w : World} {v : Value} {l : List UInt8} (h : Owned B w v l) : ∃ A cap, v = .slice A l.length cap ∧ (convert 74 9 (.slice A l.length cap)).run Try.prog w = .ok (.string ⟨l.toArray⟩) w := by
  obtain ⟨A, cap, rfl, hr, _⟩ := h.reads
  exact ⟨A, cap, rfl, run_bytes_text w 9 74 Try.underlying74 Try.underlying9 cap hr⟩
end Go.Proofs.Ytnbghappfclnjaa
