/- append of a slice of bytes, or of a text, behind a slice of the call's own; the readers at a slice of the call's own. -/
import Derived.Test.YtblphklfjafmfaaDoorReadT
import Derived.Laws.AppendOwnNone
namespace Go.Proofs.YtblphklfjafmfaaDoor
open Go.RowKit

theorem wpList_append_bytes {w : World} {ops : Array Oper} {rest : List Oper} {o : Oper} {a : Act} {Q : Exit → Act → World → Prop} (hgd : o.guard = none) (s x : Operand)
    (ho : o.op = .call { callee := .builtin .append, args := #[s, x], argTypes := #[22, 22] })
    (base : Nat) (v : Value) (l1 : List UInt8) (hs : a.eval s = v) (hown : Owned base w v l1)
    (B : Nat) (A : Option Addr) (l2 : List UInt8) (c : Nat) (hx : a.eval x = .slice A l2.length c) (hr : BReads w B A l2) (hc : A = none → c = 0)
    (hlen : l1.length + l2.length ≤ 100000) (hbase : base ≤ w.heap.size)
    (h : ∀ v' w', Owned base w' v' (l1 ++ l2) → Below base w w' → wpList Tryd.prog ops Q rest (a.put o.dst v') w') : wpList Tryd.prog ops Q (o :: rest) a w := by
  obtain ⟨i0, hi, hz0, hz1, hz2⟩ := info_parts Tryd.infoU8
  cases A with
  | none =>
    have h0 := hr.hnone rfl
    have hc0 := hc rfl
    obtain rfl := List.eq_nil_of_length_eq_zero h0
    refine wpList_append_own_none hgd s x 22 ho base 5 i0 1 Tryd.underlying22 hi v l1.length (l1.map bcell) hs hown (by rw [hx, hc0]; rfl) (h v w ?_ (Below.refl _ _))
    rw [List.append_nil]
    exact hown
  | some ad =>
    refine wpList_append_own w hgd s x 22 ho base 5 i0 (.int .u8 0) 1 1 Tryd.underlying22 hi hz0 hz1 hz2 rfl (by decide) v l1.length (l1.map bcell) hs hown ad l2.length c (l2.map bcell) hx (by simp) (hr.cells ad rfl) (bcell_one l2) (by unfold maxLen; omega) (by omega) hbase ?_
    intro v' w' h1 h2 _
    refine h v' w' ?_ ((Below.refl _ _).grown h2 hbase (fun k hk => hown.grows k hk))
    unfold Owned
    rw [map_append_len, List.map_append]
    exact h1
theorem wpList_append_text {w : World} {ops : Array Oper} {rest : List Oper} {o : Oper} {a : Act} {Q : Exit → Act → World → Prop} (hgd : o.guard = none) (s x : Operand)
    (ho : o.op = .call { callee := .builtin .append, args := #[s, x], argTypes := #[22, 9] })
    (base : Nat) (v : Value) (l1 : List UInt8) (hs : a.eval s = v) (hown : Owned base w v l1) (t : ByteArray) (hx : a.eval x = .string t)
    (hlen : l1.length + t.size ≤ 100000) (hbase : base ≤ w.heap.size)
    (h : ∀ v' w', Owned base w' v' (l1 ++ t.data.toList) → Below base w w' → wpList Tryd.prog ops Q rest (a.put o.dst v') w') : wpList Tryd.prog ops Q (o :: rest) a w := by
  obtain ⟨i0, hi, hz0, hz1, hz2⟩ := info_parts Tryd.infoU8
  refine Lib.wpList_append_own_string w hgd s x 22 9 ho base 5 i0 Tryd.underlying22 Tryd.underlying9 hi hz0 hz1 hz2 v l1.length (l1.map bcell) hs hown t hx (by unfold maxLen; omega) (by omega) hbase ?_
  intro v' w' h1 h2 _
  refine h v' w' ?_ ((Below.refl _ _).grown h2 hbase (fun k hk => hown.grows k hk))
  unfold Owned
  have e : t.data.toList.length = t.size := by rw [Array.length_toList]; rfl
  rw [map_append_len, List.map_append, e]
  exact h1

theorem Owned.full {B : Nat} {w : World} {v : Value} {l : List UInt8} (h : Owned B w v l) (hl : 0 < l.length) : ∃ g cap, v = .slice (some ⟨g, 0, none⟩) l.length cap ∧ g < w.heap.size ∧ l.length ≤ cap ∧ cap ≤ maxLen ∧ ∀ j c, l[j]? = some c → w.cell? ⟨g, 0 + j, none⟩ = some (bcell c) := by
  rcases h.form with ⟨_, h0⟩ | ⟨g, cap, rfl, h1, h2, h3, h4⟩
  · rw [h0] at hl; simp at hl
  · refine ⟨g, cap, rfl, h2, h3, h4, fun j c hj => ?_⟩
    have := World.ownsRow.cells h (g := g) rfl j (bcell c) (by rw [List.getElem?_map, hj]; rfl)
    rwa [add_plain'] at this
theorem uvarint_own {B : Nat} {w : World} {v : Value} {n : Nat} {r : List UInt8} (hn : n < 18446744073709551616) (hr : r.length ≤ 2000) (h : Owned B w v (putL n ++ r)) :
    Calls Tryd.prog 11 #[v] w fun e w' => e = .returned (.tuple #[.int .u64 n, .int .i64 (putL n).length, .int .i64 0]) ∧ w = w' := by
  have hp := putL_len n
  obtain ⟨g, cap, rfl, h1, h2, h3, h4⟩ := h.full (by rw [map_append_len]; omega)
  exact uvarint_ok g 0 cap n (putL n).length _ w (by omega) h4 (read_put n r hn)
theorem varint_own {B : Nat} {w : World} {v : Value} {m : Int} {r : List UInt8} (h0 : -9223372036854775808 ≤ m) (h1 : m ≤ 9223372036854775807) (hr : r.length ≤ 2000) (h : Owned B w v (putL (foldN m) ++ r)) :
    Calls Tryd.prog 12 #[v] w fun e w' => e = .returned (.tuple #[.int .i64 m, .int .i64 (putL (foldN m)).length, .int .i64 0]) ∧ w = w' := by
  have hp := putL_len (foldN m)
  obtain ⟨g, cap, rfl, h1', h2, h3, h4⟩ := h.full (by rw [map_append_len]; omega)
  exact varint_ok g 0 cap (putL (foldN m)).length m _ w h0 h1 (by omega) h4 (read_put _ r (foldN_lt m h0 h1))
theorem text_own {B : Nat} {w : World} {v : Value} {s : ByteArray} {r : List UInt8} (hs : s.size ≤ 400) (hr : r.length ≤ 2000) (h : Owned B w v (putL s.size ++ s.data.toList ++ r)) :
    Calls Tryd.prog 13 #[v, .int .i64 400] w fun e w' => e = .returned (.tuple #[.string s, .int .i64 ((putL s.size).length + s.size : Nat), .int .i64 0]) ∧ w = w' := by
  have hp := putL_len s.size
  have e : s.data.toList.length = s.size := by rw [Array.length_toList]; rfl
  have hL : (putL s.size ++ s.data.toList ++ r).length = (putL s.size).length + s.size + r.length := by rw [map_append_len, map_append_len, e]
  obtain ⟨g, cap, rfl, h1, h2, h3, h4⟩ := h.full (by omega)
  refine text_ok g 0 cap (putL s.size).length s _ r w hs (by omega) h2 h3 h1 h4 ?_ ?_ (by omega) (by omega)
  · rw [List.append_assoc]
    exact read_put s.size _ (by omega)
  · rw [List.append_assoc, List.drop_left]
end Go.Proofs.YtblphklfjafmfaaDoor
