/- append of a text behind bytes of a literal (their row is full, and marked). -/
import Derived.Test.YtnkpdnbnheffeaaDoorAppendL
namespace Go.Proofs.YtnkpdnbnheffeaaDoor
open Go.RowKit
open Go.Lib

/-- The call's own bytes, or those of a literal. -/
def Own2 (B : Nat) (w : World) (v : Value) (l : List UInt8) : Prop := Owned B w v l ∨ ∃ g, v = .slice (some ⟨g, 0, none⟩) l.length l.length ∧ ∀ j c, l[j]? = some c → w.cell? ⟨g, j, none⟩ = some (bcell c)
theorem own2_lit (B : Nat) (w : World) (l : List UInt8) (C : Array Value) (n : Nat) (fr : Nat × Nat) (hC : C = (l.map bcell).toArray) (hn : n = l.length) : Own2 B (w.alloc (.cells C 5 fr)) (.slice (some ⟨w.heap.size, 0, none⟩) n n) l := by
  subst hC hn
  refine .inr ⟨_, rfl, fun j c hj => ?_⟩
  have hl : j < l.length := by
    rcases Nat.lt_or_ge j l.length with h | h
    · exact h
    · rw [List.getElem?_eq_none h] at hj; cases hj
  have hh := heap_alloc_new w (.cells (l.map bcell).toArray 5 fr)
  unfold World.cell?
  rw [hh]
  simp [hj]
theorem wpList_append_text2 {w : World} {ops : Array Oper} {rest : List Oper} {o : Oper} {a : Act} {Q : Exit → Act → World → Prop} (hgd : o.guard = none) (s x : Operand)
    (ho : o.op = .call { callee := .builtin .append, args := #[s, x], argTypes := #[22, 9] })
    (base : Nat) (v : Value) (l1 : List UInt8) (hs : a.eval s = v) (hown : Own2 base w v l1) (t : ByteArray) (hx : a.eval x = .string t) (ht0 : 0 < t.size)
    (hlen : l1.length + t.size ≤ 1000000) (hbase : base ≤ w.heap.size)
    (h : ∀ v' w', Owned base w' v' (l1 ++ t.data.toList) → Below base w w' → wpList Tryd.prog ops Q rest (a.put o.dst v') w') : wpList Tryd.prog ops Q (o :: rest) a w := by
  rcases hown with hown | ⟨g, rfl, hcell⟩
  · exact wpList_append_text hgd s x ho base v l1 hs hown t hx hlen hbase h
  · obtain ⟨i0, hi, hz0, hz1, hz2⟩ := info_parts Tryd.infoU8
    have h63 : l1.length + t.size ≤ maxLen := by unfold maxLen; omega
    have hr := run_append_grow_string (P := Tryd.prog) w 22 9 o.type 5 i0 (.int .u8 0) Tryd.underlying22 Tryd.underlying9 hi hz0 ⟨g, 0, none⟩ l1.length l1.length (l1.map bcell) (by rw [hz1]; simp)
      (fun j u hu => by
        rw [List.getElem?_map] at hu
        obtain ⟨c, hc, rfl⟩ := Option.map_eq_some_iff.1 hu
        rw [add_plain', Nat.zero_add]
        exact hcell j c hc) t (by omega) (by omega) (by rw [hz2]; exact growslice_fits (by omega) (by omega))
    have hge := grownCap_ge w (l1.length + t.size) l1.length 5
    have hcm := grownCap_le_maxLen w (l1.length + t.size) l1.length 5 h63
    have e : t.data.toList.length = t.size := by rw [Array.length_toList]; rfl
    have e2 : (l1 ++ t.data.toList).map bcell = l1.map bcell ++ strCells t := by
      rw [List.map_append]
      rfl
    refine wpList_plain hgd fun K hK => ?_
    unfold Oper.wp execOp
    simp only [ho, resolve, invoke, builtin, Sem.run_bind, Sem.run_pure, Result.andThen_ok, List.map_toArray, List.map_cons, List.map_nil, hs, hx, hr]
    refine hK _ _ (h _ _ ?_ ⟨rfl, rfl, rfl, by simp, fun k hk => heap_alloc_old w.drew _ (show k < w.drew.heap.size by show k < w.heap.size; omega)⟩)
    unfold Owned
    rw [map_append_len, e, e2]
    have hlen2 : (l1.map bcell ++ strCells t).length = (l1.length + t.size) * 1 := by rw [List.length_append, strCells_length]; simp
    refine ⟨hlen2, .inr ⟨w.heap.size, _, _, rfl, hbase, heap_alloc_new w.drew _, hge, hcm, ?_, ?_⟩⟩
    · have hz1' : (Value.int IntKind.u8 0).cells.size = 1 := rfl
      simp only [Array.size_append, List.size_toArray, size_zeroCells, hz1', List.length_map, strCells_length]
      omega
    · simp only [Array.toList_append, List.append_assoc]
      rw [← List.append_assoc, ← hlen2]
      exact List.take_left
end Go.Proofs.YtnkpdnbnheffeaaDoor
