/- append of what is read, none too, for any kind of element. -/
import Derived.Test.YtnbghappfclnjaaRowK
namespace Go.Proofs.Ytnbghappfclnjaa
open Go.RowKit
namespace EK
variable {α : Type} {K : EK α}
theorem wp_append_nothing {P : Program} (ok : K.Ok P) {w : World} {o : Oper} {a : Act} {Kk : Act → World → Prop} {Q : Exit → Act → World → Prop} (s x : Operand)
    (ho : o.op = .call { callee := .builtin .append, args := #[s, x], argTypes := #[K.ts, K.ts] })
    (base : Nat) (v : Value) (l1 : List α) (hs : a.eval s = v) (hown : K.Own base w v l1) (A : Option Addr) (c : Nat) (hx : a.eval x = .slice A 0 c)
    (h : Kk (a.put o.dst v) w) : o.wp P a w Kk Q := by
  obtain ⟨i0, hi, hz0, hz1, hz2⟩ := info_parts ok.inf
  rcases hown.form with ⟨rfl, rfl⟩ | ⟨g, cap, rfl, hb, hg, hn, hm⟩
  · unfold Oper.wp execOp
    simp only [ho, resolve, invoke, builtin, Sem.run_bind, Sem.run_pure, Result.andThen_ok, List.map_toArray, List.map_cons, List.map_nil, hs, hx]
    cases A <;> simp [Builtin.append_, run_underlying ok.und, sizeOf, typeInfo, hi, Builtin.lenOf, Builtin.firstCells, loadCells, loadCellsFrom]
    all_goals exact h
  · unfold Oper.wp execOp
    simp only [ho, resolve, invoke, builtin, Sem.run_bind, Sem.run_pure, Result.andThen_ok, List.map_toArray, List.map_cons, List.map_nil, hs, hx]
    cases A <;> simp [Builtin.append_, run_underlying ok.und, sizeOf, typeInfo, hi, Builtin.lenOf, Builtin.firstCells, loadCells, loadCellsFrom, hn, storeCells]
    all_goals exact h
theorem wp_append_all {P : Program} (ok : K.Ok P) {w : World} {o : Oper} {a : Act} {Kk : Act → World → Prop} {Q : Exit → Act → World → Prop} (s x : Operand)
    (ho : o.op = .call { callee := .builtin .append, args := #[s, x], argTypes := #[K.ts, K.ts] })
    (base : Nat) (v : Value) (l1 : List α) (hs : a.eval s = v) (hown : K.Own base w v l1)
    (B : Nat) (A : Option Addr) (l2 : List α) (n c : Nat) (hn : l2.length = n) (hx : a.eval x = .slice A n c) (hr : K.Reads w B A l2)
    (hlen : l1.length + l2.length ≤ 100000) (hbase : base ≤ w.heap.size)
    (h : ∀ v' w', K.Own base w' v' (l1 ++ l2) → Turns (ownB v) w w' → (∀ i ∈ ownB v', i ∈ ownB v ∨ i = w.heap.size) → Kk (a.put o.dst v') w') : o.wp P a w Kk Q := by
  by_cases h0 : l2 = []
  · subst h0
    subst hn
    exact wp_append_nothing ok s x ho base v l1 hs hown A c hx (h v w (by rw [List.append_nil]; exact hown) (Turns.refl _ _) (fun i hi => .inl hi))
  · exact wp_append ok s x ho base v l1 hs hown B A l2 n c hn hx hr h0 hlen hbase h
theorem step_append_all {P : Program} (ok : K.Ok P) {w : World} {ops : Array Oper} {o : Oper} {a : Act} {Kk : Act → World → Prop} {Q : Exit → Act → World → Prop} {E : Prop} (hgd : o.guard = none) (s x : Operand)
    (ho : o.op = .call { callee := .builtin .append, args := #[s, x], argTypes := #[K.ts, K.ts] })
    (base : Nat) (v : Value) (l1 : List α) (hs : a.eval s = v) (hown : K.Own base w v l1)
    (B : Nat) (A : Option Addr) (l2 : List α) (n c : Nat) (hn : l2.length = n) (hx : a.eval x = .slice A n c) (hr : K.Reads w B A l2)
    (hlen : l1.length + l2.length ≤ 100000) (hbase : base ≤ w.heap.size)
    (h : ∀ v' w', K.Own base w' v' (l1 ++ l2) → Turns (ownB v) w w' → (∀ i ∈ ownB v', i ∈ ownB v ∨ i = w.heap.size) → Kk (a.put o.dst v') w') : if Region.wanted o (yielded ops a.tmps) = true then Oper.wp P o a w Kk Q else E := by
  have hw : Region.wanted o (yielded ops a.tmps) = true := by simp [Region.wanted, hgd]
  rw [if_pos hw]
  exact wp_append_all ok s x ho base v l1 hs hown B A l2 n c hn hx hr hlen hbase h
/-- A part of what is read. -/
theorem Reads.part {P : Program} (ok : K.Ok P) {w : World} {B b off : Nat} {l1 l2 l3 : List α} (h : K.Reads w B (some ⟨b, off, none⟩) (l1 ++ l2 ++ l3)) : K.Reads w B (some ⟨b, off + l1.length * K.sz, none⟩) l2 := by
  rcases h with h0 | ⟨b', o', e, hb, hc⟩
  · simp at h0
    exact .inl h0.2.1
  · cases e
    refine .inr ⟨b, off + l1.length * K.sz, rfl, hb, fun j u hj => ?_⟩
    have h1 := hc (l1.length * K.sz + j) u (by
      rw [flat_append, flat_append, List.append_assoc, List.getElem?_append_right (by rw [flat_len ok]; omega), flat_len ok, show l1.length * K.sz + j - l1.length * K.sz = j by omega, List.getElem?_append_left (List.getElem?_eq_some_iff.1 hj).1]
      exact hj)
    rwa [← Nat.add_assoc] at h1
theorem Reads.turns {w w' : World} {B : Nat} {A : Option Addr} {l : List α} {F : List Nat} (h : K.Reads w B A l) (hB : B ≤ w.heap.size) (ht : Turns F w w') (hF : ∀ a, A = some a → a.block ∉ F) : K.Reads w' B A l := by
  rcases h with h | ⟨b, off, rfl, hb, hc⟩
  · exact .inl h
  · exact .inr ⟨b, off, rfl, hb, fun j c hj => (World.cell?_of_block (a := ⟨b, off + j, none⟩) (ht.block b (Nat.lt_of_lt_of_le hb hB) (hF _ rfl))).trans (hc j c hj)⟩
end EK
end Go.Proofs.Ytnbghappfclnjaa
