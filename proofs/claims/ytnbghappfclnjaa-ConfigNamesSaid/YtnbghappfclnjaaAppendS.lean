/- append of labels as one operation, also in a region that draws its order. -/
import Derived.Test.YtnbghappfclnjaaAppendLbl
import Derived.Deep.AppendLies
namespace Go.Proofs.Ytnbghappfclnjaa
open Go.RowKit

theorem wp_append_nothing {w : World} {o : Oper} {a : Act} {K : Act → World → Prop} {Q : Exit → Act → World → Prop} (s x : Operand)
    (ho : o.op = .call { callee := .builtin .append, args := #[s, x], argTypes := #[29, 29] })
    (base : Nat) (v : Value) (l1 : List Lbl) (hs : a.eval s = v) (hown : OwnedL base w v l1) (A : Option Addr) (c : Nat) (hx : a.eval x = .slice A 0 c)
    (h : K (a.put o.dst v) w) : o.wp Try.prog a w K Q := by
  obtain ⟨i0, hi, hz0, hz1, hz2⟩ := info_parts Try.infoLbl
  rcases hown.form with ⟨rfl, rfl⟩ | ⟨g, cap, rfl, hb, hg, hn, hm⟩
  · unfold Oper.wp execOp
    simp only [ho, resolve, invoke, builtin, Sem.run_bind, Sem.run_pure, Result.andThen_ok, List.map_toArray, List.map_cons, List.map_nil, hs, hx]
    cases A <;> simp [Builtin.append_, run_underlying Try.underlying29, sizeOf, typeInfo, hi, Builtin.lenOf, Builtin.firstCells, loadCells, loadCellsFrom]
    all_goals exact h
  · unfold Oper.wp execOp
    simp only [ho, resolve, invoke, builtin, Sem.run_bind, Sem.run_pure, Result.andThen_ok, List.map_toArray, List.map_cons, List.map_nil, hs, hx]
    cases A <;> simp [Builtin.append_, run_underlying Try.underlying29, sizeOf, typeInfo, hi, Builtin.lenOf, Builtin.firstCells, loadCells, loadCellsFrom, hn, storeCells]
    all_goals exact h
theorem Safe.refl (w : World) (v : Value) : Safe w v w v := fun _ _ h => ⟨h, rfl⟩
theorem wp_append_lblsA {w : World} {o : Oper} {a : Act} {K : Act → World → Prop} {Q : Exit → Act → World → Prop} (s x : Operand)
    (ho : o.op = .call { callee := .builtin .append, args := #[s, x], argTypes := #[29, 29] })
    (base : Nat) (v : Value) (l1 : List Lbl) (hs : a.eval s = v) (hown : OwnedL base w v l1)
    (B : Nat) (A : Option Addr) (l2 : List Lbl) (c : Nat) (hx : a.eval x = .slice A l2.length c) (hr : LReads w B A l2)
    (hlen : l1.length + l2.length ≤ 100000) (hbase : base ≤ w.heap.size)
    (h : ∀ v' w', OwnedL base w' v' (l1 ++ l2) → Below base w w' → Safe w v w' v' → K (a.put o.dst v') w') : o.wp Try.prog a w K Q := by
  rcases hr with rfl | ⟨b, off, rfl, hb, hc⟩
  · exact wp_append_nothing s x ho base v l1 hs hown A c hx (h v w (by rw [List.append_nil]; exact hown) (Below.refl _ _) (Safe.refl _ _))
  · by_cases h0 : l2 = []
    · subst h0
      exact wp_append_nothing s x ho base v l1 hs hown _ c hx (h v w (by rw [List.append_nil]; exact hown) (Below.refl _ _) (Safe.refl _ _))
    · obtain ⟨i0, hi, hz0, hz1, hz2⟩ := info_parts Try.infoLbl
      refine wp_append_lies w s x 29 ho base 33 i0 (.agg #[.string ⟨#[]⟩, .string ⟨#[]⟩]) 2 32 Try.underlying29 hi hz0 hz1 hz2 rfl (by decide) v l1.length (flatL l1) hs hown ⟨b, off, none⟩ l2.length c (flatL l2) hx (flatL_len l2)
        (fun j u hj => by rw [add_plain']; exact hc j u hj) (flatL_one l2) (List.length_pos_iff.2 h0) (by unfold maxLen; omega) (by omega) hbase w.heap.size rfl ?_
      intro g cap w' h1 h2 h3 _
      refine h _ w' ?_ ((Below.refl _ _).grown h2 hbase (fun k hk => hown.grows k hk)) fun X hX hne => ⟨?_, h2.block X hX (Ne.symm hne)⟩
      · unfold OwnedL
        rw [List.length_append, flatL_append]
        exact h1
      · intro e
        simp [Value.ownBlock] at e
        subst e
        rcases h3 with h3 | h3
        · exact hne h3
        · omega
theorem step_append_lblsA {w : World} {ops : Array Oper} {o : Oper} {a : Act} {K : Act → World → Prop} {Q : Exit → Act → World → Prop} {E : Prop} (hgd : o.guard = none) (s x : Operand)
    (ho : o.op = .call { callee := .builtin .append, args := #[s, x], argTypes := #[29, 29] })
    (base : Nat) (v : Value) (l1 : List Lbl) (hs : a.eval s = v) (hown : OwnedL base w v l1)
    (B : Nat) (A : Option Addr) (l2 : List Lbl) (c : Nat) (hx : a.eval x = .slice A l2.length c) (hr : LReads w B A l2)
    (hlen : l1.length + l2.length ≤ 100000) (hbase : base ≤ w.heap.size)
    (h : ∀ v' w', OwnedL base w' v' (l1 ++ l2) → Below base w w' → Safe w v w' v' → K (a.put o.dst v') w') : if Region.wanted o (yielded ops a.tmps) = true then Oper.wp Try.prog o a w K Q else E := by
  have hw : Region.wanted o (yielded ops a.tmps) = true := by simp [Region.wanted, hgd]
  rw [if_pos hw]
  exact wp_append_lblsA s x ho base v l1 hs hown B A l2 c hx hr hlen hbase h
theorem LReads.lone {W : World} {p : Nat} (x : Lbl) (t : TypeId) (hp : p = W.heap.size) : LReads (W.alloc (.cells #[.string ⟨x.1.toArray⟩, .string ⟨x.2.toArray⟩] t)) (p + 1) (some ⟨p, 0, none⟩) [x] := by
  refine .inr ⟨p, 0, rfl, Nat.lt_succ_self _, fun j u hj => ?_⟩
  have := lone_cells x t hp j u hj
  rwa [add_plain'] at this
theorem LReads.lone' {W : World} {p : Nat} {X Y : ByteArray} (x : Lbl) (t : TypeId) (hX : X = ⟨x.1.toArray⟩) (hY : Y = ⟨x.2.toArray⟩) (hp : p = W.heap.size) : LReads (W.alloc (.cells #[.string X, .string Y] t)) (p + 1) (some ⟨p, 0, none⟩) [x] := by
  subst hX hY
  exact LReads.lone x t hp
theorem step_append_lblsN {w : World} {ops : Array Oper} {o : Oper} {a : Act} {K : Act → World → Prop} {Q : Exit → Act → World → Prop} {E : Prop} (hgd : o.guard = none) (s x : Operand)
    (ho : o.op = .call { callee := .builtin .append, args := #[s, x], argTypes := #[29, 29] })
    (base : Nat) (v : Value) (l1 : List Lbl) (hs : a.eval s = v) (hown : OwnedL base w v l1)
    (B : Nat) (A : Option Addr) (l2 : List Lbl) (n c : Nat) (hn : l2.length = n) (hx : a.eval x = .slice A n c) (hr : LReads w B A l2)
    (hlen : l1.length + l2.length ≤ 100000) (hbase : base ≤ w.heap.size)
    (h : ∀ v' w', OwnedL base w' v' (l1 ++ l2) → Below base w w' → Safe w v w' v' → K (a.put o.dst v') w') : if Region.wanted o (yielded ops a.tmps) = true then Oper.wp Try.prog o a w K Q else E := by
  subst hn
  exact step_append_lblsA hgd s x ho base v l1 hs hown B A l2 c hx hr hlen hbase h
theorem LReads.safe {W w2 : World} {B p off : Nat} {l : List Lbl} {v v2 : Value} (h : LReads W B (some ⟨p, off, none⟩) l) (hp : p < W.heap.size) (hs : Safe W v w2 v2) (hv : v.ownBlock ≠ some p) : LReads w2 B (some ⟨p, off, none⟩) l := by
  rcases h with h | ⟨b, o, e, hb, hc⟩
  · exact .inl h
  · cases e
    exact .inr ⟨p, off, rfl, hb, fun j u hj => (hs.cell hv (hc j u hj)).2⟩
theorem LReads.aheadA {w : World} {B : Nat} {A : Option Addr} {l : List Lbl} (h : LReads w B A l) (hB : B ≤ w.heap.size) (o : Obj) : LReads (w.alloc o) B A l := h.keep fun p hp => World.cell?_alloc_lt _ _ p (Nat.lt_of_lt_of_le hp hB)
theorem OwnedL.drew {B : Nat} {w : World} {v : Value} {l : List Lbl} (h : OwnedL B w v l) : OwnedL B w.drew v l := h
theorem LReads.drew {w : World} {B : Nat} {A : Option Addr} {l : List Lbl} (h : LReads w B A l) : LReads w.drew B A l := h
theorem OwnedL.safe {B : Nat} {w : World} {v : Value} {l : List Lbl} (h : OwnedL B w v l) : ∀ k, v.ownBlock = some k → k < w.heap.size := fun k hk => (World.ownsRow.lt h k hk).2
end Go.Proofs.Ytnbghappfclnjaa
