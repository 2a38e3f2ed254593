/- append of what is read, none too, for any kind of element. -/
import Derived.Test.YtjkkpdflijjllaaTurns
import Derived.Deep.AppendLies
namespace Go.Proofs.Ytjkkpdflijjllaa
open Go.RowKit

structure EK (α : Type) where
  ts : TypeId
  te : TypeId
  sz : Nat
  bytes : Nat
  z : Value
  enc : α → List Value
structure EK.Ok {α : Type} (K : EK α) (P : Program) : Prop where
  und : P.underlying K.ts = some (.slice K.te)
  inf : (P.info? K.te).map (fun i => (i.zero, i.size, i.bytes)) = some (some K.z, K.sz, K.bytes)
  zs : K.z.cells.size = K.sz
  pos : 0 < K.sz
  byl : K.bytes ≤ 256
  len : ∀ x, (K.enc x).length = K.sz
  one : ∀ x, ∀ u ∈ K.enc x, u.oneCell' = true
namespace EK
variable {α : Type} {K : EK α}
def flat (K : EK α) (l : List α) : List Value := l.flatMap K.enc
theorem flat_nil : K.flat [] = [] := rfl
theorem flat_cons (x : α) (l : List α) : K.flat (x :: l) = K.enc x ++ K.flat l := rfl
theorem flat_append (l m : List α) : K.flat (l ++ m) = K.flat l ++ K.flat m := List.flatMap_append
theorem flat_len {P : Program} (ok : K.Ok P) (l : List α) : (K.flat l).length = l.length * K.sz := by
  induction l with
  | nil => simp [flat]
  | cons x l ih => rw [flat_cons, List.length_append, ok.len, ih, List.length_cons, Nat.succ_mul, Nat.add_comm]
theorem flat_at {P : Program} (ok : K.Ok P) : ∀ {l : List α} {j : Nat} {x : α}, l[j]? = some x → ∀ i u, (K.enc x)[i]? = some u → (K.flat l)[j * K.sz + i]? = some u
  | [], _, _, h => by simp at h
  | y :: l, 0, x, h => by
    simp at h
    subst h
    intro i u hu
    rw [flat_cons, Nat.zero_mul, Nat.zero_add, List.getElem?_append_left (List.getElem?_eq_some_iff.1 hu).1]
    exact hu
  | y :: l, j + 1, x, h => by
    rw [List.getElem?_cons_succ] at h
    intro i u hu
    have := flat_at ok h i u hu
    rw [flat_cons, List.getElem?_append_right (by rw [ok.len, Nat.succ_mul]; omega), ok.len, show (j + 1) * K.sz + i - K.sz = j * K.sz + i by rw [Nat.succ_mul]; omega]
    exact this
theorem flat_one {P : Program} (ok : K.Ok P) (l : List α) : ∀ u ∈ K.flat l, u.oneCell' = true := by
  intro u hu
  obtain ⟨x, _, hx⟩ := List.mem_flatMap.1 hu
  exact ok.one x u hx
/-- The slice at A, of l's length, reads as l, and lies below block B. -/
def Reads (K : EK α) (w : World) (B : Nat) (A : Option Addr) (l : List α) : Prop :=
  l = [] ∨ ∃ b off, A = some ⟨b, off, none⟩ ∧ b < B ∧ ∀ j u, (K.flat l)[j]? = some u → w.cell? ⟨b, off + j, none⟩ = some u
theorem Reads.keep {w w' : World} {B : Nat} {A : Option Addr} {l : List α} (h : K.Reads w B A l) (hk : ∀ p : Addr, p.block < B → w'.cell? p = w.cell? p) : K.Reads w' B A l := by
  rcases h with h | ⟨b, off, rfl, hb, hc⟩
  · exact .inl h
  · exact .inr ⟨b, off, rfl, hb, fun j c hj => (hk ⟨b, off + j, none⟩ hb).trans (hc j c hj)⟩
theorem Reads.below {w w' : World} {B : Nat} {A : Option Addr} {l : List α} (h : K.Reads w B A l) (hb : Below B w w') : K.Reads w' B A l := h.keep fun _ hp => hb.cell hp
theorem Reads.more {w : World} {B B' : Nat} {A : Option Addr} {l : List α} (h : K.Reads w B A l) (hB : B ≤ B') : K.Reads w B' A l := by
  rcases h with h | ⟨b, off, rfl, hb, hc⟩
  · exact .inl h
  · exact .inr ⟨b, off, rfl, Nat.lt_of_lt_of_le hb hB, hc⟩
theorem Reads.at {P : Program} (ok : K.Ok P) {w : World} {B : Nat} {A : Option Addr} {l : List α} (h : K.Reads w B A l) (hl : 0 < l.length) : ∃ b off, A = some ⟨b, off, none⟩ ∧ b < B ∧
    ∀ j x, l[j]? = some x → ∀ i u, (K.enc x)[i]? = some u → w.cell? ⟨b, off + (j * K.sz + i), none⟩ = some u := by
  rcases h with rfl | ⟨b, off, rfl, hb, hc⟩
  · simp at hl
  · exact ⟨b, off, rfl, hb, fun j x hj i u hu => hc _ _ (flat_at ok hj i u hu)⟩
/-- v is a slice of the call's own that holds l. -/
def Own (K : EK α) (B : Nat) (w : World) (v : Value) (l : List α) : Prop := w.ownsRow B K.te K.sz v l.length (K.flat l)
theorem Own.form {B : Nat} {w : World} {v : Value} {l : List α} (h : K.Own B w v l) : (v = .slice none 0 0 ∧ l = []) ∨ ∃ g cap, v = .slice (some ⟨g, 0, none⟩) l.length cap ∧ B ≤ g ∧ g < w.heap.size ∧ l.length ≤ cap ∧ cap ≤ maxLen := by
  rcases h.2 with ⟨rfl, h0⟩ | ⟨g, cap, cur, rfl, hb, hg, hn, hm, _⟩
  · exact .inl ⟨rfl, List.eq_nil_of_length_eq_zero h0⟩
  · refine .inr ⟨g, cap, rfl, hb, ?_, hn, hm⟩
    rcases Nat.lt_or_ge g w.heap.size with h1 | h1
    · exact h1
    · rw [Array.getElem?_eq_none h1] at hg; cases hg
theorem Own.reads {B : Nat} {w : World} {v : Value} {l : List α} (h : K.Own B w v l) : ∃ A cap, v = .slice A l.length cap ∧ K.Reads w w.heap.size A l ∧ l.length ≤ cap ∧ cap ≤ maxLen := by
  rcases h.form with ⟨rfl, rfl⟩ | ⟨g, cap, rfl, _, hg, hn, hm⟩
  · exact ⟨none, 0, rfl, .inl rfl, Nat.le_refl _, by unfold maxLen; omega⟩
  · refine ⟨_, cap, rfl, .inr ⟨g, 0, rfl, hg, fun j c hj => ?_⟩, hn, hm⟩
    have := World.ownsRow.cells h (g := g) rfl j c hj
    rwa [add_plain'] at this
theorem Own.turns {B : Nat} {w w' : World} {v : Value} {l : List α} {F : List Nat} (h : K.Own B w v l) (ht : Turns F w w') (hF : ∀ g, v.ownBlock = some g → g ∉ F) : K.Own B w' v l := by
  refine ⟨h.1, ?_⟩
  rcases h.2 with hn | ⟨g, cap, cur, rfl, hB, hg, rest⟩
  · exact .inl hn
  · exact .inr ⟨g, cap, cur, rfl, hB, (ht.block g (lt_of_block hg) (hF g rfl)).trans hg, rest⟩
theorem Own.below {B : Nat} {w w' : World} {v : Value} {l : List α} (h : K.Own B w v l) (hb : Below w.heap.size w w') : K.Own B w' v l := h.turns (F := []) (Turns.of_below hb (Nat.le_refl _)) (by simp)
theorem Own.low {B B' : Nat} {w : World} {v : Value} {l : List α} (h : K.Own B w v l) (hB : B' ≤ B) : K.Own B' w v l := by
  refine ⟨h.1, ?_⟩
  rcases h.2 with hn | ⟨g, cap, cur, rfl, h1, rest⟩
  · exact .inl hn
  · exact .inr ⟨g, cap, cur, rfl, Nat.le_trans hB h1, rest⟩
theorem Own.alloc {B : Nat} {w : World} {v : Value} {l : List α} (h : K.Own B w v l) (o : Obj) : K.Own B (w.alloc o) v l := World.ownsRow.alloc h o
theorem Own.drew {B : Nat} {w : World} {v : Value} {l : List α} (h : K.Own B w v l) : K.Own B w.drew v l := h
theorem Own.foot {B : Nat} {w : World} {v : Value} {l : List α} (h : K.Own B w v l) : ∀ i ∈ ownB v, B ≤ i ∧ i < w.heap.size := by
  intro i hi
  unfold ownB at hi
  rw [Option.mem_toList] at hi
  exact World.ownsRow.lt h i hi
theorem Own.nil (B : Nat) (w : World) (hB : 0 ≤ B) : K.Own B w (.slice none 0 0) [] := ⟨by simp [flat], .inl ⟨rfl, rfl⟩⟩
/-- append of what is read, at least one. -/
theorem wp_append {P : Program} (ok : K.Ok P) {w : World} {o : Oper} {a : Act} {Kk : Act → World → Prop} {Q : Exit → Act → World → Prop} (s x : Operand)
    (ho : o.op = .call { callee := .builtin .append, args := #[s, x], argTypes := #[K.ts, K.ts] })
    (base : Nat) (v : Value) (l1 : List α) (hs : a.eval s = v) (hown : K.Own base w v l1)
    (B : Nat) (A : Option Addr) (l2 : List α) (n c : Nat) (hn : l2.length = n) (hx : a.eval x = .slice A n c) (hr : K.Reads w B A l2) (h0 : l2 ≠ [])
    (hlen : l1.length + l2.length ≤ 100000) (hbase : base ≤ w.heap.size)
    (h : ∀ v' w', K.Own base w' v' (l1 ++ l2) → Turns (ownB v) w w' → (∀ i ∈ ownB v', i ∈ ownB v ∨ i = w.heap.size) → Kk (a.put o.dst v') w') : o.wp P a w Kk Q := by
  subst hn
  rcases hr with rfl | ⟨b, off, rfl, hb, hc⟩
  · exact absurd rfl h0
  · obtain ⟨i0, hi, hz0, hz1, hz2⟩ := info_parts ok.inf
    have hby : (l1.length + l2.length) * K.bytes ≤ 140737488355328 := Nat.le_trans (Nat.mul_le_mul hlen ok.byl) (by omega)
    refine wp_append_lies w s x K.ts ho base K.te i0 K.z K.sz K.bytes ok.und hi hz0 hz1 hz2 ok.zs ok.pos v l1.length (K.flat l1) hs hown ⟨b, off, none⟩ l2.length c (K.flat l2) hx (flat_len ok l2)
      (fun j u hj => by rw [add_plain']; exact hc j u hj) (flat_one ok l2) (List.length_pos_iff.2 h0) (by unfold maxLen; omega) hby hbase w.heap.size rfl ?_
    intro g cap w' h1 h2 h3 _
    refine h _ w' ?_ (Turns.of_grown h2) fun i hi => ?_
    · unfold Own
      rw [List.length_append, flat_append]
      exact h1
    · simp [ownB, Value.ownBlock] at hi
      subst hi
      rcases h3 with h3 | h3
      · exact .inl (by simp [ownB, h3])
      · exact .inr h3
theorem wpList_append {P : Program} (ok : K.Ok P) {w : World} {ops : Array Oper} {rest : List Oper} {o : Oper} {a : Act} {Q : Exit → Act → World → Prop} (hgd : o.guard = none) (s x : Operand)
    (ho : o.op = .call { callee := .builtin .append, args := #[s, x], argTypes := #[K.ts, K.ts] })
    (base : Nat) (v : Value) (l1 : List α) (hs : a.eval s = v) (hown : K.Own base w v l1)
    (B : Nat) (A : Option Addr) (l2 : List α) (n c : Nat) (hn : l2.length = n) (hx : a.eval x = .slice A n c) (hr : K.Reads w B A l2) (h0 : l2 ≠ [])
    (hlen : l1.length + l2.length ≤ 100000) (hbase : base ≤ w.heap.size)
    (h : ∀ v' w', K.Own base w' v' (l1 ++ l2) → Turns (ownB v) w w' → (∀ i ∈ ownB v', i ∈ ownB v ∨ i = w.heap.size) → wpList P ops Q rest (a.put o.dst v') w') : wpList P ops Q (o :: rest) a w :=
  wpList_plain hgd fun _ hK => wp_append ok s x ho base v l1 hs hown B A l2 n c hn hx hr h0 hlen hbase fun v' w' h1 h2 h3 => hK _ _ (h v' w' h1 h2 h3)
theorem step_append {P : Program} (ok : K.Ok P) {w : World} {ops : Array Oper} {o : Oper} {a : Act} {Kk : Act → World → Prop} {Q : Exit → Act → World → Prop} {E : Prop} (hgd : o.guard = none) (s x : Operand)
    (ho : o.op = .call { callee := .builtin .append, args := #[s, x], argTypes := #[K.ts, K.ts] })
    (base : Nat) (v : Value) (l1 : List α) (hs : a.eval s = v) (hown : K.Own base w v l1)
    (B : Nat) (A : Option Addr) (l2 : List α) (n c : Nat) (hn : l2.length = n) (hx : a.eval x = .slice A n c) (hr : K.Reads w B A l2) (h0 : l2 ≠ [])
    (hlen : l1.length + l2.length ≤ 100000) (hbase : base ≤ w.heap.size)
    (h : ∀ v' w', K.Own base w' v' (l1 ++ l2) → Turns (ownB v) w w' → (∀ i ∈ ownB v', i ∈ ownB v ∨ i = w.heap.size) → Kk (a.put o.dst v') w') : if Region.wanted o (yielded ops a.tmps) = true then Oper.wp P o a w Kk Q else E := by
  have hw : Region.wanted o (yielded ops a.tmps) = true := by simp [Region.wanted, hgd]
  rw [if_pos hw]
  exact wp_append ok s x ho base v l1 hs hown B A l2 n c hn hx hr h0 hlen hbase h
/-- One that was just laid. -/
theorem Reads.lone {P : Program} (ok : K.Ok P) {W : World} {p : Nat} (x : α) (C : Array Value) (t : TypeId) (hC : C = (K.enc x).toArray) (hp : p = W.heap.size) : K.Reads (W.alloc (.cells C t)) (p + 1) (some ⟨p, 0, none⟩) [x] := by
  subst hC hp
  refine .inr ⟨W.heap.size, 0, rfl, Nat.lt_succ_self _, fun j u hj => ?_⟩
  have e : K.flat [x] = K.enc x := by simp [flat]
  rw [e] at hj
  have hb := heap_alloc_new W (.cells (K.enc x).toArray t)
  have e2 : (⟨W.heap.size, 0 + j, none⟩ : Addr) = ⟨W.heap.size, j, none⟩ := by simp
  rw [e2]
  unfold World.cell?
  simp only [hb]
  simpa using hj
end EK
end Go.Proofs.Ytjkkpdflijjllaa

namespace Go.Proofs.Ytjkkpdflijjllaa
open Go.RowKit
namespace EK
variable {α : Type} {K : EK α}
theorem wp_append_nothing {P : Program} (ok : K.Ok P) {w : World} {o : Oper} {a : Act} {Kk : Act → World → Prop} {Q : Exit → Act → World → Prop} (s x : Operand)
    (ho : o.op = .call { callee := .builtin .append, args := #[s, x], argTypes := #[K.ts, K.ts] })
    (base : Nat) (v : Value) (l1 : List α) (hs : a.eval s = v) (hown : K.Own base w v l1) (A : Option Addr) (c : Nat) (hx : a.eval x = .slice A 0 c)
    (h : Kk (a.put o.dst v) w) : o.wp P a w Kk Q := by
  obtain ⟨i0, hi, hz0, hz1, hz2⟩ := info_parts ok.inf
  rcases hown.form with ⟨rfl, rfl⟩ | ⟨g, cap, rfl, hb, hg, hn, hm⟩
  · unfold Oper.wp execOp
    simp only [ho, resolve, invoke, builtin, Sem.run_bind, Sem.run_pure, Result.andThen_ok, List.map_toArray, List.map_cons, List.map_nil, hs, hx]
    cases A <;> simp [Builtin.append_, run_underlying ok.und, sizeOf, typeInfo, hi, Builtin.lenOf, Builtin.firstCells, loadCells, loadCellsFrom]
    all_goals exact h
  · unfold Oper.wp execOp
    simp only [ho, resolve, invoke, builtin, Sem.run_bind, Sem.run_pure, Result.andThen_ok, List.map_toArray, List.map_cons, List.map_nil, hs, hx]
    cases A <;> simp [Builtin.append_, run_underlying ok.und, sizeOf, typeInfo, hi, Builtin.lenOf, Builtin.firstCells, loadCells, loadCellsFrom, hn, storeCells]
    all_goals exact h
theorem wp_append_all {P : Program} (ok : K.Ok P) {w : World} {o : Oper} {a : Act} {Kk : Act → World → Prop} {Q : Exit → Act → World → Prop} (s x : Operand)
    (ho : o.op = .call { callee := .builtin .append, args := #[s, x], argTypes := #[K.ts, K.ts] })
    (base : Nat) (v : Value) (l1 : List α) (hs : a.eval s = v) (hown : K.Own base w v l1)
    (B : Nat) (A : Option Addr) (l2 : List α) (n c : Nat) (hn : l2.length = n) (hx : a.eval x = .slice A n c) (hr : K.Reads w B A l2)
    (hlen : l1.length + l2.length ≤ 100000) (hbase : base ≤ w.heap.size)
    (h : ∀ v' w', K.Own base w' v' (l1 ++ l2) → Turns (ownB v) w w' → (∀ i ∈ ownB v', i ∈ ownB v ∨ i = w.heap.size) → Kk (a.put o.dst v') w') : o.wp P a w Kk Q := by
  by_cases h0 : l2 = []
  · subst h0
    subst hn
    exact wp_append_nothing ok s x ho base v l1 hs hown A c hx (h v w (by rw [List.append_nil]; exact hown) (Turns.refl _ _) (fun i hi => .inl hi))
  · exact wp_append ok s x ho base v l1 hs hown B A l2 n c hn hx hr h0 hlen hbase h
theorem step_append_all {P : Program} (ok : K.Ok P) {w : World} {ops : Array Oper} {o : Oper} {a : Act} {Kk : Act → World → Prop} {Q : Exit → Act → World → Prop} {E : Prop} (hgd : o.guard = none) (s x : Operand)
    (ho : o.op = .call { callee := .builtin .append, args := #[s, x], argTypes := #[K.ts, K.ts] })
    (base : Nat) (v : Value) (l1 : List α) (hs : a.eval s = v) (hown : K.Own base w v l1)
    (B : Nat) (A : Option Addr) (l2 : List α) (n c : Nat) (hn : l2.length = n) (hx : a.eval x = .slice A n c) (hr : K.Reads w B A l2)
    (hlen : l1.length + l2.length ≤ 100000) (hbase : base ≤ w.heap.size)
    (h : ∀ v' w', K.Own base w' v' (l1 ++ l2) → Turns (ownB v) w w' → (∀ i ∈ ownB v', i ∈ ownB v ∨ i = w.heap.size) → Kk (a.put o.dst v') w') : if Region.wanted o (yielded ops a.tmps) = true then Oper.wp P o a w Kk Q else E := by
  have hw : Region.wanted o (yielded ops a.tmps) = true := by simp [Region.wanted, hgd]
  rw [if_pos hw]
  exact wp_append_all ok s x ho base v l1 hs hown B A l2 n c hn hx hr hlen hbase h
/-- A part of what is read. -/
theorem Reads.part {P : Program} (ok : K.Ok P) {w : World} {B b off : Nat} {l1 l2 l3 : List α} (h : K.Reads w B (some ⟨b, off, none⟩) (l1 ++ l2 ++ l3)) : K.Reads w B (some ⟨b, off + l1.length * K.sz, none⟩) l2 := by
  rcases h with h0 | ⟨b', o', e, hb, hc⟩
  · simp at h0
    exact .inl h0.2.1
  · cases e
    refine .inr ⟨b, off + l1.length * K.sz, rfl, hb, fun j u hj => ?_⟩
    have h1 := hc (l1.length * K.sz + j) u (by
      rw [flat_append, flat_append, List.append_assoc, List.getElem?_append_right (by rw [flat_len ok]; omega), flat_len ok, show l1.length * K.sz + j - l1.length * K.sz = j by omega, List.getElem?_append_left (List.getElem?_eq_some_iff.1 hj).1]
      exact hj)
    rwa [← Nat.add_assoc] at h1
theorem Reads.turns {w w' : World} {B : Nat} {A : Option Addr} {l : List α} {F : List Nat} (h : K.Reads w B A l) (hB : B ≤ w.heap.size) (ht : Turns F w w') (hF : ∀ a, A = some a → a.block ∉ F) : K.Reads w' B A l := by
  rcases h with h | ⟨b, off, rfl, hb, hc⟩
  · exact .inl h
  · exact .inr ⟨b, off, rfl, hb, fun j c hj => (World.cell?_of_block (a := ⟨b, off + j, none⟩) (ht.block b (Nat.lt_of_lt_of_le hb hB) (hF _ rfl))).trans (hc j c hj)⟩
end EK
end Go.Proofs.Ytjkkpdflijjllaa
