/- The region of ConfigCopies' law that copies twice, whatever order is drawn. -/
import Derived.Test.YtnbghappfclnjaaInv
import Derived.Test.YtnbghappfclnjaaCfCopy13
namespace Go.Proofs.Ytnbghappfclnjaa
open Go.RowKit

/-- c has a's contents; its rows lie in the blocks from n on, ahead of m. -/
structure RowsQ (n m : Nat) (a c : Cf) (X : World) : Prop where
  same : SameC c a
  none_ : c.A = none → c.ts = []
  nil : c.B = none → c.by' = [] ∧ c.cb = 0
  tlen : c.ts.length ≤ c.cap ∧ c.cap ≤ 1000
  blen : c.by'.length ≤ c.cb ∧ c.cb ≤ 1000
  ts : ∀ ad, c.A = some ad → ∃ g, ad = ⟨g, 0, none⟩ ∧ n ≤ g ∧ g < m ∧ FlatAt tK X g c.ts
  by' : ∀ ad, c.B = some ad → ∃ g, ad = ⟨g, 0, none⟩ ∧ n ≤ g ∧ g < m ∧ FlatAt bK X g c.by'
theorem RowsQ.turns {n m : Nat} {a c : Cf} {X X' : World} {F : List Nat} (h : RowsQ n m a c X) (ht : Turns F X X') (hF : ∀ i ∈ F, i < n ∨ m ≤ i) : RowsQ n m a c X' :=
  ⟨h.same, h.none_, h.nil, h.tlen, h.blen, fun ad e => by
    obtain ⟨g, e1, h1, h2, h3⟩ := h.ts ad e
    exact ⟨g, e1, h1, h2, h3.turns ht (fun hm => by have := hF g hm; omega)⟩, fun ad e => by
    obtain ⟨g, e1, h1, h2, h3⟩ := h.by' ad e
    exact ⟨g, e1, h1, h2, h3.turns ht (fun hm => by have := hF g hm; omega)⟩⟩
theorem RowsQ.of {n : Nat} {a c : Cf} {X : World} (h : CopyR n X a c) : RowsQ n X.heap.size a c X :=
  ⟨h.same, fun e => (h.rt.none_ e).1, h.rb.none_, ⟨h.rt.le, h.rt.few⟩, ⟨h.rb.le, h.rb.few⟩, h.rt.row, h.rb.row⟩
theorem RowsQ.reads {n m : Nat} {a c : Cf} {X : World} (h : RowsQ n m a c X) (hm : m ≤ X.heap.size) : c.Reads X X.heap.size := by
  refine ⟨?_, ?_, h.nil, ⟨h.tlen.1, by have := h.tlen.2; omega⟩, ⟨h.blen.1, by have := h.blen.2; omega⟩⟩
  · cases e : c.A with
    | none => rw [h.none_ e]; exact .inl rfl
    | some ad =>
      obtain ⟨g, rfl, h1, h2, h3⟩ := h.ts ad e
      exact h3.reads (by omega)
  · cases e : c.B with
    | none => rw [(h.nil e).1]; exact .inl rfl
    | some ad =>
      obtain ⟨g, rfl, h1, h2, h3⟩ := h.by' ad e
      exact h3.reads (by omega)
theorem put_turns (W : World) (b : Nat) (c : Cf) : Turns [b] W (putBox W b c) :=
  ⟨(put_below W b 0 c (Nat.zero_le _)).os, (put_below W b 0 c (Nat.zero_le _)).tape, (put_below W b 0 c (Nat.zero_le _)).output, by rw [put_size]; exact Nat.le_refl _, fun i _ hn => put_other W b c i (fun e => hn (by simp [e]))⟩
theorem FullBox.turns {W W' : World} {b : Nat} {c : Cf} {F : List Nat} (h : FullBox W b c) (ht : Turns F W W') (hb : b ∉ F) : FullBox W' b c := (ht.block b (lt_of_block h) hb).trans h
theorem IsBox.turns {W W' : World} {b : Nat} {F : List Nat} (h : IsBox W b) (ht : Turns F W W') (hb : b ∉ F) : IsBox W' b := (ht.block b h.lt hb).trans h
/-- One of the two new boxes: made, perhaps filled with c; apart from both copies' rows. -/
structure BoxQ (w : World) (b : Nat) (c : Cf) (n1 m1 n2 m2 : Nat) (l1 l3 lf : Bool) (W : World) : Prop where
  low : w.heap.size + 2 ≤ b
  lt : b < W.heap.size
  out1 : l1 = true → b < n1 ∨ m1 ≤ b
  out2 : l3 = true → b < n2 ∨ m2 ≤ b
  is_ : lf = false → IsBox W b
  full : lf = true → FullBox W b c
theorem BoxQ.turns {w : World} {b : Nat} {c : Cf} {n1 m1 n2 m2 : Nat} {l1 l3 lf : Bool} {W W' : World} {F : List Nat} (h : BoxQ w b c n1 m1 n2 m2 l1 l3 lf W) (ht : Turns F W W') (hb : b ∉ F) : BoxQ w b c n1 m1 n2 m2 l1 l3 lf W' :=
  ⟨h.low, Nat.lt_of_lt_of_le h.lt ht.size, h.out1, h.out2, fun e => (h.is_ e).turns ht hb, fun e => (h.full e).turns ht hb⟩
/-- What holds, by what has come up. -/
structure R5 (w : World) (a b : Cf) (l0 l1 l2 l3 l4 l5 l6 l7 : Bool) (x5 x6 x32 x33 x34 x35 : Value) (c d : Cf) (n1 m1 n2 m2 b5 b6 : Nat) (W : World) : Prop where
  s32 : l0 = true → x32 = a.val
  s34 : l2 = true → x34 = a.val
  s33 : l1 = true → x33 = c.val
  s35 : l3 = true → x35 = d.val
  s5 : l4 = true → x5 = .pointer (some ⟨b5, 0, none⟩)
  s6 : l5 = true → x6 = .pointer (some ⟨b6, 0, none⟩)
  box : DBox w a b W
  r1 : l1 = true → RowsQ n1 m1 a c W ∧ w.heap.size + 2 ≤ n1 ∧ n1 ≤ m1 ∧ m1 ≤ W.heap.size
  r3 : l3 = true → l1 = true ∧ RowsQ n2 m2 a d W ∧ m1 ≤ n2 ∧ n2 ≤ m2 ∧ m2 ≤ W.heap.size
  b5q : l4 = true → BoxQ w b5 c n1 m1 n2 m2 l1 l3 l6 W
  b6q : l5 = true → BoxQ w b6 d n1 m1 n2 m2 l1 l3 l7 W
  ne : l4 = true → l5 = true → b5 ≠ b6
  l6q : l6 = true → l3 = true ∧ l4 = true ∧ l5 = true
  l7q : l7 = true → l3 = true ∧ l4 = true ∧ l5 = true
section
variable {w : World} {a b : Cf} {l0 l1 l2 l3 l4 l5 l6 l7 : Bool} {x5 x6 x32 x33 x34 x35 : Value} {c d : Cf} {n1 m1 n2 m2 b5 b6 : Nat} {W W' : World}
/-- What a call, or a new block, leaves. -/
theorem R5.next (h : R5 w a b l0 l1 l2 l3 l4 l5 l6 l7 x5 x6 x32 x33 x34 x35 c d n1 m1 n2 m2 b5 b6 W) (hb : Below W.heap.size W W') : R5 w a b l0 l1 l2 l3 l4 l5 l6 l7 x5 x6 x32 x33 x34 x35 c d n1 m1 n2 m2 b5 b6 W' := by
  have ht : Turns [] W W' := Turns.of_below hb (Nat.le_refl _)
  exact { h with
    box := h.box.next hb
    r1 := fun e => ⟨(h.r1 e).1.turns ht (by simp), (h.r1 e).2.1, (h.r1 e).2.2.1, Nat.le_trans (h.r1 e).2.2.2 ht.size⟩
    r3 := fun e => ⟨(h.r3 e).1, (h.r3 e).2.1.turns ht (by simp), (h.r3 e).2.2.1, (h.r3 e).2.2.2.1, Nat.le_trans (h.r3 e).2.2.2.2 ht.size⟩
    b5q := fun e => (h.b5q e).turns ht (by simp)
    b6q := fun e => (h.b6q e).turns ht (by simp) }
theorem R5.op0 (h : R5 w a b l0 l1 l2 l3 l4 l5 l6 l7 x5 x6 x32 x33 x34 x35 c d n1 m1 n2 m2 b5 b6 W) : R5 w a b true l1 l2 l3 l4 l5 l6 l7 x5 x6 a.val x33 x34 x35 c d n1 m1 n2 m2 b5 b6 W := { h with s32 := fun _ => rfl }
theorem R5.op2 (h : R5 w a b l0 l1 l2 l3 l4 l5 l6 l7 x5 x6 x32 x33 x34 x35 c d n1 m1 n2 m2 b5 b6 W) : R5 w a b l0 l1 true l3 l4 l5 l6 l7 x5 x6 x32 x33 a.val x35 c d n1 m1 n2 m2 b5 b6 W := { h with s34 := fun _ => rfl }
theorem R5.op1 (h : R5 w a b l0 false l2 l3 l4 l5 l6 l7 x5 x6 x32 x33 x34 x35 c d n1 m1 n2 m2 b5 b6 W) {c' : Cf} (hb : Below W.heap.size W W') (hc : CopyR W.heap.size W' a c') :
    R5 w a b l0 true l2 l3 l4 l5 l6 l7 x5 x6 x32 c'.val x34 x35 c' d W.heap.size W'.heap.size n2 m2 b5 b6 W' := by
  have h3 : l3 = true → False := fun e => by have := (h.r3 e).1; cases this
  have h6 : l6 = true → False := fun e => h3 (h.l6q e).1
  have hn := h.next hb
  exact { hn with
    s33 := fun _ => rfl
    r1 := fun _ => ⟨RowsQ.of hc, h.box.more, hb.size, Nat.le_refl _⟩
    r3 := fun e => (h3 e).elim
    b5q := fun e => ⟨(hn.b5q e).low, (hn.b5q e).lt, fun _ => .inl (h.b5q e).lt, fun e' => (h3 e').elim, (hn.b5q e).is_, fun e' => (h6 e').elim⟩
    b6q := fun e => ⟨(hn.b6q e).low, (hn.b6q e).lt, fun _ => .inl (h.b6q e).lt, fun e' => (h3 e').elim, (hn.b6q e).is_, (hn.b6q e).full⟩ }
theorem R5.op3 (h : R5 w a b l0 true l2 false l4 l5 l6 l7 x5 x6 x32 x33 x34 x35 c d n1 m1 n2 m2 b5 b6 W) {d' : Cf} (hb : Below W.heap.size W W') (hc : CopyR W.heap.size W' a d') :
    R5 w a b l0 true l2 true l4 l5 l6 l7 x5 x6 x32 x33 x34 d'.val c d' n1 m1 W.heap.size W'.heap.size b5 b6 W' := by
  have h6 : l6 = true → False := fun e => by have := (h.l6q e).1; cases this
  have h7 : l7 = true → False := fun e => by have := (h.l7q e).1; cases this
  have hn := h.next hb
  exact { hn with
    s35 := fun _ => rfl
    r3 := fun _ => ⟨rfl, RowsQ.of hc, (h.r1 rfl).2.2.2, hb.size, Nat.le_refl _⟩
    b5q := fun e => ⟨(hn.b5q e).low, (hn.b5q e).lt, (hn.b5q e).out1, fun _ => .inl (h.b5q e).lt, (hn.b5q e).is_, fun e' => (h6 e').elim⟩
    b6q := fun e => ⟨(hn.b6q e).low, (hn.b6q e).lt, (hn.b6q e).out1, fun _ => .inl (h.b6q e).lt, (hn.b6q e).is_, fun e' => (h7 e').elim⟩
    l6q := fun e => (h6 e).elim
    l7q := fun e => (h7 e).elim }
theorem R5.op4 (h : R5 w a b l0 l1 l2 l3 false l5 l6 l7 x5 x6 x32 x33 x34 x35 c d n1 m1 n2 m2 b5 b6 W) :
    R5 w a b l0 l1 l2 l3 true l5 l6 l7 (.pointer (some ⟨W.heap.size, 0, none⟩)) x6 x32 x33 x34 x35 c d n1 m1 n2 m2 W.heap.size b6 (W.alloc (.cells #[.slice none 0 0, .int .i64 0, .int .i64 0, .slice none 0 0, .int .i64 0, .int .i64 0, .int .i64 0, .int .i64 0, .int .i64 0, .int .i64 0, .int .i64 0] 38)) := by
  have h6 : l6 = true → False := fun e => by have := (h.l6q e).2.1; cases this
  have h7 : l7 = true → False := fun e => by have := (h.l7q e).2.1; cases this
  have hn := h.next ((Below.refl _ _).alloc (Nat.le_refl _) (.cells #[.slice none 0 0, .int .i64 0, .int .i64 0, .slice none 0 0, .int .i64 0, .int .i64 0, .int .i64 0, .int .i64 0, .int .i64 0, .int .i64 0, .int .i64 0] 38))
  exact { hn with
    s5 := fun _ => rfl
    b5q := fun _ => ⟨h.box.more, by simp, fun e => .inr (h.r1 e).2.2.2, fun e => .inr (h.r3 e).2.2.2.2, fun _ => IsBox.new W, fun e => (h6 e).elim⟩
    ne := fun _ e => fun e' => by have := (h.b6q e).lt; omega
    l6q := fun e => (h6 e).elim
    l7q := fun e => (h7 e).elim }
theorem R5.op5 (h : R5 w a b l0 l1 l2 l3 l4 false l6 l7 x5 x6 x32 x33 x34 x35 c d n1 m1 n2 m2 b5 b6 W) :
    R5 w a b l0 l1 l2 l3 l4 true l6 l7 x5 (.pointer (some ⟨W.heap.size, 0, none⟩)) x32 x33 x34 x35 c d n1 m1 n2 m2 b5 W.heap.size (W.alloc (.cells #[.slice none 0 0, .int .i64 0, .int .i64 0, .slice none 0 0, .int .i64 0, .int .i64 0, .int .i64 0, .int .i64 0, .int .i64 0, .int .i64 0, .int .i64 0] 38)) := by
  have h6 : l6 = true → False := fun e => by have := (h.l6q e).2.2; cases this
  have h7 : l7 = true → False := fun e => by have := (h.l7q e).2.2; cases this
  have hn := h.next ((Below.refl _ _).alloc (Nat.le_refl _) (.cells #[.slice none 0 0, .int .i64 0, .int .i64 0, .slice none 0 0, .int .i64 0, .int .i64 0, .int .i64 0, .int .i64 0, .int .i64 0, .int .i64 0, .int .i64 0] 38))
  exact { hn with
    s6 := fun _ => rfl
    b6q := fun _ => ⟨h.box.more, by simp, fun e => .inr (h.r1 e).2.2.2, fun e => .inr (h.r3 e).2.2.2.2, fun _ => IsBox.new W, fun e => (h7 e).elim⟩
    ne := fun e _ => fun e' => by have := (h.b5q e).lt; omega
    l6q := fun e => (h6 e).elim
    l7q := fun e => (h7 e).elim }
theorem R5.op6 (h : R5 w a b l0 true l2 true true true false l7 x5 x6 x32 x33 x34 x35 c d n1 m1 n2 m2 b5 b6 W) :
    R5 w a b l0 true l2 true true true true l7 x5 x6 x32 x33 x34 x35 c d n1 m1 n2 m2 b5 b6 (putBox W b5 c) := by
  have ht := put_turns W b5 c
  have h5 := h.b5q rfl
  have hne := h.ne rfl rfl
  exact { h with
    box := h.box.put (by have := h5.low; omega)
    r1 := fun e => ⟨(h.r1 e).1.turns ht (fun i hi => by rw [List.mem_singleton] at hi; subst hi; exact h5.out1 rfl), (h.r1 e).2.1, (h.r1 e).2.2.1, by rw [put_size]; exact (h.r1 e).2.2.2⟩
    r3 := fun e => ⟨rfl, (h.r3 e).2.1.turns ht (fun i hi => by rw [List.mem_singleton] at hi; subst hi; exact h5.out2 rfl), (h.r3 e).2.2.1, (h.r3 e).2.2.2.1, by rw [put_size]; exact (h.r3 e).2.2.2.2⟩
    b5q := fun _ => ⟨h5.low, by rw [put_size]; exact h5.lt, h5.out1, h5.out2, fun e => (by cases e), fun _ => put_full c (h5.is_ rfl)⟩
    b6q := fun e => (h.b6q e).turns ht (by rw [List.mem_singleton]; exact fun e => hne e.symm)
    l6q := fun _ => ⟨rfl, rfl, rfl⟩ }
theorem R5.op7 (h : R5 w a b l0 true l2 true true true l6 false x5 x6 x32 x33 x34 x35 c d n1 m1 n2 m2 b5 b6 W) :
    R5 w a b l0 true l2 true true true l6 true x5 x6 x32 x33 x34 x35 c d n1 m1 n2 m2 b5 b6 (putBox W b6 d) := by
  have ht := put_turns W b6 d
  have h5 := h.b6q rfl
  have hne := h.ne rfl rfl
  exact { h with
    box := h.box.put (by have := h5.low; omega)
    r1 := fun e => ⟨(h.r1 e).1.turns ht (fun i hi => by rw [List.mem_singleton] at hi; subst hi; exact h5.out1 rfl), (h.r1 e).2.1, (h.r1 e).2.2.1, by rw [put_size]; exact (h.r1 e).2.2.2⟩
    r3 := fun e => ⟨rfl, (h.r3 e).2.1.turns ht (fun i hi => by rw [List.mem_singleton] at hi; subst hi; exact h5.out2 rfl), (h.r3 e).2.2.1, (h.r3 e).2.2.2.1, by rw [put_size]; exact (h.r3 e).2.2.2.2⟩
    b5q := fun e => (h.b5q e).turns ht (by rw [List.mem_singleton]; exact hne)
    b6q := fun _ => ⟨h5.low, by rw [put_size]; exact h5.lt, h5.out1, h5.out2, fun e => (by cases e), fun _ => put_full d (h5.is_ rfl)⟩
    l7q := fun _ => ⟨rfl, rfl, rfl⟩ }
end
abbrev ops5 : Array Oper := #[{ dst := some 32, op := Op.load 38 (Operand.tmp 2), type := 38, pos := "law.go:67", after := #[], guard := none },
  { dst := some 33, op := Op.call { callee := Callee.value (Operand.func 18), args := #[Operand.tmp 32], argTypes := #[38] }, type := 38, pos := "law.go:67", after := #[{ on := 0, ground := Ground.data }], guard := none },
  { dst := some 34, op := Op.load 38 (Operand.tmp 2), type := 38, pos := "law.go:67", after := #[], guard := none },
  { dst := some 35, op := Op.call { callee := Callee.value (Operand.func 18), args := #[Operand.tmp 34], argTypes := #[38] }, type := 38, pos := "law.go:67", after := #[{ on := 2, ground := Ground.data }, { on := 1, ground := Ground.chain }], guard := none },
  { dst := some 5, op := Op.alloc 38, type := 0, pos := "law.go:67", after := #[], guard := none },
  { dst := some 6, op := Op.alloc 38, type := 0, pos := "law.go:67", after := #[], guard := none },
  { dst := none, op := Op.store 38 (Operand.tmp 5) (Operand.tmp 33), type := 0, pos := "law.go:67", after := #[{ on := 4, ground := Ground.data }, { on := 1, ground := Ground.data }, { on := 3, ground := Ground.chain }, { on := 0, ground := Ground.phase }, { on := 1, ground := Ground.phase }, { on := 2, ground := Ground.textOnly Departure.lateStores }, { on := 3, ground := Ground.textOnly Departure.lateStoresUnsure }, { on := 4, ground := Ground.phase }, { on := 5, ground := Ground.phase }], guard := none },
  { dst := none, op := Op.store 38 (Operand.tmp 6) (Operand.tmp 35), type := 0, pos := "law.go:67", after := #[{ on := 5, ground := Ground.data }, { on := 3, ground := Ground.data }, { on := 6, ground := Ground.chain }, { on := 0, ground := Ground.phase }, { on := 1, ground := Ground.phase }, { on := 2, ground := Ground.phase }, { on := 3, ground := Ground.phase }, { on := 4, ground := Ground.phase }, { on := 5, ground := Ground.phase }, { on := 6, ground := Ground.phase }], guard := none }]
theorem ops5_end : ∀ l0 l1 l2 l3 l4 l5 l6 l7 : Bool, Region.ready .any ops5 #[l0, l1, l2, l3, l4, l5, l6, l7] = [] → (l0 && l1 && l2 && l3 && l4 && l5 && l6 && l7) = true := by decide +kernel
theorem ops5_all : ∀ l0 l1 l2 l3 l4 l5 l6 l7 : Bool, (Region.ready .any ops5 #[l0, l1, l2, l3, l4, l5, l6, l7]).all (fun i => (i == 0 && !l0) || ((i == 1 && !l1 && l0) || ((i == 2 && !l2) || ((i == 3 && !l3 && l2 && l1) || ((i == 4 && !l4) || ((i == 5 && !l5) || ((i == 6 && !l6 && l1 && l3 && l4 && l5) || (i == 7 && !l7 && l1 && l3 && l4 && l5)))))))) = true := by decide +kernel
theorem ops5_ready {l0 l1 l2 l3 l4 l5 l6 l7 : Bool} {i : Nat} (h : i ∈ Region.ready .any ops5 #[l0, l1, l2, l3, l4, l5, l6, l7]) : (i = 0 ∧ l0 = false) ∨ (i = 1 ∧ l1 = false ∧ l0 = true) ∨ (i = 2 ∧ l2 = false) ∨ (i = 3 ∧ l3 = false ∧ l2 = true ∧ l1 = true) ∨ (i = 4 ∧ l4 = false) ∨ (i = 5 ∧ l5 = false) ∨ (i = 6 ∧ l6 = false ∧ l1 = true ∧ l3 = true ∧ l4 = true ∧ l5 = true) ∨ (i = 7 ∧ l7 = false ∧ l1 = true ∧ l3 = true ∧ l4 = true ∧ l5 = true) := by
  have h1 := List.all_eq_true.1 (ops5_all l0 l1 l2 l3 l4 l5 l6 l7) i h
  simp only [Bool.or_eq_true, Bool.and_eq_true, Bool.not_eq_true', beq_iff_eq] at h1
  rcases h1 with h | ⟨⟨h, h'⟩, h''⟩ | h | ⟨⟨⟨h, h'⟩, h2⟩, h3⟩ | h | h | ⟨⟨⟨⟨⟨h, h'⟩, h2⟩, h3⟩, h4⟩, h5⟩ | ⟨⟨⟨⟨⟨h, h'⟩, h2⟩, h3⟩, h4⟩, h5⟩
  · exact .inl h
  · exact .inr (.inl ⟨h, h', h''⟩)
  · exact .inr (.inr (.inl h))
  · exact .inr (.inr (.inr (.inl ⟨h, h', h2, h3⟩)))
  · exact .inr (.inr (.inr (.inr (.inl h))))
  · exact .inr (.inr (.inr (.inr (.inr (.inl h)))))
  · exact .inr (.inr (.inr (.inr (.inr (.inr (.inl ⟨h, h', h2, h3, h4, h5⟩))))))
  · exact .inr (.inr (.inr (.inr (.inr (.inr (.inr ⟨h, h', h2, h3, h4, h5⟩))))))
set_option maxRecDepth 100000 in
set_option maxHeartbeats 8000000 in
theorem region5_any {Q : Exit → Act → World → Prop} (w : World) (a b : Cf) (hr : a.Reads w w.heap.size) (hf : a.Few) (v0 v1 v3 v4 v7 v8 v9 v10 v11 v12 v13 v14 v15 v16 v17 v18 v19 v20 v21 v22 v23 v24 v25 v26 v27 v28 v29 v30 v31 v36 v37 v38 v39 v40 v41 v42 v43 v44 v45 v46 v47 v48 v49 v50 v51 v52 v53 v54 v55 v56 v57 v58 v59 v60 v61 v62 v63 v64 v65 v66 v67 v68 v69 v70 v71 v72 v73 v74 v75 v76 v77 v78 v79 v80 v81 v82 v83 v84 u5 u6 u32 u33 u34 u35 : Value) (W : World) (h : DBox w a b W)
    (hQ : ∀ (c d : Cf) (n1 m1 n2 m2 b5 b6 : Nat) (X : World), R5 w a b true true true true true true true true (.pointer (some ⟨b5, 0, none⟩)) (.pointer (some ⟨b6, 0, none⟩)) a.val c.val a.val d.val c d n1 m1 n2 m2 b5 b6 X → Q .normal ⟨List.toArray (v0 :: v1 :: .pointer (some ⟨w.heap.size, 0, none⟩) :: v3 :: v4 :: (.pointer (some ⟨b5, 0, none⟩)) :: (.pointer (some ⟨b6, 0, none⟩)) :: v7 :: v8 :: v9 :: v10 :: v11 :: v12 :: v13 :: v14 :: v15 :: v16 :: v17 :: v18 :: v19 :: v20 :: v21 :: v22 :: v23 :: v24 :: v25 :: v26 :: v27 :: v28 :: v29 :: v30 :: v31 :: a.val :: c.val :: a.val :: d.val :: v36 :: v37 :: v38 :: v39 :: v40 :: v41 :: v42 :: v43 :: v44 :: v45 :: v46 :: v47 :: v48 :: v49 :: v50 :: v51 :: v52 :: v53 :: v54 :: v55 :: v56 :: v57 :: v58 :: v59 :: v60 :: v61 :: v62 :: v63 :: v64 :: v65 :: v66 :: v67 :: v68 :: v69 :: v70 :: v71 :: v72 :: v73 :: v74 :: v75 :: v76 :: v77 :: v78 :: v79 :: v80 :: v81 :: v82 :: v83 :: v84 :: []), []⟩ X) :
    (Code.region 5 ops5 true).wp Try.prog Q ⟨List.toArray (v0 :: v1 :: .pointer (some ⟨w.heap.size, 0, none⟩) :: v3 :: v4 :: u5 :: u6 :: v7 :: v8 :: v9 :: v10 :: v11 :: v12 :: v13 :: v14 :: v15 :: v16 :: v17 :: v18 :: v19 :: v20 :: v21 :: v22 :: v23 :: v24 :: v25 :: v26 :: v27 :: v28 :: v29 :: v30 :: v31 :: u32 :: u33 :: u34 :: u35 :: v36 :: v37 :: v38 :: v39 :: v40 :: v41 :: v42 :: v43 :: v44 :: v45 :: v46 :: v47 :: v48 :: v49 :: v50 :: v51 :: v52 :: v53 :: v54 :: v55 :: v56 :: v57 :: v58 :: v59 :: v60 :: v61 :: v62 :: v63 :: v64 :: v65 :: v66 :: v67 :: v68 :: v69 :: v70 :: v71 :: v72 :: v73 :: v74 :: v75 :: v76 :: v77 :: v78 :: v79 :: v80 :: v81 :: v82 :: v83 :: v84 :: []), []⟩ W := by
  refine wp_region_any (by kernel_rfl) ?_
  refine wpAny_inv (fun li x X => ∃ (l0 l1 l2 l3 l4 l5 l6 l7 : Bool) (x5 x6 x32 x33 x34 x35 : Value) (c d : Cf) (n1 m1 n2 m2 b5 b6 : Nat), li = #[l0, l1, l2, l3, l4, l5, l6, l7] ∧ x = ⟨List.toArray (v0 :: v1 :: .pointer (some ⟨w.heap.size, 0, none⟩) :: v3 :: v4 :: x5 :: x6 :: v7 :: v8 :: v9 :: v10 :: v11 :: v12 :: v13 :: v14 :: v15 :: v16 :: v17 :: v18 :: v19 :: v20 :: v21 :: v22 :: v23 :: v24 :: v25 :: v26 :: v27 :: v28 :: v29 :: v30 :: v31 :: x32 :: x33 :: x34 :: x35 :: v36 :: v37 :: v38 :: v39 :: v40 :: v41 :: v42 :: v43 :: v44 :: v45 :: v46 :: v47 :: v48 :: v49 :: v50 :: v51 :: v52 :: v53 :: v54 :: v55 :: v56 :: v57 :: v58 :: v59 :: v60 :: v61 :: v62 :: v63 :: v64 :: v65 :: v66 :: v67 :: v68 :: v69 :: v70 :: v71 :: v72 :: v73 :: v74 :: v75 :: v76 :: v77 :: v78 :: v79 :: v80 :: v81 :: v82 :: v83 :: v84 :: []), []⟩ ∧ R5 w a b l0 l1 l2 l3 l4 l5 l6 l7 x5 x6 x32 x33 x34 x35 c d n1 m1 n2 m2 b5 b6 X) ?_ ?_ _ _ _ _ (by decide) ⟨false, false, false, false, false, false, false, false, u5, u6, u32, u33, u34, u35, a, a, 0, 0, 0, 0, 0, 0, rfl, rfl, ?_⟩
  · rintro li x X ⟨l0, l1, l2, l3, l4, l5, l6, l7, x5, x6, x32, x33, x34, x35, c, d, n1, m1, n2, m2, b5, b6, rfl, rfl, hJ⟩ he
    have h1 := ops5_end _ _ _ _ _ _ _ _ he
    simp only [Bool.and_eq_true] at h1
    obtain ⟨⟨⟨⟨⟨⟨⟨rfl, rfl⟩, rfl⟩, rfl⟩, rfl⟩, rfl⟩, rfl⟩, rfl⟩ := h1
    have e0 := hJ.s32 rfl
    have e1 := hJ.s33 rfl
    have e2 := hJ.s34 rfl
    have e3 := hJ.s35 rfl
    have e4 := hJ.s5 rfl
    have e5 := hJ.s6 rfl
    subst e0 e1 e2 e3 e4 e5
    exact hQ c d n1 m1 n2 m2 b5 b6 X hJ
  · rintro li x X ⟨l0, l1, l2, l3, l4, l5, l6, l7, x5, x6, x32, x33, x34, x35, c, d, n1, m1, n2, m2, b5, b6, rfl, rfl, hJ⟩ i hi
    rcases ops5_ready hi with ⟨rfl, rfl⟩ | ⟨rfl, rfl, rfl⟩ | ⟨rfl, rfl⟩ | ⟨rfl, rfl, rfl, rfl⟩ | ⟨rfl, rfl⟩ | ⟨rfl, rfl⟩ | ⟨rfl, rfl, rfl, rfl, rfl, rfl⟩ | ⟨rfl, rfl, rfl, rfl, rfl, rfl⟩
    · refine wpOp_plain (o := ops5[0]) rfl rfl fun K' hK' => ?_
      obtain ⟨a0, a1, a2, a3, a4, a5, a6, a7, a8, a9, a10⟩ := hJ.box.fst
      unfold Oper.wp
      go_simp
      exact hK'.out _ _ ⟨true, l1, l2, l3, l4, l5, l6, l7, x5, x6, a.val, x33, x34, x35, c, d, n1, m1, n2, m2, b5, b6, rfl, rfl, hJ.op0⟩
    · have e0 := hJ.s32 rfl
      subst e0
      have HC := Lib.hid (copy13_any a X (hJ.box.reads hr) hf)
      have HJ := Lib.hid hJ
      clear hJ hi
      unfold Cf.val at HC
      refine wpOp_plain (o := ops5[1]) rfl rfl fun K' hK' => ?_
      unfold Oper.wp Cf.val
      go_simp
      refine HC.out.mono ?_
      rintro e X' ⟨⟨c', rfl, hc⟩, hb⟩
      exact hK'.out _ _ ⟨true, true, l2, l3, l4, l5, l6, l7, x5, x6, a.val, c'.val, x34, x35, c', d, X.heap.size, X'.heap.size, n2, m2, b5, b6, rfl, rfl, HJ.out.op1 hb hc⟩
    · refine wpOp_plain (o := ops5[2]) rfl rfl fun K' hK' => ?_
      obtain ⟨a0, a1, a2, a3, a4, a5, a6, a7, a8, a9, a10⟩ := hJ.box.fst
      unfold Oper.wp
      go_simp
      exact hK'.out _ _ ⟨l0, l1, true, l3, l4, l5, l6, l7, x5, x6, x32, x33, a.val, x35, c, d, n1, m1, n2, m2, b5, b6, rfl, rfl, hJ.op2⟩
    · have e0 := hJ.s34 rfl
      subst e0
      have HC := Lib.hid (copy13_any a X (hJ.box.reads hr) hf)
      have HJ := Lib.hid hJ
      clear hJ hi
      unfold Cf.val at HC
      refine wpOp_plain (o := ops5[3]) rfl rfl fun K' hK' => ?_
      unfold Oper.wp Cf.val
      go_simp
      refine HC.out.mono ?_
      rintro e X' ⟨⟨c', rfl, hc⟩, hb⟩
      exact hK'.out _ _ ⟨l0, true, true, true, l4, l5, l6, l7, x5, x6, x32, x33, a.val, c'.val, c, c', n1, m1, X.heap.size, X'.heap.size, b5, b6, rfl, rfl, HJ.out.op3 hb hc⟩
    · refine wpOp_plain (o := ops5[4]) rfl rfl fun K' hK' => ?_
      unfold Oper.wp
      go_simp
      exact hK'.out _ _ ⟨l0, l1, l2, l3, true, l5, l6, l7, (.pointer (some ⟨X.heap.size, 0, none⟩)), x6, x32, x33, x34, x35, c, d, n1, m1, n2, m2, X.heap.size, b6, rfl, rfl, hJ.op4⟩
    · refine wpOp_plain (o := ops5[5]) rfl rfl fun K' hK' => ?_
      unfold Oper.wp
      go_simp
      exact hK'.out _ _ ⟨l0, l1, l2, l3, l4, true, l6, l7, x5, (.pointer (some ⟨X.heap.size, 0, none⟩)), x32, x33, x34, x35, c, d, n1, m1, n2, m2, b5, X.heap.size, rfl, rfl, hJ.op5⟩
    · have e0 := hJ.s33 rfl
      have e1 := hJ.s5 rfl
      subst e0 e1
      have hz := (hJ.b5q rfl).is_ rfl
      have hzc : X.cell? ⟨b5, 0, none⟩ = some (.slice none 0 0) ∧ X.cell? ⟨b5, 1, none⟩ = some (.int .i64 0) ∧ X.cell? ⟨b5, 2, none⟩ = some (.int .i64 0) ∧ X.cell? ⟨b5, 3, none⟩ = some (.slice none 0 0) ∧ X.cell? ⟨b5, 4, none⟩ = some (.int .i64 0) ∧ X.cell? ⟨b5, 5, none⟩ = some (.int .i64 0) ∧ X.cell? ⟨b5, 6, none⟩ = some (.int .i64 0) ∧ X.cell? ⟨b5, 7, none⟩ = some (.int .i64 0) ∧ X.cell? ⟨b5, 8, none⟩ = some (.int .i64 0) ∧ X.cell? ⟨b5, 9, none⟩ = some (.int .i64 0) ∧ X.cell? ⟨b5, 10, none⟩ = some (.int .i64 0) := by
        have e := hz
        unfold IsBox at e
        unfold World.cell?
        simp only [e]
        exact ⟨rfl, rfl, rfl, rfl, rfl, rfl, rfl, rfl, rfl, rfl, rfl⟩
      obtain ⟨z0, z1, z2, z3, z4, z5, z6, z7, z8, z9, z10⟩ := hzc
      have hzf : ∀ j, X.frozen? ⟨b5, j, none⟩ = false := fun j => by unfold World.frozen?; rw [show X.heap[b5]? = _ from hz]; simp
      have HJ := Lib.hid hJ.op6
      clear hJ hi
      refine wpOp_plain (o := ops5[6]) rfl rfl fun K' hK' => ?_
      unfold Oper.wp Cf.val
      go_simp
      exact hK'.out _ _ ⟨l0, true, l2, true, true, true, true, l7, (.pointer (some ⟨b5, 0, none⟩)), x6, x32, c.val, x34, x35, c, d, n1, m1, n2, m2, b5, b6, rfl, rfl, HJ.out⟩
    · have e0 := hJ.s35 rfl
      have e1 := hJ.s6 rfl
      subst e0 e1
      have hz := (hJ.b6q rfl).is_ rfl
      have hzc : X.cell? ⟨b6, 0, none⟩ = some (.slice none 0 0) ∧ X.cell? ⟨b6, 1, none⟩ = some (.int .i64 0) ∧ X.cell? ⟨b6, 2, none⟩ = some (.int .i64 0) ∧ X.cell? ⟨b6, 3, none⟩ = some (.slice none 0 0) ∧ X.cell? ⟨b6, 4, none⟩ = some (.int .i64 0) ∧ X.cell? ⟨b6, 5, none⟩ = some (.int .i64 0) ∧ X.cell? ⟨b6, 6, none⟩ = some (.int .i64 0) ∧ X.cell? ⟨b6, 7, none⟩ = some (.int .i64 0) ∧ X.cell? ⟨b6, 8, none⟩ = some (.int .i64 0) ∧ X.cell? ⟨b6, 9, none⟩ = some (.int .i64 0) ∧ X.cell? ⟨b6, 10, none⟩ = some (.int .i64 0) := by
        have e := hz
        unfold IsBox at e
        unfold World.cell?
        simp only [e]
        exact ⟨rfl, rfl, rfl, rfl, rfl, rfl, rfl, rfl, rfl, rfl, rfl⟩
      obtain ⟨z0, z1, z2, z3, z4, z5, z6, z7, z8, z9, z10⟩ := hzc
      have hzf : ∀ j, X.frozen? ⟨b6, j, none⟩ = false := fun j => by unfold World.frozen?; rw [show X.heap[b6]? = _ from hz]; simp
      have HJ := Lib.hid hJ.op7
      clear hJ hi
      refine wpOp_plain (o := ops5[7]) rfl rfl fun K' hK' => ?_
      unfold Oper.wp Cf.val
      go_simp
      exact hK'.out _ _ ⟨l0, true, l2, true, true, true, l6, true, x5, (.pointer (some ⟨b6, 0, none⟩)), x32, x33, x34, d.val, c, d, n1, m1, n2, m2, b5, b6, rfl, rfl, HJ.out⟩
  · exact ⟨fun e => (by cases e), fun e => (by cases e), fun e => (by cases e), fun e => (by cases e), fun e => (by cases e), fun e => (by cases e), h.drew, fun e => (by cases e), fun e => (by cases e), fun e => (by cases e), fun e => (by cases e), fun e => (by cases e), fun e => (by cases e), fun e => (by cases e)⟩
end Go.Proofs.Ytnbghappfclnjaa
