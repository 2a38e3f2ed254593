/- Scrapes in memory; rows of samples. -/
import Derived.Test.YtcjmieofmogeiaaStPut
import Derived.Test.YtcjmieofmogeiaaBase
namespace Go.Proofs.Ytcjmieofmogeiaa
open Go.RowKit

def Smp.Ok (x : Smp) : Prop := x.name.size ≤ 140737488355328 ∧ (-9223372036854775808 ≤ x.val ∧ x.val ≤ 9223372036854775807) ∧ -9223372036854775808 ≤ x.tm ∧ x.tm ≤ 9223372036854775807
abbrev ptr (b : Nat) : Value := .pointer (some ⟨b, 0, none⟩)
theorem EK.Own.keepB {α : Type} {K : EK α} {B : Nat} {w w' : World} {v : Value} {l : List α} (h : K.Own B w v l) (hb : ∀ i ∈ ownB v, w'.heap[i]? = w.heap[i]?) : K.Own B w' v l := by
  refine ⟨h.1, ?_⟩
  rcases h.2 with hn | ⟨g, cap, cur, rfl, hB, hg, rest⟩
  · exact .inl hn
  · exact .inr ⟨g, cap, cur, rfl, hB, (hb g (by simp [ownB, Value.ownBlock])).trans hg, rest⟩
/-- append of what is read, none too, in a region that keeps its order. -/
theorem EK.wpList_append_all {α : Type} {K : EK α} {P : Program} (ok : K.Ok P) {w : World} {ops : Array Oper} {rest : List Oper} {o : Oper} {a : Act} {Q : Exit → Act → World → Prop} (hgd : o.guard = none) (s x : Operand)
    (ho : o.op = .call { callee := .builtin .append, args := #[s, x], argTypes := #[K.ts, K.ts] })
    (base : Nat) (v : Value) (l1 : List α) (hs : a.eval s = v) (hown : K.Own base w v l1)
    (B : Nat) (A : Option Addr) (l2 : List α) (n c : Nat) (hn : l2.length = n) (hx : a.eval x = .slice A n c) (hr : K.Reads w B A l2)
    (hlen : l1.length + l2.length ≤ 100000) (hbase : base ≤ w.heap.size)
    (h : ∀ v' w', K.Own base w' v' (l1 ++ l2) → Turns (ownB v) w w' → (∀ i ∈ ownB v', i ∈ ownB v ∨ i = w.heap.size) → wpList P ops Q rest (a.put o.dst v') w') : wpList P ops Q (o :: rest) a w :=
  wpList_plain hgd fun _ hK => EK.wp_append_all ok s x ho base v l1 hs hown B A l2 n c hn hx hr hlen hbase fun v' w' h1 h2 h3 => hK _ _ (h v' w' h1 h2 h3)
theorem lone_cells {X : World} (C : Array Value) (t : TypeId) {Y : World} (ht : Turns [] (X.alloc (.cells C t)) Y) (j : Nat) (u : Value) (h : C[j]? = some u) : Y.cell? ⟨X.heap.size, j, none⟩ = some u := by
  rw [ht.cell (by simp) (by simp)]
  have := heap_alloc_new X (.cells C t)
  unfold World.cell?
  simp only [this]
  exact h
theorem smp_struct : Try.prog.underlying 52 = some (.struct (Try.prog.fieldsOf 52)) := by kernel_rfl
structure Pt where
  own : Int
  A : Option Addr
  l : List Smp
  c : Nat
/-- The slice at A0 reads as these. -/
def PReads (w : World) (Bd : Nat) (A0 : Option Addr) (l : List Pt) : Prop :=
  l = [] ∨ ∃ g off, A0 = some ⟨g, off, none⟩ ∧ g < Bd ∧ ∀ (j : Nat) (a : Pt), l[j]? = some a →
    (w.cell? ⟨g, off + j * 2, none⟩ = some (.int .i64 a.own) ∧ w.cell? ⟨g, off + j * 2 + 1, none⟩ = some (.slice a.A a.l.length a.c)) ∧ sK.Reads w Bd a.A a.l ∧ (a.l.length ≤ a.c ∧ a.c ≤ maxLen) ∧ (-9223372036854775808 ≤ a.own ∧ a.own ≤ 9223372036854775807) ∧ (a.l.length ≤ 140737488355328 ∧ ∀ x ∈ a.l, x.Ok)
theorem PReads.keep {w w' : World} {Bd : Nat} {A0 : Option Addr} {l : List Pt} (h : PReads w Bd A0 l) (hb : Below Bd w w') : PReads w' Bd A0 l := by
  rcases h with h | ⟨g, off, rfl, hg, hc⟩
  · exact .inl h
  · refine .inr ⟨g, off, rfl, hg, fun j a ha => ?_⟩
    obtain ⟨⟨c0, c1⟩, hr, h2⟩ := hc j a ha
    exact ⟨⟨(hb.cell (p := ⟨g, off + j * 2, none⟩) hg).trans c0, (hb.cell (p := ⟨g, off + j * 2 + 1, none⟩) hg).trans c1⟩, hr.below hb, h2⟩
theorem PReads.lift {w w' : World} {A0 : Option Addr} {l : List Pt} (h : PReads w w.heap.size A0 l) (ht : Turns [] w w') : PReads w' w'.heap.size A0 l := by
  rcases h with h | ⟨g, off, rfl, hg, hc⟩
  · exact .inl h
  · refine .inr ⟨g, off, rfl, Nat.lt_of_lt_of_le hg ht.size, fun j a ha => ?_⟩
    obtain ⟨⟨c0, c1⟩, hr, h2⟩ := hc j a ha
    exact ⟨⟨(ht.cell hg (by simp) _).trans c0, (ht.cell hg (by simp) _).trans c1⟩, (hr.turns (Nat.le_refl _) ht (by simp)).more ht.size, h2⟩
def sumP : List Pt → Nat
  | [] => 0
  | a :: l => a.l.length + sumP l
theorem sumP_append (l m : List Pt) : sumP (l ++ m) = sumP l + sumP m := by
  induction l with
  | nil => simp [sumP]
  | cons a l ih => simp only [List.cons_append, sumP, ih]; omega
theorem sumP_take_succ {l : List Pt} {k : Nat} {a : Pt} (ha : l[k]? = some a) : sumP (l.take (k + 1)) = sumP (l.take k) + a.l.length := by
  rw [List.take_add_one, ha, sumP_append]
  simp [sumP]
theorem sumP_take_le : ∀ (l : List Pt) (k : Nat), sumP (l.take k) ≤ sumP l
  | [], k => by simp [sumP]
  | a :: l, 0 => by simp [sumP]
  | a :: l, k + 1 => by
    rw [List.take_succ_cons]
    simp only [sumP]
    have := sumP_take_le l k
    omega
def fewP (l : List Pt) (most : Nat) : Bool := decide (l.length ≤ most) && decide (sumP l ≤ 200)
end Go.Proofs.Ytcjmieofmogeiaa
