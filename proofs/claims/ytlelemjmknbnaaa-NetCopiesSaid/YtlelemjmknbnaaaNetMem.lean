/- A net in memory: its head, its map, its connections, and what a call turns. -/
import Derived.Test.YtlelemjmknbnaaaTurns
import Derived.Test.YtlelemjmknbnaaaShelf
import Derived.Maps.OwnSet
import Derived.Maps.AppendAt
import Derived.OneCell
import Derived.BigQuiet
import Derived.Deep.QuietTactic
namespace Go.Proofs.Ytlelemjmknbnaaa
open Go.RowKit

/-! Connections -/
structure Cn where
  id : Nat
  host : List UInt8
  st : Int
  inn : List UInt8
  out : List UInt8
structure Pl where
  b : Nat
  va : Value
  vs : Value
abbrev NE := Cn × Pl
def Pl.foot (p : Pl) : List Nat := p.b :: (ownB p.va ++ ownB p.vs)
def footL (L : List NE) : List Nat := L.flatMap fun x => x.2.foot
def cellsC (x : NE) : Array Value := #[.string ⟨x.1.host.toArray⟩, .int .i64 x.1.st, x.2.va, x.2.vs]
def getE (L : List NE) (k : Int) : Option NE := L.find? fun x => decide ((x.1.id : Int) = k)
def pelem : Value → Option (DataW Unit × List MemPlace)
  | .pointer none => some (.lit (.bool false), [])
  | .pointer (some ⟨b, 0, none⟩) => some (.lit (.int .i64 (b : Int)), [])
  | _ => none
theorem pelem_ptr {v : Value} {b : Nat} {ps : List MemPlace} (h : pelem v = some (.lit (.int .i64 (b : Int)), ps)) : v = .pointer (some ⟨b, 0, none⟩) := by
  unfold pelem at h
  split at h
  · cases h
  · rename_i b'
    simp only [Option.some.injEq, Prod.mk.injEq, DataW.lit.injEq, Lit.int.injEq, true_and] at h
    have e := h.1
    have e2 : b' = b := by omega
    rw [e2]
  · cases h
theorem pelem_nil {v : Value} {ps : List MemPlace} (h : pelem v = some (.lit (.bool false), ps)) : v = .pointer none := by
  unfold pelem at h
  split at h
  · rfl
  · simp at h
  · cases h
structure Keys (D : DataW Unit) (L : List NE) : Prop where
  has : ∀ k : Int, Maps.has D (.int .i64 k) = (getE L k).isSome
  at_ : ∀ k : Int, D.atKey (.int .i64 k) (.lit (.bool false)) = match getE L k with | some x => .lit (.int .i64 (x.2.b : Int)) | none => .lit (.bool false)
  size : Maps.size D = L.length
structure NetAt (B : Nat) (w : World) (bn bm : Nat) (most last : Int) (L : List NE) : Prop where
  head : w.heap[bn]? = some (.cells #[.int .i64 most, .int .i64 last, .map (some bm)] 47 (0, 0))
  hmap : ∃ (n : Nat) (D : DataW Unit), w.ownsMap Try.prog 3 pelem bm n D ∧ (n : Int) ≤ last ∧ Keys D L
  conns : ∀ x ∈ L, w.heap[x.2.b]? = some (.cells (cellsC x) 60 (0, 0)) ∧ Owned B w x.2.va x.1.inn ∧ Owned B w x.2.vs x.1.out
  low : B ≤ bn ∧ B ≤ bm ∧ ∀ x ∈ L, B ≤ x.2.b
  apart : (bn :: bm :: footL L).Nodup
  ids : ∀ x ∈ L, 1 ≤ x.1.id ∧ (x.1.id : Int) ≤ last
  rise : L.Pairwise fun x y => x.1.id < y.1.id
theorem Owned.foot {B : Nat} {w : World} {v : Value} {l : List UInt8} (h : Owned B w v l) : ∀ i ∈ ownB v, B ≤ i ∧ i < w.heap.size := by
  intro i hi
  unfold ownB at hi
  rw [Option.mem_toList] at hi
  exact World.ownsRow.lt h i hi
theorem mem_footL {L : List NE} {i : Nat} : i ∈ footL L ↔ ∃ x ∈ L, i ∈ x.2.foot := by unfold footL; exact List.mem_flatMap
theorem Pl.mem_foot {p : Pl} {i : Nat} : i ∈ p.foot ↔ i = p.b ∨ i ∈ ownB p.va ∨ i ∈ ownB p.vs := by unfold Pl.foot; simp
theorem NetAt.lt {B : Nat} {w : World} {bn bm : Nat} {most last : Int} {L : List NE} (h : NetAt B w bn bm most last L) : ∀ i ∈ bn :: bm :: footL L, B ≤ i ∧ i < w.heap.size := by
  intro i hi
  rcases List.mem_cons.1 hi with rfl | hi
  · exact ⟨h.low.1, lt_of_block h.head⟩
  rcases List.mem_cons.1 hi with rfl | hi
  · obtain ⟨n, D, ho, _⟩ := h.hmap
    exact ⟨h.low.2.1, ho.lt⟩
  obtain ⟨x, hx, hi⟩ := mem_footL.1 hi
  obtain ⟨c1, c2, c3⟩ := h.conns x hx
  rcases Pl.mem_foot.1 hi with rfl | hi | hi
  · exact ⟨h.low.2.2 x hx, lt_of_block c1⟩
  · exact c2.foot i hi
  · exact c3.foot i hi
theorem ownsMap_turns {w w' : World} {b n : Nat} {D : DataW Unit} {F : List Nat} (h : w.ownsMap Try.prog 3 pelem b n D) (ht : Turns F w w') (hb : b ∉ F) : w'.ownsMap Try.prog 3 pelem b n D := by
  have hlt := h.lt
  obtain ⟨es, clock, h1, r⟩ := h
  exact ⟨es, clock, (ht.block b hlt hb).trans h1, r⟩
/-- A net stays what it is while other blocks turn. -/
theorem NetAt.kept {B : Nat} {w w' : World} {bn bm : Nat} {most last : Int} {L : List NE} {F : List Nat} (h : NetAt B w bn bm most last L) (ht : Turns F w w') (hF : ∀ i ∈ bn :: bm :: footL L, i ∉ F) : NetAt B w' bn bm most last L := by
  obtain ⟨n, D, ho, hn, hk⟩ := h.hmap
  refine ⟨(ht.block bn (lt_of_block h.head) (hF bn (by simp))).trans h.head, ⟨n, D, ownsMap_turns ho ht (hF bm (by simp)), hn, hk⟩, fun x hx => ?_, h.low, h.apart, h.ids, h.rise⟩
  obtain ⟨c1, c2, c3⟩ := h.conns x hx
  have hf : ∀ i ∈ x.2.foot, i ∉ F := fun i hi => hF i (by simp; exact .inr (.inr (mem_footL.2 ⟨x, hx, hi⟩)))
  refine ⟨(ht.block _ (lt_of_block c1) (hf _ (Pl.mem_foot.2 (.inl rfl)))).trans c1, c2.turns ht fun g hg => hf g (Pl.mem_foot.2 (.inr (.inl (by unfold ownB; rw [hg]; simp)))), c3.turns ht fun g hg => hf g (Pl.mem_foot.2 (.inr (.inr (by unfold ownB; rw [hg]; simp))))⟩
theorem footL_mid (L1 L2 : List NE) (x : NE) : footL (L1 ++ x :: L2) = footL L1 ++ (x.2.foot ++ footL L2) := by simp [footL]
theorem getE_mid {L1 L2 : List NE} {x x' : NE} (hid : x'.1.id = x.1.id) (hb : x'.2.b = x.2.b) (k : Int) : (getE (L1 ++ x' :: L2) k).map (fun y => y.2.b) = (getE (L1 ++ x :: L2) k).map (fun y => y.2.b) := by
  unfold getE
  rw [List.find?_append, List.find?_append]
  cases L1.find? fun x => decide ((x.1.id : Int) = k) with
  | some y => rfl
  | none =>
    rw [List.find?_cons, List.find?_cons, hid]
    split
    · simp [hb]
    · rfl
theorem Keys.mid {D : DataW Unit} {L1 L2 : List NE} {x x' : NE} (h : Keys D (L1 ++ x :: L2)) (hid : x'.1.id = x.1.id) (hb : x'.2.b = x.2.b) : Keys D (L1 ++ x' :: L2) := by
  have hm := fun k => getE_mid (L1 := L1) (L2 := L2) hid hb k
  refine ⟨fun k => ?_, fun k => ?_, by rw [h.size]; simp⟩
  · rw [h.has k]
    have := hm k
    cases h1 : getE (L1 ++ x' :: L2) k <;> cases h2 : getE (L1 ++ x :: L2) k <;> rw [h1, h2] at this <;> simp at this ⊢
  · rw [h.at_ k]
    have := hm k
    cases h1 : getE (L1 ++ x' :: L2) k <;> cases h2 : getE (L1 ++ x :: L2) k <;> rw [h1, h2] at this <;> simp at this ⊢
    rw [this]
/-- One connection turns. -/
theorem NetAt.turned {B : Nat} {w w' : World} {bn bm : Nat} {most last : Int} {L1 L2 : List NE} {x x' : NE} (h : NetAt B w bn bm most last (L1 ++ x :: L2)) (hid : x'.1.id = x.1.id) (hb : x'.2.b = x.2.b) (ht : Turns x.2.foot w w')
    (hc : w'.heap[x.2.b]? = some (.cells (cellsC x') 60 (0, 0))) (ho1 : Owned B w' x'.2.va x'.1.inn) (ho2 : Owned B w' x'.2.vs x'.1.out) (hf : ∀ i ∈ x'.2.foot, i ∈ x.2.foot ∨ w.heap.size ≤ i) (hnd : x'.2.foot.Nodup) :
    NetAt B w' bn bm most last (L1 ++ x' :: L2) := by
  have hlt := h.lt
  have hap := h.apart
  rw [footL_mid] at hlt hap
  simp only [List.nodup_cons, List.nodup_append, List.mem_cons, List.mem_append, not_or] at hap
  obtain ⟨⟨a1, a2, a3, a4⟩, ⟨b1, b2, b3⟩, d1, ⟨d2, d3, d4⟩, d5⟩ := hap
  obtain ⟨n, D, ho, hn, hk⟩ := h.hmap
  have hmem : ∀ y ∈ L1 ++ x' :: L2, y = x' ∨ (y ∈ L1 ∨ y ∈ L2) := fun y hy => by
    rcases List.mem_append.1 hy with h1 | h1
    · exact .inr (.inl h1)
    · rcases List.mem_cons.1 h1 with h2 | h2
      · exact .inl h2
      · exact .inr (.inr h2)
  have hold : ∀ y, y ∈ L1 ∨ y ∈ L2 → y ∈ L1 ++ x :: L2 := fun y hy => by
    rcases hy with h1 | h1
    · exact List.mem_append.2 (.inl h1)
    · exact List.mem_append.2 (.inr (List.mem_cons.2 (.inr h1)))
  have hxm : x ∈ L1 ++ x :: L2 := List.mem_append.2 (.inr (List.mem_cons_self ..))
  have hoff : ∀ y, y ∈ L1 ∨ y ∈ L2 → ∀ i ∈ y.2.foot, i ∉ x.2.foot := fun y hy i hi hx => by
    rcases hy with h1 | h1
    · exact d5 i (mem_footL.2 ⟨y, h1, hi⟩) i (.inl hx) rfl
    · exact d4 i hx i (mem_footL.2 ⟨y, h1, hi⟩) rfl
  have hnew : ∀ i ∈ x'.2.foot, ∀ j, j ∈ bn :: bm :: (footL L1 ++ (x.2.foot ++ footL L2)) → j ∉ x.2.foot → i ≠ j := fun i hi j hj hjx e => by
    subst e
    rcases hf i hi with h1 | h1
    · exact hjx h1
    · have := (hlt i hj).2
      omega
  refine ⟨(ht.block bn (lt_of_block h.head) a3).trans h.head, ⟨n, D, ownsMap_turns ho ht b2, hn, hk.mid hid hb⟩, fun y hy => ?_, ⟨h.low.1, h.low.2.1, fun y hy => ?_⟩, ?_, fun y hy => ?_, ?_⟩
  · rcases hmem y hy with rfl | hy
    · exact ⟨by rw [hb]; exact hc, ho1, ho2⟩
    · obtain ⟨c1, c2, c3⟩ := h.conns y (hold y hy)
      have hf := hoff y hy
      exact ⟨(ht.block _ (lt_of_block c1) (hf _ (Pl.mem_foot.2 (.inl rfl)))).trans c1, c2.turns ht fun g hg => hf g (Pl.mem_foot.2 (.inr (.inl (by unfold ownB; rw [hg]; simp)))), c3.turns ht fun g hg => hf g (Pl.mem_foot.2 (.inr (.inr (by unfold ownB; rw [hg]; simp))))⟩
  · rcases hmem y hy with rfl | hy
    · rw [hb]; exact h.low.2.2 x hxm
    · exact h.low.2.2 y (hold y hy)
  · rw [footL_mid]
    simp only [List.nodup_cons, List.nodup_append, List.mem_cons, List.mem_append, not_or]
    refine ⟨⟨a1, a2, fun hm => hnew _ hm bn (by simp) a3 rfl, a4⟩, ⟨b1, fun hm => hnew _ hm bm (by simp) b2 rfl, b3⟩, d1, ⟨hnd, d3, fun i hi j hj => hnew i hi j (by simp [hj]) (fun hx => d4 j hx j hj rfl)⟩, fun i hi j hj => ?_⟩
    rcases hj with hj | hj
    · exact (hnew j hj i (by simp [hi]) (fun hx => d5 i hi i (.inl hx) rfl)).symm
    · exact d5 i hi j (.inr hj)
  · rcases hmem y hy with rfl | hy
    · rw [hid]; exact h.ids x hxm
    · exact h.ids y (hold y hy)
  · have hr := h.rise
    rw [List.pairwise_append, List.pairwise_cons] at hr ⊢
    refine ⟨hr.1, ⟨fun y hy => by rw [hid]; exact hr.2.1.1 y hy, hr.2.1.2⟩, fun y hy z hz => ?_⟩
    rcases List.mem_cons.1 hz with rfl | hz
    · rw [hid]; exact hr.2.2 y hy x (List.mem_cons_self ..)
    · exact hr.2.2 y hy z (List.mem_cons.2 (.inr hz))
end Go.Proofs.Ytlelemjmknbnaaa
