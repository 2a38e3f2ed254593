/- Two pairs of stores, apart. -/
import Derived.Test.YtadndefbdofodaaStPlaysW
namespace Go.Proofs.Ytadndefbdofodaa
open Go.RowKit

/-- Two pairs, apart. -/
def BothX (C : StC) (w X : World) (m p : Nat) (La : List One) (rv : Nat) (Lb : List One) (q : Nat) (Lc : List One) (rq : Nat) (Ld : List One) : Prop :=
  ∃ F v G u, C.At w.heap.size X p F m La ∧ RefS w.heap.size X rv v m Lb ∧ C.At w.heap.size X q G m Lc ∧ RefS w.heap.size X rq u m Ld ∧ (∀ i ∈ F, i ∉ rv :: ownB v) ∧ (∀ i ∈ G, i ∉ rq :: ownB u) ∧ (∀ i ∈ F ++ rv :: ownB v, i ∉ G ++ rq :: ownB u) ∧ Turns [] w X
/-- A store that is copied, the document's not yet. -/
def MidX (C : StC) (w X : World) (m p : Nat) (La : List One) (rv : Nat) (Lb : List One) (q : Nat) (Lc : List One) : Prop :=
  ∃ F v G Z, C.At w.heap.size X p F m La ∧ RefS w.heap.size X rv v m Lb ∧ C.At Z X q G m Lc ∧ (∀ i ∈ F, i ∉ rv :: ownB v) ∧ (∀ i ∈ F ++ rv :: ownB v, i < Z) ∧ w.heap.size ≤ Z ∧ Turns [] w X
section
variable {C : StC} {b : Base} {w X Y Z : World} {m p rv q rq m1 m2 : Nat} {L1 L2 La Lb Lc Ld : List One}
theorem pair_put0 (hp : PairX C b X p m1 L1 rv m2 L2) {l : List Smp} {A : Option Addr} {c : Nat} (hl : L1.length + l.length ≤ 90000) (hc : l.length ≤ c) (hm : c ≤ maxLen) (hr : sK.Reads X X.heap.size A l)
    (hA : l = [] ∨ ∀ a, A = some a → a.block < b.w.heap.size) (owner : Int) (ho : -9223372036854775808 ≤ owner ∧ owner ≤ 9223372036854775807) (hok : ∀ x ∈ l, x.Ok) :
    Calls Try.prog 12 #[ptr p, .int .i64 owner, .slice A l.length c] X fun e Z => (∃ o, e = .returned o) ∧ PairX C b Z p m1 (putP m1 owner l L1).2 rv m2 L2 := by
  obtain ⟨F, v, a1, a2, d, t, s⟩ := hp
  refine (C.put a1 t.size hl hc hm hr (hA.imp id fun hA a' e hF => by have := hA a' e; have := (C.foot a1 _ hF).1; omega) owner ho hok).mono ?_
  rintro e Z ⟨o, F', rfl, ho, a', tz, hf, hof⟩
  refine ⟨⟨o, rfl⟩, F', v, a', a2.turns tz (fun hm => d _ hm (List.mem_cons_self ..)) (fun i hi hm => d i hm (List.mem_cons_of_mem _ hi)), fun i hi hm => ?_, t.trans tz fun i hi => .inr (C.foot a1 i hi).1, s.next tz (fun i hi => List.mem_append.2 (.inl hi)) fun i hi => ?_⟩
  · rcases hf i hi with h | h
    · exact d i h hm
    · have := (a2.foot i hm).2
      omega
  · rcases List.mem_append.1 hi with h | h
    · exact (hf i h).imp (fun h => List.mem_append.2 (.inl h)) id
    · exact .inl (List.mem_append.2 (.inr h))
theorem BothX.turns (h : BothX C w X m p La rv Lb q Lc rq Ld) : Turns [] w X := by
  obtain ⟨F, v, G, u, _, _, _, _, _, _, _, h⟩ := h
  exact h
theorem BothX.pre (h : BothX C w X m p La rv Lb q Lc rq Ld) (ht : Turns [] X Y) : BothX C w Y m p La rv Lb q Lc rq Ld := by
  obtain ⟨F, v, G, u, a1, a2, a3, a4, d1, d2, d3, t⟩ := h
  exact ⟨F, v, G, u, C.pre a1 ht, a2.pre ht, C.pre a3 ht, a4.pre ht, d1, d2, d3, t.then ht⟩
theorem BothX.swap (h : BothX C w X m p La rv Lb q Lc rq Ld) : BothX C w X m q Lc rq Ld p La rv Lb := by
  obtain ⟨F, v, G, u, a1, a2, a3, a4, d1, d2, d3, t⟩ := h
  exact ⟨G, u, F, v, a3, a4, a1, a2, d2, d1, fun i hi hm => d3 i hm hi, t⟩
/-- The first pair, the second one beside it. -/
theorem both_open (h : BothX C w X m p La rv Lb q Lc rq Ld) : ∃ b : Base, b.w = w ∧ PairX C b X p m La rv m Lb ∧ ∀ Y La' Lb', PairX C b Y p m La' rv m Lb' → BothX C w Y m p La' rv Lb' q Lc rq Ld := by
  obtain ⟨F, v, G, u, a1, a2, a3, a4, d1, d2, d3, t⟩ := h
  refine ⟨⟨w, G ++ rq :: ownB u, X⟩, rfl, ⟨F, v, a1, a2, d1, t, Nat.le_refl _, fun k hk => ⟨?_, fun hm => d3 k hm hk, rfl⟩⟩, fun Y La' Lb' hY => ?_⟩
  · rcases List.mem_append.1 hk with h | h
    · exact (C.foot a3 k h).2
    · exact (a4.foot k h).2
  · obtain ⟨F', v', b1, b2, e1, ty, s⟩ := hY
    have hb := turns_but t ty s.1 (K := G ++ rq :: ownB u) fun k hk => s.block hk
    exact ⟨F', v', G, u, b1, b2, C.turns a3 hb fun i hi => not_but (List.mem_append.2 (.inl hi)), a4.turns hb (not_but (by simp)) fun i hi => not_but (by simp [hi]), e1, d2, fun i hi hm => (s.2 i hm).2.1 hi, ty⟩
theorem pair_copyS (h : PairX C (.plain w) X p m La rv m Lb) (hl : La.length ≤ 90000) :
    Calls Try.prog 16 #[ptr p] X fun e Y => ∃ q, e = .returned (ptr q) ∧ MidX C w Y m p La rv Lb q La := by
  obtain ⟨F, v, a1, a2, d, t, _⟩ := h
  refine (C.copy a1 hl).mono ?_
  rintro e Y ⟨q, G, rfl, a3, ty⟩
  exact ⟨q, rfl, F, v, G, X.heap.size, C.pre a1 ty, a2.pre ty, a3, d, fun i hi => by
    rcases List.mem_append.1 hi with h | h
    · exact (C.foot a1 i h).2
    · exact (a2.foot i h).2, t.size, t.then ty⟩
theorem mid_copyS (h : MidX C w X m p La rv Lb q Lc) (hl : Lb.length ≤ 90000) :
    Calls Try.prog 17 #[ptr rv] X fun e Y => ∃ rq, e = .returned (ptr rq) ∧ BothX C w Y m p La rv Lb q Lc rq Lb := by
  obtain ⟨F, v, G, Z, a1, a2, a3, d1, d2, d3, t⟩ := h
  refine (rcopyS_any a2 hl).mono ?_
  rintro e Y ⟨⟨rq, u, rfl, a4⟩, ty⟩
  have f4 := fun i hi => (a4.foot i hi).1
  have f3 := C.foot a3
  have hZ : ∀ i ∈ F ++ rv :: ownB v, i < X.heap.size := fun i hi => by
    rcases List.mem_append.1 hi with h | h
    · exact (C.foot a1 i h).2
    · exact (a2.foot i h).2
  refine ⟨rq, rfl, F, v, G, u, C.pre a1 ty, a2.pre ty, C.low (C.pre a3 ty) d3, ⟨a4.head, a4.own.low t.size, Nat.le_trans t.size a4.low, a4.ne⟩, d1, fun i hi hm => ?_, fun i hi hm => ?_, t.then ty⟩
  · have := (f3 i hi).2
    have := f4 i hm
    omega
  · have h1 := d2 i hi
    have h2 := hZ i hi
    rcases List.mem_append.1 hm with h | h
    · have := (f3 i h).1; omega
    · have := f4 i h; omega
theorem both_sameS (h : BothX C w X m p La rv Lb q Lc rq Ld) (h1 : La.length ≤ 90000) (h2 : Lc.length ≤ 90000) :
    Calls Try.prog 18 #[ptr p, ptr q] X fun e Y => e = .returned (.bool (decide (La = Lc))) ∧ Turns [] X Y := by
  obtain ⟨F, v, G, u, a1, a2, a3, a4, _⟩ := h
  have := C.same a1 a3 h1 h2
  rwa [show decide (m = m ∧ La = Lc) = decide (La = Lc) by simp] at this
theorem both_alikeS (h : BothX C w X m p La rv Lb q Lc rq Ld) (h1 : Lb.length ≤ 90000) (h2 : Ld.length ≤ 90000) :
    Calls Try.prog 19 #[ptr rv, ptr rq] X fun e Y => e = .returned (.bool (decide (Lb = Ld))) ∧ Turns [] X Y := by
  obtain ⟨F, v, G, u, a1, a2, a3, a4, _⟩ := h
  have := ralike_any a2 a4 h1 h2
  rwa [show decide (m = m ∧ Lb = Ld) = decide (Lb = Ld) by simp] at this
theorem both_lookS (h : BothX C w X m p La rv La q Lc rq Ld) (hl : La.length ≤ 900) (leave : Int) :
    Calls Try.prog 11 #[ptr p, ptr rv, .int .i64 leave] X fun e Y => e = .returned (.bool true) ∧ Turns [] X Y := by
  obtain ⟨b, _, hp, _⟩ := both_open h
  exact pair_look hp hl leave
end
end Go.Proofs.Ytadndefbdofodaa
