/- Two pairs of meters, apart. -/
import Derived.Test.YtcjmieofmogeiaaDlPlaysW
namespace Go.Proofs.Ytcjmieofmogeiaa
open Go.RowKit

theorem Tl.Le.mono {T : Tl} {N M : Nat} (h : T.Le N) (hm : N ≤ M) : T.Le M := by
  obtain ⟨h1, h2, h3, h4, h5, h6, h7⟩ := h
  unfold Tl.Le
  omega
/-- Two pairs, apart. -/
def BothM (C : MeC) (w X : World) (m p rm : Nat) (Ta : Tl) (La : List One) (q rq : Nat) (Tc : Tl) (Lc : List One) : Prop :=
  ∃ F rs v G rt u, C.At w.heap.size X p F m Ta La ∧ RefM w.heap.size X rm Ta rs v m La ∧ C.At w.heap.size X q G m Tc Lc ∧ RefM w.heap.size X rq Tc rt u m Lc ∧ (∀ i ∈ F, i ∉ rm :: rs :: ownB v) ∧ (∀ i ∈ G, i ∉ rq :: rt :: ownB u) ∧ (∀ i ∈ F ++ rm :: rs :: ownB v, i ∉ G ++ rq :: rt :: ownB u) ∧ Turns [] w X
/-- A meter that is copied, the document's not yet. -/
def MidM (C : MeC) (w X : World) (m p rm : Nat) (Ta : Tl) (La : List One) (q : Nat) : Prop :=
  ∃ F rs v G Z, C.At w.heap.size X p F m Ta La ∧ RefM w.heap.size X rm Ta rs v m La ∧ C.At Z X q G m Ta La ∧ (∀ i ∈ F, i ∉ rm :: rs :: ownB v) ∧ (∀ i ∈ F ++ rm :: rs :: ownB v, i < Z) ∧ w.heap.size ≤ Z ∧ Turns [] w X
section
variable {C : MeC} {b : Base} {w X Y Z : World} {m p rm q rq : Nat} {Ta Tc : Tl} {La Lc : List One}
theorem BothM.turns (h : BothM C w X m p rm Ta La q rq Tc Lc) : Turns [] w X := by
  obtain ⟨F, rs, v, G, rt, u, _, _, _, _, _, _, _, h⟩ := h
  exact h
theorem BothM.pre (h : BothM C w X m p rm Ta La q rq Tc Lc) (ht : Turns [] X Y) : BothM C w Y m p rm Ta La q rq Tc Lc := by
  obtain ⟨F, rs, v, G, rt, u, a1, a2, a3, a4, d1, d2, d3, t⟩ := h
  exact ⟨F, rs, v, G, rt, u, C.pre a1 ht, a2.pre ht, C.pre a3 ht, a4.pre ht, d1, d2, d3, t.then ht⟩
theorem BothM.swap (h : BothM C w X m p rm Ta La q rq Tc Lc) : BothM C w X m q rq Tc Lc p rm Ta La := by
  obtain ⟨F, rs, v, G, rt, u, a1, a2, a3, a4, d1, d2, d3, t⟩ := h
  exact ⟨G, rt, u, F, rs, v, a3, a4, a1, a2, d2, d1, fun i hi hm => d3 i hm hi, t⟩
/-- The first pair, the second one beside it. -/
theorem bothM_open (h : BothM C w X m p rm Ta La q rq Tc Lc) : ∃ b : Base, b.w = w ∧ PairM C b X p m Ta La rm Ta La ∧ ∀ Y T L, PairM C b Y p m T L rm T L → BothM C w Y m p rm T L q rq Tc Lc := by
  obtain ⟨F, rs, v, G, rt, u, a1, a2, a3, a4, d1, d2, d3, t⟩ := h
  refine ⟨⟨w, G ++ rq :: rt :: ownB u, X⟩, rfl, ⟨F, rs, v, a1, a2, d1, t, Nat.le_refl _, fun k hk => ⟨?_, fun hm => d3 k hm hk, rfl⟩⟩, fun Y T L hY => ?_⟩
  · rcases List.mem_append.1 hk with h | h
    · exact (C.foot a3 k h).2
    · exact (a4.foot k h).2
  · obtain ⟨F', rs', v', b1, b2, e1, ty, s⟩ := hY
    have hb := turns_but t ty s.1 (K := G ++ rq :: rt :: ownB u) fun k hk => s.block hk
    exact ⟨F', rs', v', G, rt, u, b1, b2, C.turns a3 hb fun i hi => not_but (List.mem_append.2 (.inl hi)), a4.turns hb fun i hi => not_but (List.mem_append.2 (.inr hi)), e1, d2, fun i hi hm => (s.2 i hm).2.1 hi, ty⟩
theorem pairM_copy (h : PairM C (.plain w) X p m Ta La rm Ta La) (hl : La.length ≤ 90000) :
    Calls Try.prog 19 #[ptr p] X fun e Y => ∃ q, e = .returned (ptr q) ∧ MidM C w Y m p rm Ta La q := by
  obtain ⟨F, rs, v, a1, a2, d, t, _⟩ := h
  refine (C.copy a1 hl).mono ?_
  rintro e Y ⟨q, G, rfl, a3, ty⟩
  exact ⟨q, rfl, F, rs, v, G, X.heap.size, C.pre a1 ty, a2.pre ty, a3, d, fun i hi => by
    rcases List.mem_append.1 hi with h | h
    · exact (C.foot a1 i h).2
    · exact (a2.foot i h).2, t.size, t.then ty⟩
theorem midM_copy (h : MidM C w X m p rm Ta La q) (hl : La.length ≤ 90000) :
    Calls Try.prog 20 #[ptr rm] X fun e Y => ∃ rq, e = .returned (ptr rq) ∧ BothM C w Y m p rm Ta La q rq Ta La := by
  obtain ⟨F, rs, v, G, Z, a1, a2, a3, d1, d2, d3, t⟩ := h
  refine (rcopyM_any a2 hl).mono ?_
  rintro e Y ⟨⟨rq, rt, u, rfl, a4⟩, ty⟩
  have f4 := fun i hi => (a4.foot i hi).1
  have f3 := C.foot a3
  have hZ : ∀ i ∈ F ++ rm :: rs :: ownB v, i < X.heap.size := fun i hi => by
    rcases List.mem_append.1 hi with h | h
    · exact (C.foot a1 i h).2
    · exact (a2.foot i h).2
  refine ⟨rq, rfl, F, rs, v, G, rt, u, C.pre a1 ty, a2.pre ty, C.low (C.pre a3 ty) d3, ⟨a4.head, ⟨a4.store.head, a4.store.own.low t.size, Nat.le_trans t.size a4.store.low, a4.store.ne⟩, Nat.le_trans t.size a4.low, a4.ne⟩, d1, fun i hi hm => ?_, fun i hi hm => ?_, t.then ty⟩
  · have := (f3 i hi).2
    have := f4 i hm
    omega
  · have h1 := d2 i hi
    have h2 := hZ i hi
    rcases List.mem_append.1 hm with h | h
    · have := (f3 i h).1; omega
    · have := f4 i h; omega
theorem bothM_same (h : BothM C w X m p rm Ta La q rq Tc Lc) (h1 : La.length ≤ 90000) (h2 : Lc.length ≤ 90000) :
    Calls Try.prog 21 #[ptr p, ptr q] X fun e Y => e = .returned (.bool (decide (Ta = Tc ∧ La = Lc))) ∧ Turns [] X Y := by
  obtain ⟨F, rs, v, G, rt, u, a1, a2, a3, a4, _⟩ := h
  have := C.same a1 a3 h1 h2
  rwa [show decide (m = m ∧ Ta = Tc ∧ La = Lc) = decide (Ta = Tc ∧ La = Lc) by simp] at this
theorem bothM_alike (h : BothM C w X m p rm Ta La q rq Tc Lc) (h1 : La.length ≤ 90000) (h2 : Lc.length ≤ 90000) :
    Calls Try.prog 22 #[ptr rm, ptr rq] X fun e Y => e = .returned (.bool (decide (Ta = Tc ∧ La = Lc))) ∧ Turns [] X Y := by
  obtain ⟨F, rs, v, G, rt, u, a1, a2, a3, a4, _⟩ := h
  have := ralikeM_any a2 a4 h1 h2
  rwa [show decide (Ta = Tc ∧ m = m ∧ La = Lc) = decide (Ta = Tc ∧ La = Lc) by simp] at this
end
end Go.Proofs.Ytcjmieofmogeiaa
