/- Two pairs of windows, apart. -/
import Derived.Test.YtjkkpdflijjllaaWnPlaysW
namespace Go.Proofs.Ytjkkpdflijjllaa
open Go.RowKit

theorem alikeW_self (S : Ws) : alikeW S S = true := by unfold alikeW; simp
theorem alikeW_comm (S T : Ws) : alikeW S T = alikeW T S := by
  unfold alikeW
  exact decide_eq_decide.2 ⟨fun ⟨a, b, c, d, e, f, g, h⟩ => ⟨a.symm, b.symm, c.symm, d.symm, e.symm, f.symm, g.symm, h.symm⟩, fun ⟨a, b, c, d, e, f, g, h⟩ => ⟨a.symm, b.symm, c.symm, d.symm, e.symm, f.symm, g.symm, h.symm⟩⟩
/-- Two pairs, apart but for what is never written again. -/
def BothN (C : WiC) (w X : World) (p rv : Nat) (S : Ws) (q rq : Nat) (T : Ws) : Prop :=
  ∃ F G v F' G' v', C.At w.heap.size X p F S ∧ RefW w.heap.size X rv G v S ∧ C.At w.heap.size X q F' T ∧ RefW w.heap.size X rq G' v' T ∧ (∀ i ∈ F, i ∉ rv :: G) ∧ (∀ i ∈ F', i ∉ rq :: G') ∧ (∀ i ∈ F, i ∉ F' ∧ i ∉ rq :: G') ∧ (∀ i ∈ F', i ∉ rv :: G) ∧ rv ≠ rq ∧ rv ∉ G' ∧ rq ∉ G ∧ Turns [] w X
/-- Windows that are copied, the document's not yet. -/
def MidN (C : WiC) (w X : World) (p rv : Nat) (S : Ws) (q : Nat) : Prop :=
  ∃ F G v F' Z, C.At w.heap.size X p F S ∧ RefW w.heap.size X rv G v S ∧ C.At Z X q F' S ∧ (∀ i ∈ F, i ∉ rv :: G) ∧ (∀ i ∈ F ++ rv :: G, i < Z) ∧ w.heap.size ≤ Z ∧ Turns [] w X
section
variable {C : WiC} {b : Base} {w X Y Z : World} {p rv q rq N M : Nat} {S T : Ws}
theorem BothN.turns (h : BothN C w X p rv S q rq T) : Turns [] w X := by
  obtain ⟨F, G, v, F', G', v', _, _, _, _, _, _, _, _, _, _, _, h⟩ := h
  exact h
theorem BothN.pre (h : BothN C w X p rv S q rq T) (ht : Turns [] X Y) : BothN C w Y p rv S q rq T := by
  obtain ⟨F, G, v, F', G', v', a1, a2, a3, a4, d1, d2, d3, d4, d5, d6, d7, t⟩ := h
  exact ⟨F, G, v, F', G', v', C.pre a1 ht, a2.pre ht, C.pre a3 ht, a4.pre ht, d1, d2, d3, d4, d5, d6, d7, t.then ht⟩
theorem BothN.swap (h : BothN C w X p rv S q rq T) : BothN C w X q rq T p rv S := by
  obtain ⟨F, G, v, F', G', v', a1, a2, a3, a4, d1, d2, d3, d4, d5, d6, d7, t⟩ := h
  exact ⟨F', G', v', F, G, v, a3, a4, a1, a2, d2, d1, fun i hi => ⟨fun hm => (d3 i hm).1 hi, d4 i hi⟩, fun i hi => (d3 i hi).2, d5.symm, d7, d6, t⟩
/-- The first pair, the second one beside it. -/
theorem bothN_open (h : BothN C w X p rv S q rq T) : ∃ (b : Base) (Q : List Nat), b.w = w ∧ PairN C Q b X p S rv S ∧ ∀ Y S', PairN C Q b Y p S' rv S' → BothN C w Y p rv S' q rq T := by
  obtain ⟨F, G, v, F', G', v', a1, a2, a3, a4, d1, d2, d3, d4, d5, d6, d7, t⟩ := h
  have hlt : ∀ k ∈ F' ++ rq :: G', k < X.heap.size := fun k hk => by
    rcases List.mem_append.1 hk with h | h
    · exact (C.foot a3 k h).2
    · exact (a4.foot' k h).2
  refine ⟨⟨w, F' ++ rq :: G', X⟩, rq :: F', rfl, ⟨F, G, v, a1, a2, d1, t, ⟨Nat.le_refl _, fun k hk => ⟨hlt k hk, fun hm => ?_, rfl⟩⟩, fun i hi => ?_⟩, fun Y S' hY => ?_⟩
  · rcases List.mem_append.1 hm with h1 | h1
    · rcases List.mem_append.1 hk with h | h
      · exact (d3 k h1).1 h
      · exact (d3 k h1).2 h
    · rw [List.mem_singleton] at h1
      subst h1
      rcases List.mem_append.1 hk with h | h
      · exact d4 k h (by simp)
      · rcases List.mem_cons.1 h with h | h
        · exact d5 h
        · exact d6 h
  · rcases List.mem_cons.1 hi with rfl | h
    · exact ⟨a4.lt, d7⟩
    · exact ⟨(C.foot a3 i h).2, fun hm => d4 i h (by simp [hm])⟩
  · obtain ⟨F1, G1, v1, b1, b2, e1, ty, s, hq⟩ := hY
    have hb := turns_but t ty s.1 (K := F' ++ rq :: G') fun k hk => s.block hk
    refine ⟨F1, G1, v1, F', G', v', b1, b2, C.turns a3 hb fun i hi => not_but (List.mem_append.2 (.inl hi)), a4.turns hb (not_but (List.mem_append.2 (.inr (by simp)))) (fun i hi => not_but (List.mem_append.2 (.inr (by simp [hi])))), e1, d2, fun i hi => ⟨fun hm => (s.2 i (List.mem_append.2 (.inl hm))).2.1 (List.mem_append.2 (.inl hi)), fun hm => (s.2 i (List.mem_append.2 (.inr hm))).2.1 (List.mem_append.2 (.inl hi))⟩, fun i hi hm => ?_, d5, d6, (hq rq (by simp)).2, ty⟩
    rcases List.mem_cons.1 hm with h | h
    · exact (s.2 i (List.mem_append.2 (.inl hi))).2.1 (List.mem_append.2 (.inr (by simp [h])))
    · exact (hq i (by simp [hi])).2 h
theorem pairN_copy (h : PairN C [] (.plain w) X p S rv S) (hok : WsOk S N) (hN : N ≤ 1000) :
    Calls Try.prog 20 #[ptrW p] X fun e Y => ∃ q, e = .returned (ptrW q) ∧ MidN C w Y p rv S q := by
  obtain ⟨F, G, v, a1, a2, d, t, _, _⟩ := h
  refine (C.copy a1 hok hN).mono ?_
  rintro e Y ⟨q, F', rfl, a3, ty⟩
  exact ⟨q, rfl, F, G, v, F', X.heap.size, C.pre a1 ty, a2.pre ty, a3, d, fun i hi => by
    rcases List.mem_append.1 hi with h | h
    · exact (C.foot a1 i h).2
    · exact (a2.foot' i h).2, t.size, t.then ty⟩
theorem midN_copy (h : MidN C w X p rv S q) :
    Calls Try.prog 21 #[ptrW rv] X fun e Y => ∃ rq, e = .returned (ptrW rq) ∧ BothN C w Y p rv S q rq S := by
  obtain ⟨F, G, v, F', Z, a1, a2, a3, d1, d2, d3, t⟩ := h
  refine (rcopyW_any a2).mono ?_
  rintro e Y ⟨rfl, a4, ty⟩
  have f3 := C.foot a3
  have f1 := C.foot a1
  have f2 := a2.foot'
  have hF := fun i (hi : i ∈ F) => d2 i (List.mem_append.2 (.inl hi))
  have hG := fun i (hi : i ∈ rv :: G) => d2 i (List.mem_append.2 (.inr hi))
  refine ⟨_, rfl, F, G, v, F', G, v, C.pre a1 ty, a2.pre ty, C.low (C.pre a3 ty) d3, a4, d1, fun i hi hm => ?_, fun i hi => ⟨fun hm => ?_, fun hm => ?_⟩, fun i hi hm => ?_, fun e => ?_, a2.ne, fun hm => ?_, t.then ty⟩
  · rcases List.mem_cons.1 hm with h | h
    · have := (f3 i hi).2; omega
    · have := (f3 i hi).1
      have := hG i (by simp [h])
      omega
  · have := (f3 i hm).1
    have := hF i hi
    omega
  · rcases List.mem_cons.1 hm with h | h
    · have := (f1 i hi).2; omega
    · exact d1 i hi (by simp [h])
  · have := (f3 i hi).1
    have := hG i hm
    omega
  · have := a2.lt; omega
  · have := (f2 _ (List.mem_cons_of_mem _ hm)).2; omega
theorem bothN_same (h : BothN C w X p rv S q rq T) (h1 : WsOk S N) (h2 : WsOk T M) (hN : N ≤ 1000) (hM : M ≤ 1000) :
    Calls Try.prog 22 #[ptrW p, ptrW q] X fun e Y => e = .returned (.bool (alikeW S T)) ∧ Turns [] X Y := by
  obtain ⟨F, G, v, F', G', v', a1, a2, a3, a4, _⟩ := h
  exact C.same a1 a3 h1 h2 hN hM
theorem bothN_alike (h : BothN C w X p rv S q rq T) :
    Calls Try.prog 23 #[ptrW rv, ptrW rq] X fun e Y => e = .returned (.bool (alikeW S T)) ∧ Turns [] X Y := by
  obtain ⟨F, G, v, F', G', v', a1, a2, a3, a4, _⟩ := h
  exact ralikeW_any a2 a4
theorem bothN_look (h : BothN C w X p rv S q rq T) (h1 : WsOk S N) (hN : N ≤ 1000) :
    Calls Try.prog 13 #[ptrW p, ptrW rv] X fun e Y => e = .returned (.bool true) ∧ Turns [] X Y := by
  obtain ⟨b, Q, _, hp, _⟩ := bothN_open h
  exact sameN_any C hp h1 hN
end
end Go.Proofs.Ytjkkpdflijjllaa
