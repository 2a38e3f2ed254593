/- The program's put. -/
import Derived.Test.YtaepgcicgmbbeaaWhGet
import Derived.Deep.RegionLaw
namespace Go.Proofs.Ytaepgcicgmbbeaa
open Go.RowKit

def Sl.val (S : Sl) (k : Int) : Value := match S k with | some q => q.1 | none => .slice none 0 0
theorem Laid.owns {B : Nat} {w : World} {bw : Nat} {T : Int} {L : List Fi} {F : List Nat} {bs bp : Nat} {S : Sl} {P : Pc} (h : Laid B w bw T L F bs bp S P) (k : Int) :
    fK.Own B w (S.val k) (S.at_ k) ∧ (∀ i ∈ ownB (S.val k), i ∈ F ∧ i ≠ bw ∧ i ≠ bs ∧ i ≠ bp ∧ ∀ k' v' l', k' ≠ k → S k' = some (v', l') → i ∉ ownB v') ∧ ((S k).map (·.1)).getD (.slice none 0 0) = S.val k ∧ (S.at_ k).length ≤ L.length := by
  have hp := (h.perm k).length_eq
  have hl : (S.at_ k).length ≤ L.length := by rw [hp]; exact List.length_filter_le _ _
  cases e : S k with
  | none =>
    have e1 : S.val k = .slice none 0 0 := by unfold Sl.val; rw [e]
    have e2 : S.at_ k = [] := by unfold Sl.at_; rw [e]
    rw [e1, e2]
    exact ⟨EK.Own.nil _ _ (Nat.zero_le _), fun i hi => by simp [ownB, Value.ownBlock] at hi, rfl, by simp⟩
  | some q =>
    have e1 : S.val k = q.1 := by unfold Sl.val; rw [e]
    have e2 : S.at_ k = q.2 := by unfold Sl.at_; rw [e]
    rw [e1, e2]
    exact ⟨(h.own k q.1 q.2 e).1, h.apart k q.1 q.2 e, rfl, by rw [e2] at hl; exact hl⟩
/-- What put leaves. -/
theorem Laid.put {B : Nat} {w w' : World} {bw : Nat} {T : Int} {L : List Fi} {F : List Nat} {bs bp : Nat} {S : Sl} {P : Pc} (h : Laid B w bw T L F bs bp S P) (hF : ∀ i ∈ F, B ≤ i ∧ i < w.heap.size) {x : Fi} (hx : ∀ y ∈ L, y.1 ≠ x.1) {v' : Value} {G : List Nat}
    (ht : Turns G w w') (hG : ∀ i ∈ G, i = bs ∨ i = bp ∨ i ∈ ownB (S.val (part x.2))) (hp : MapV 3 aread w' bp (fun y => if y = x.1 then some (placeV (part x.2, (S.at_ (part x.2)).length)) else (P y).map placeV) (L.length + 1))
    (ho : fK.Own B w' v' (S.at_ (part x.2) ++ [x])) (hv : ∀ i ∈ ownB v', i ∈ ownB (S.val (part x.2)) ∨ w.heap.size ≤ i) (hs : ∃ n, MapV 2 sread w' bs (fun y => if y = part x.2 then some v' else (S y).map (·.1)) n) :
    ∃ F' : List Nat, (∀ i ∈ F', (B ≤ i ∧ i < w'.heap.size)) ∧ (∀ i ∈ F', i ∈ F ∨ w.heap.size ≤ i) ∧ (∀ i ∈ F, i ∈ F') ∧ ∃ S' P', Laid B w' bw T (x :: L) F' bs bp S' P' := by
  obtain ⟨hown, hap, _, _⟩ := h.owns (part x.2)
  obtain ⟨d1, d2, d3, f1, f2, f3⟩ := h.heads
  have hGF : ∀ i ∈ G, i ∈ F := fun i hi => by
    rcases hG i hi with rfl | rfl | hi
    · exact f2
    · exact f3
    · exact (hap i hi).1
  have hbwG : bw ∉ G := fun hm => by
    rcases hG bw hm with e | e | e
    · exact d1 e
    · exact d2 e
    · exact (hap bw e).2.1 rfl
  refine ⟨F ++ ownB v', fun i hi => ?_, fun i hi => ?_, fun i hi => List.mem_append.2 (.inl hi), fun k => if k = part x.2 then some (v', S.at_ (part x.2) ++ [x]) else S k, fun id => if id = x.1 then some (part x.2, (S.at_ (part x.2)).length) else P id, ?_⟩
  · rcases List.mem_append.1 hi with hi | hi
    · exact ⟨(hF i hi).1, Nat.lt_of_lt_of_le (hF i hi).2 ht.size⟩
    · exact ho.foot i hi
  · rcases List.mem_append.1 hi with hi | hi
    · exact .inl hi
    · rcases hv i hi with h1 | h1
      · exact .inl (hap i h1).1
      · exact .inr h1
  have hnew : ∀ i ∈ ownB v', i ≠ bw ∧ i ≠ bs ∧ i ≠ bp ∧ ∀ k' v'' l', k' ≠ part x.2 → S k' = some (v'', l') → i ∉ ownB v'' := fun i hi => by
    rcases hv i hi with h1 | h1
    · exact (hap i h1).2
    · refine ⟨fun e => ?_, fun e => ?_, fun e => ?_, fun k' v'' l' hk e hm => ?_⟩
      · have := (hF bw f1).2; omega
      · have := (hF bs f2).2; omega
      · have := (hF bp f3).2; omega
      · have := (hF i (h.apart k' v'' l' e i hm).1).2; omega
  have hold : ∀ k' v'' l', k' ≠ part x.2 → S k' = some (v'', l') → ∀ i ∈ ownB v'', i ∉ G := fun k' v'' l' hk e i hi hm => by
    have ha := h.apart k' v'' l' e i hi
    rcases hG i hm with e' | e' | e'
    · exact ha.2.2.1 e'
    · exact ha.2.2.2.1 e'
    · exact (hap i e').2.2.2.2 k' v'' l' hk e hi
  have hat : ∀ k, Sl.at_ (fun k => if k = part x.2 then some (v', S.at_ (part x.2) ++ [x]) else S k) k = if k = part x.2 then S.at_ (part x.2) ++ [x] else S.at_ k := fun k => by
    unfold Sl.at_
    by_cases hk : k = part x.2
    · simp [hk]
    · simp [hk]
  refine ⟨(ht.block bw (hF bw f1).2 hbwG).trans h.head, ?_, ?_, fun k v l e => ?_, fun k v l e i hi => ?_, ⟨d1, d2, d3, List.mem_append.2 (.inl f1), List.mem_append.2 (.inl f2), List.mem_append.2 (.inl f3)⟩, fun k => ?_, fun id p i => ?_⟩
  · obtain ⟨n, hs⟩ := hs
    refine ⟨n, hs.congr fun y => ?_⟩
    by_cases hy : y = part x.2
    · simp [hy]
    · simp [hy]
  · refine hp.congr fun y => ?_
    by_cases hy : y = x.1
    · simp [hy]
    · simp [hy]
  · try simp only at e
    by_cases hk : k = part x.2
    · rw [if_pos hk] at e
      cases e
      exact ⟨ho, by simp⟩
    · rw [if_neg hk] at e
      exact ⟨(h.own k v l e).1.turns ht fun g hg => hold k v l hk e g (by unfold ownB; rw [hg]; simp), (h.own k v l e).2⟩
  · try simp only at e
    by_cases hk : k = part x.2
    · rw [if_pos hk] at e
      cases e
      obtain ⟨n1, n2, n3, n4⟩ := hnew i hi
      refine ⟨List.mem_append.2 (.inr hi), n1, n2, n3, fun k' v'' l' hk' e' => ?_⟩
      try simp only at e'
      rw [if_neg (fun h => hk' (h.trans hk.symm))] at e'
      exact n4 k' v'' l' (fun h => hk' (h.trans hk.symm)) e'
    · rw [if_neg hk] at e
      obtain ⟨n0, n1, n2, n3, n4⟩ := h.apart k v l e i hi
      refine ⟨List.mem_append.2 (.inl n0), n1, n2, n3, fun k' v'' l' hk' e' => ?_⟩
      try simp only at e'
      by_cases hk2 : k' = part x.2
      · rw [if_pos hk2] at e'
        cases e'
        exact fun hm => (hnew i hm).2.2.2 k v l hk e hi
      · rw [if_neg hk2] at e'
        exact n4 k' v'' l' hk' e'
  · rw [hat k]
    by_cases hk : k = part x.2
    · subst hk
      rw [if_pos rfl, List.filter_cons_of_pos (by simp)]
      exact List.perm_append_comm.trans (List.Perm.cons x (h.perm _))
    · rw [if_neg hk, List.filter_cons_of_neg (by simp; exact fun e => hk e.symm)]
      exact h.perm k
  · try simp only
    have hxL : ∀ (v : Value) (l : List Fi) (i : Nat) (y : Fi), S (part x.2) = some (v, l) → l[i]? = some y → y.1 ≠ x.1 := fun v l i y e hi => hx y ((h.mem e y).1 (List.mem_of_getElem? hi)).1
    have hel : ∀ (j : Nat) (y : Fi), (S.at_ (part x.2) ++ [x])[j]? = some y ↔ ((∃ v l, S (part x.2) = some (v, l) ∧ l[j]? = some y) ∨ (j = (S.at_ (part x.2)).length ∧ y = x)) := fun j y => by
      have h0 : (S.at_ (part x.2))[j]? = some y ↔ ∃ v l, S (part x.2) = some (v, l) ∧ l[j]? = some y := by
        unfold Sl.at_
        cases e : S (part x.2) with
        | none => simp
        | some q => exact ⟨fun h => ⟨q.1, q.2, rfl, h⟩, fun ⟨v, l, e', h⟩ => by cases e'; exact h⟩
      rw [← h0, List.getElem?_append]
      by_cases hj : j < (S.at_ (part x.2)).length
      · rw [if_pos hj]
        exact ⟨.inl, fun h => h.elim (fun h => h) (fun h => by omega)⟩
      · rw [if_neg hj, List.getElem?_eq_none (l := S.at_ (part x.2)) (by omega)]
        by_cases hj2 : j = (S.at_ (part x.2)).length
        · subst hj2
          simp [eq_comm]
        · rw [List.getElem?_eq_none (by simp; omega)]
          simp [hj2]
    by_cases hid : id = x.1
    · rw [if_pos hid]
      constructor
      · intro e
        cases e
        exact ⟨v', _, x, by rw [if_pos rfl], (hel _ _).2 (.inr ⟨rfl, rfl⟩), hid.symm⟩
      · rintro ⟨v, l, y, e, hi, hy⟩
        by_cases hk : p = part x.2
        · rw [if_pos hk] at e
          cases e
          rcases (hel _ _).1 hi with ⟨v, l, e1, e2⟩ | ⟨e1, e2⟩
          · exact absurd (hy.trans hid) (hxL v l i y e1 e2)
          · rw [hk, e1]
        · rw [if_neg hk] at e
          exact absurd (hy.trans hid) (hx y ((h.mem e y).1 (List.mem_of_getElem? hi)).1)
    · rw [if_neg hid, h.place id p i]
      constructor
      · rintro ⟨v, l, y, e, hi, hy⟩
        by_cases hk : p = part x.2
        · subst hk
          exact ⟨v', _, y, by rw [if_pos rfl], (hel _ _).2 (.inl ⟨v, l, e, hi⟩), hy⟩
        · exact ⟨v, l, y, by rw [if_neg hk]; exact e, hi, hy⟩
      · rintro ⟨v, l, y, e, hi, hy⟩
        by_cases hk : p = part x.2
        · rw [if_pos hk] at e
          cases e
          rcases (hel _ _).1 hi with ⟨v, l, e1, e2⟩ | ⟨e1, e2⟩
          · subst hk
            exact ⟨v, l, y, e1, e2, hy⟩
          · subst e2
            exact absurd hy.symm hid
        · rw [if_neg hk] at e
          exact ⟨v, l, y, e, hi, hy⟩
end Go.Proofs.Ytaepgcicgmbbeaa
