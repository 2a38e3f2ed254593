/- A net and the document's, side by side. -/
import Derived.Test.YtlelemjmknbnaaaNetShut
import Derived.Test.YtlelemjmknbnaaaDocClose
namespace Go.Proofs.Ytlelemjmknbnaaa
open Go.RowKit

def toC (r : Rc) : Cn := ⟨r.id, r.host, r.st, r.inn.drop r.at_, r.out⟩
def Link (L : List NE) (rs : List Rc) : Prop := L.map Prod.fst = rs.map toC
theorem Link.nil : Link [] [] := rfl
theorem Link.len {L : List NE} {rs : List Rc} (h : Link L rs) : L.length = rs.length := by
  have := congrArg List.length h
  simpa using this
theorem Link.at_ {L1 L2 : List NE} {x : NE} {rs : List Rc} (h : Link (L1 ++ x :: L2) rs) : ∃ R1 r R2, rs = R1 ++ r :: R2 ∧ Link L1 R1 ∧ toC r = x.1 ∧ Link L2 R2 := by
  unfold Link at h
  rw [List.map_append, List.map_cons] at h
  obtain ⟨R1, R', e1, e2, e3⟩ := List.map_eq_append_iff.1 h.symm
  obtain ⟨r, R2, e4, e5, e6⟩ := List.map_eq_cons_iff.1 e3
  exact ⟨R1, r, R2, by rw [e1, e4], e2.symm, e5, e6.symm⟩
theorem Link.put {L1 L2 : List NE} {x : NE} {R1 R2 : List Rc} {r : Rc} (h1 : Link L1 R1) (hx : x.1 = toC r) (h2 : Link L2 R2) : Link (L1 ++ x :: L2) (R1 ++ r :: R2) := by
  unfold Link at h1 h2 ⊢
  rw [List.map_append, List.map_cons, List.map_append, List.map_cons, h1, h2, hx]
theorem Link.drop {L1 L2 : List NE} {R1 R2 : List Rc} (h1 : Link L1 R1) (h2 : Link L2 R2) : Link (L1 ++ L2) (R1 ++ R2) := by
  unfold Link at h1 h2 ⊢
  rw [List.map_append, List.map_append, h1, h2]
theorem Link.get : ∀ {L : List NE} {rs : List Rc}, Link L rs → ∀ k : Int, (getE L k).map Prod.fst = (getR rs k).map toC
  | [], [], _, _ => rfl
  | [], _ :: _, h, _ => by cases h
  | _ :: _, [], h, _ => by cases h
  | x :: L, r :: rs, h, k => by
    have h' : x.1 = toC r ∧ L.map Prod.fst = rs.map toC := by
      unfold Link at h
      rw [List.map_cons, List.map_cons] at h
      exact List.cons.inj h
    have hid : x.1.id = r.id := by rw [h'.1]; rfl
    unfold getE getR
    rw [List.find?_cons, List.find?_cons, hid]
    cases decide ((r.id : Int) = k) with
    | true => simp [h'.1]
    | false => exact Link.get (L := L) (rs := rs) h'.2 k
theorem Link.cases {L : List NE} {rs : List Rc} (h : Link L rs) (k : Int) : (getE L k = none ∧ getR rs k = none) ∨ ∃ x r, getE L k = some x ∧ getR rs k = some r ∧ x.1 = toC r := by
  have hg := h.get k
  cases h1 : getE L k with
  | none =>
    rw [h1] at hg
    cases h2 : getR rs k with
    | none => exact .inl ⟨rfl, rfl⟩
    | some r => rw [h2] at hg; cases hg
  | some x =>
    rw [h1] at hg
    cases h2 : getR rs k with
    | none => rw [h2] at hg; cases hg
    | some r =>
      rw [h2] at hg
      exact .inr ⟨x, r, rfl, rfl, by simpa using hg⟩
theorem Link.code {L : List NE} {rs : List Rc} (h : Link L rs) (k s : Int) : codeV (getE L k) [s] = codeR (getR rs k) s := by
  rcases h.cases k with ⟨h1, h2⟩ | ⟨x, r, h1, h2, e⟩
  · rw [h1, h2]; rfl
  · rw [h1, h2]
    have : x.1.st = r.st := by rw [e]; rfl
    simp [codeV, codeR, this]
theorem Link.code23 {L : List NE} {rs : List Rc} (h : Link L rs) (k : Int) : codeV (getE L k) [2, 3] = code23 (getR rs k) := by
  rcases h.cases k with ⟨h1, h2⟩ | ⟨x, r, h1, h2, e⟩
  · rw [h1, h2]; rfl
  · rw [h1, h2]
    have : x.1.st = r.st := by rw [e]; rfl
    simp [codeV, Go.Proofs.Ytlelemjmknbnaaa.code23, this]
theorem Link.st {L : List NE} {rs : List Rc} (h : Link L rs) (k : Int) : stC (getE L k) = stR (getR rs k) := by
  rcases h.cases k with ⟨h1, h2⟩ | ⟨x, r, h1, h2, e⟩
  · rw [h1, h2]; rfl
  · rw [h1, h2]
    show x.1.st = r.st
    rw [e]; rfl
theorem Link.out {L : List NE} {rs : List Rc} (h : Link L rs) (k : Int) : outC (getE L k) = outR (getR rs k) := by
  rcases h.cases k with ⟨h1, h2⟩ | ⟨x, r, h1, h2, e⟩
  · rw [h1, h2]; rfl
  · rw [h1, h2]
    show x.1.out = r.out
    rw [e]; rfl
theorem Link.left {L : List NE} {rs : List Rc} (h : Link L rs) (k : Int) : (innC (getE L k)).length = leftR (getR rs k) := by
  rcases h.cases k with ⟨h1, h2⟩ | ⟨x, r, h1, h2, e⟩
  · rw [h1, h2]; rfl
  · rw [h1, h2]
    show x.1.inn.length = r.inn.length - r.at_
    rw [e]
    show (r.inn.drop r.at_).length = _
    rw [List.length_drop]
/-- Their memory stands apart: their blocks are of different types. -/
theorem two_apart {B B' : Nat} {w : World} {bn bm rn : Nat} {v : Value} {most last most' : Int} {N : Nat} {L : List NE} {rs : List Rc} (hn : NetAt B w bn bm most last L) (hr : RefAt B' w rn v most' N rs) :
    ∀ i ∈ bn :: bm :: footL L, i ≠ rn ∧ i ∉ ownB v := by
  have hv : ∀ i ∈ ownB v, ∃ cur, w.heap[i]? = some (.cells cur 67 (0, 0)) := fun i hi => by
    rcases hr.own.2 with ⟨h1, _⟩ | ⟨g, cap, cur, h1, _, hg, _⟩
    · rw [h1] at hi
      simp [ownB, Value.ownBlock] at hi
    · rw [h1] at hi
      simp [ownB, Value.ownBlock] at hi
      subst hi
      exact ⟨cur, hg⟩
  have hu : ∀ {b : Nat} {u : Value} {l : List UInt8}, Owned b w u l → ∀ i ∈ ownB u, ∃ cur, w.heap[i]? = some (.cells cur 5 (0, 0)) := fun {b u l} ho i hi => by
    rcases ho.2 with ⟨h1, _⟩ | ⟨g, cap, cur, h1, _, hg, _⟩
    · rw [h1] at hi
      simp [ownB, Value.ownBlock] at hi
    · rw [h1] at hi
      simp [ownB, Value.ownBlock] at hi
      subst hi
      exact ⟨cur, hg⟩
  have key : ∀ i, (∃ cur t, w.heap[i]? = some (.cells cur t (0, 0)) ∧ t ≠ 50 ∧ t ≠ 67) ∨ (∃ es k, w.heap[i]? = some (.map es k)) → i ≠ rn ∧ i ∉ ownB v := by
    rintro i (⟨cur, t, h1, h2, h3⟩ | ⟨es, k, h1⟩)
    · refine ⟨fun e => ?_, fun hm => ?_⟩
      · subst e
        rw [hr.head] at h1
        cases h1
        exact h2 rfl
      · obtain ⟨c2, h4⟩ := hv i hm
        rw [h4] at h1
        cases h1
        exact h3 rfl
    · refine ⟨fun e => ?_, fun hm => ?_⟩
      · subst e
        rw [hr.head] at h1
        cases h1
      · obtain ⟨c2, h4⟩ := hv i hm
        rw [h4] at h1
        cases h1
  intro i hi
  refine key i ?_
  rcases List.mem_cons.1 hi with rfl | hi
  · exact .inl ⟨_, _, hn.head, by decide, by decide⟩
  rcases List.mem_cons.1 hi with rfl | hi
  · obtain ⟨n, D, ⟨es, clock, hb, _⟩, _⟩ := hn.hmap
    exact .inr ⟨_, _, hb⟩
  obtain ⟨x, hx, hi⟩ := mem_footL.1 hi
  obtain ⟨c1, c2, c3⟩ := hn.conns x hx
  rcases Pl.mem_foot.1 hi with rfl | hi | hi
  · exact .inl ⟨_, _, c1, by decide, by decide⟩
  · obtain ⟨cur, h⟩ := hu c2 i hi
    exact .inl ⟨_, _, h, by decide, by decide⟩
  · obtain ⟨cur, h⟩ := hu c3 i hi
    exact .inl ⟨_, _, h, by decide, by decide⟩
end Go.Proofs.Ytlelemjmknbnaaa
