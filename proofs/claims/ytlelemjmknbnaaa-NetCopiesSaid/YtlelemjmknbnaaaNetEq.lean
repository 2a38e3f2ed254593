/- A look at a connection, with its host; and when two nets' contents are the same. -/
import Derived.Test.YtlelemjmknbnaaaNetConn
import Derived.Test.YtlelemjmknbnaaaNetAny
namespace Go.Proofs.Ytlelemjmknbnaaa
open Go.RowKit

def hostC (o : Option NE) : List UInt8 := match o with | some x => x.1.host | none => []
theorem look_host {B : Nat} {w : World} {bn bm : Nat} {most last : Int} {L : List NE} (h : NetAt B w bn bm most last L) (k : Int) (hk : (Lit.int .i64 k).wf = true) :
    Calls Try.prog 33 #[.pointer (some ⟨bn, 0, none⟩), .int .i64 k] w fun e w' => (∃ va vs, e = .returned (.agg #[.string ⟨(hostC (getE L k)).toArray⟩, .int .i64 (stC (getE L k)), va, vs]) ∧ Owned 0 w va (innC (getE L k)) ∧ Owned 0 w vs (outC (getE L k))) ∧ Turns [] w w' := by
  cases hg : getE L k with
  | none =>
    exact (look_none h k hk hg).mono fun e w' ⟨he, ht⟩ => ⟨⟨_, _, he, World.ownsRow_nil _ _ _ _, World.ownsRow_nil _ _ _ _⟩, ht⟩
  | some x =>
    obtain ⟨L1, L2, rfl, rfl⟩ := getE_split hg
    exact (look_some h hk).mono fun e w' ⟨he, ht⟩ => ⟨⟨_, _, he, Owned.low h.conn.2.1 (Nat.zero_le _), Owned.low h.conn.2.2 (Nat.zero_le _)⟩, ht⟩
/-- What conn.same tells of a number, for a connection that is there. -/
theorem told_same {L L2 : List NE} {x : NE} {k : Int} (hx : getE L k = some x) (hk : (x.1.id : Int) = k) (hst : x.1.st ≠ 0) :
    (hostC (getE L k) = hostC (getE L2 k) ∧ stC (getE L k) = stC (getE L2 k) ∧ innC (getE L k) = innC (getE L2 k) ∧ outC (getE L k) = outC (getE L2 k)) ↔ x.1 ∈ L2.map Prod.fst ∧ ∀ y, getE L2 k = some y → y.1 = x.1 := by
  rw [hx]
  constructor
  · rintro ⟨h1, h2, h3, h4⟩
    cases hy : getE L2 k with
    | none =>
      rw [hy] at h2
      exact absurd h2 hst
    | some y =>
      rw [hy] at h1 h2 h3 h4
      obtain ⟨hm, hid⟩ := getE_mem hy
      have e : x.1 = y.1 := by
        obtain ⟨⟨a1, a2, a3, a4, a5⟩, px⟩ := x
        obtain ⟨⟨b1, b2, b3, b4, b5⟩, py⟩ := y
        simp only [hostC, stC, innC, outC] at h1 h2 h3 h4
        have h5 : a1 = b1 := by have := hid; have := hk; simp at *; omega
        rw [h1, h2, h3, h4, h5]
      refine ⟨?_, fun z hz => ?_⟩
      · rw [e]
        exact List.mem_map_of_mem hm
      · cases hz
        exact e.symm
  · rintro ⟨hm, hy⟩
    obtain ⟨y, hym, hye⟩ := List.mem_map.1 hm
    cases hg : getE L2 k with
    | none =>
      unfold getE at hg
      rw [List.find?_eq_none] at hg
      have := hg y hym
      rw [hye] at this
      simp [hk] at this
    | some z =>
      have := hy z hg
      simp only [hostC, stC, innC, outC]
      rw [this]
      exact ⟨rfl, rfl, rfl, rfl⟩
theorem nodup_len {α : Type} : ∀ {l m : List α}, l.Nodup → (∀ x ∈ l, x ∈ m) → l.length ≤ m.length
  | [], _, _, _ => Nat.zero_le _
  | c :: l, m, hn, hs => by
    rw [List.nodup_cons] at hn
    obtain ⟨m1, m2, rfl⟩ := List.append_of_mem (hs c (List.mem_cons_self ..))
    have := nodup_len (m := m1 ++ m2) hn.2 (fun x hx => by
      rcases List.mem_append.1 (hs x (List.mem_cons.2 (.inr hx))) with h | h
      · exact List.mem_append.2 (.inl h)
      · rcases List.mem_cons.1 h with rfl | h
        · exact absurd hx hn.1
        · exact List.mem_append.2 (.inr h))
    simp at this ⊢
    omega
/-- Contents that lie by rising numbers: as many, and all there: the same. -/
theorem rise_same : ∀ {l m : List Cn}, l.Pairwise (fun x y => x.id < y.id) → m.Pairwise (fun x y => x.id < y.id) → l.length = m.length → (∀ c ∈ l, c ∈ m) → l = m
  | [], m, _, _, hl, _ => (List.eq_nil_of_length_eq_zero hl.symm).symm
  | c :: l, [], _, _, hl, _ => by simp at hl
  | c :: l, d :: m, hp, hq, hl, hs => by
    rw [List.pairwise_cons] at hp hq
    have hcd : c = d := by
      rcases List.mem_cons.1 (hs c (List.mem_cons_self ..)) with h | h
      · exact h
      · exfalso
        have h1 := hq.1 c h
        have hsub : ∀ x ∈ c :: l, x ∈ m := fun x hx => by
          rcases List.mem_cons.1 (hs x hx) with h2 | h2
          · subst h2
            rcases List.mem_cons.1 hx with h3 | h3
            · rw [h3] at h1; omega
            · have := hp.1 _ h3; omega
          · exact h2
        have hnd : (c :: l).Nodup := by
          rw [List.nodup_cons]
          refine ⟨fun h2 => by have := hp.1 c h2; omega, ?_⟩
          exact hp.2.imp (fun {a b} h2 h3 => by rw [h3] at h2; omega)
        have := nodup_len hnd hsub
        simp at hl this
        omega
    subst hcd
    rw [rise_same hp.2 hq.2 (by simpa using hl) (fun x hx => by
      rcases List.mem_cons.1 (hs x (List.mem_cons.2 (.inr hx))) with h | h
      · subst h
        have := hp.1 _ hx
        omega
      · exact h)]
end Go.Proofs.Ytlelemjmknbnaaa
