/- Same: two nets of as many at most: true if, and only if, the last number and the contents are the same. -/
import Derived.Test.YtlelemjmknbnaaaNetSameY
namespace Go.Proofs.Ytlelemjmknbnaaa
open Go.RowKit Go.Maps Go.Sort Go.Shelf

theorem told_all {L L2 : List NE} (hr : L.Pairwise fun x y => x.1.id < y.1.id) (hr2 : L2.Pairwise fun x y => x.1.id < y.1.id) (hlen : L.length = L2.length) (hst : ∀ x ∈ L, x.1.st ≠ 0) :
    (∀ x ∈ L, Told L L2 x.1.id) ↔ L.map Prod.fst = L2.map Prod.fst := by
  constructor
  · intro h
    refine rise_same (List.pairwise_map.2 hr) (List.pairwise_map.2 hr2) (by simpa using hlen) fun c hc => ?_
    obtain ⟨x, hx, rfl⟩ := List.mem_map.1 hc
    exact ((told_same (L := L) (L2 := L2) (getE_of_mem hr hx) rfl (hst x hx)).1 (h x hx)).1
  · intro h x hx
    refine (told_same (L := L) (L2 := L2) (getE_of_mem hr hx) rfl (hst x hx)).2 ⟨by rw [← h]; exact List.mem_map_of_mem hx, fun y hy => ?_⟩
    obtain ⟨hm, hid⟩ := getE_mem hy
    have h1 : y.1 ∈ L.map Prod.fst := by rw [h]; exact List.mem_map_of_mem hm
    obtain ⟨z, hz, hze⟩ := List.mem_map.1 h1
    have h2 := getE_of_mem hr hz
    have h3 := getE_of_mem hr hx
    rw [hze, hid, h3] at h2
    cases h2
    exact hze.symm
theorem same_all {B B2 : Nat} {w : World} {bn bm bn2 bm2 : Nat} {most last last2 : Int} {L L2 : List NE} (h : NetAt B w bn bm most last L) (h2 : NetAt B2 w bn2 bm2 most last2 L2) (hl : L.length ≤ 1000) (hh : ∀ x ∈ L, x.1.host.length ≤ 1000000) (hlast : last ≤ 1000000000) (hst : ∀ x ∈ L, x.1.st ≠ 0) :
    Calls Try.prog 11 #[.pointer (some ⟨bn, 0, none⟩), .pointer (some ⟨bn2, 0, none⟩)] w fun e w' => (∃ b, e = .returned (.bool b) ∧ (b = true ↔ last = last2 ∧ L.map Prod.fst = L2.map Prod.fst)) ∧ Below w.heap.size w w' := by
  by_cases hno : last ≠ last2 ∨ L.length ≠ L2.length
  · refine (same_no h h2 hno).mono fun e w' ⟨he, hb⟩ => ⟨⟨false, he, ⟨(fun h9 => by cases h9), fun ⟨h3, h4⟩ => ?_⟩⟩, hb⟩
    have h5 := congrArg List.length h4
    simp only [List.length_map] at h5
    rcases hno with h6 | h6
    · exact absurd h3 h6
    · exact absurd h5 h6
  · have h3 : last = last2 := Classical.byContradiction fun h9 => hno (.inl h9)
    have h4 : L.length = L2.length := Classical.byContradiction fun h9 => hno (.inr h9)
    subst h3
    refine (same_yes h h2 h4 hl hh hlast).mono fun e w' ⟨⟨b, he, hb⟩, ht⟩ => ⟨⟨b, he, ?_⟩, ht⟩
    rw [hb, told_all h.rise h2.rise h4 hst]
    exact ⟨fun h9 => ⟨rfl, h9⟩, fun h9 => h9.2⟩
end Go.Proofs.Ytlelemjmknbnaaa
