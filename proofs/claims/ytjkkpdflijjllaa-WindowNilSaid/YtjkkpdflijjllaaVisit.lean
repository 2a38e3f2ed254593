/- Going over a map in any order, told by a list of what it holds: what has been visited grows by one each time. -/
import Derived.Test.YtjkkpdflijjllaaProg
namespace Go.Proofs.Ytjkkpdflijjllaa

section
variable {α κ : Type} [DecidableEq κ] (nm : α → κ)
/-- What has been visited. -/
def seenL (left : κ → Bool) (L : List α) : List α := L.filter fun z => !left (nm z)
def NamesNe (L : List α) : Prop := L.Pairwise fun a b => nm a ≠ nm b
variable {nm}
omit [DecidableEq κ] in
theorem seenL_none {left : κ → Bool} {L : List α} (h : ∀ z ∈ L, left (nm z) = true) : seenL nm left L = [] := by
  unfold seenL
  rw [List.filter_eq_nil_iff]
  intro z hz
  simp [h z hz]
omit [DecidableEq κ] in
theorem seenL_all {left : κ → Bool} {L : List α} (h : ∀ x, left x = false) : seenL nm left L = L := by
  unfold seenL
  rw [List.filter_eq_self]
  intro z _
  simp [h]
theorem seenL_other {left : κ → Bool} {L : List α} {x : κ} (h : ∀ z ∈ L, nm z ≠ x) : seenL nm (fun y => left y && !decide (y = x)) L = seenL nm left L := by
  unfold seenL
  refine List.filter_congr fun z hz => ?_
  simp [h z hz]
/-- One more is visited: what is counted of the visited ones grows by what it counts. -/
theorem seenL_step (p : List α → Nat) (hp : ∀ l m : List α, p (l ++ m) = p l + p m) : ∀ {L : List α}, NamesNe nm L → ∀ {left : κ → Bool} {y : α}, y ∈ L → left (nm y) = true →
    p (seenL nm (fun x => left x && !decide (x = nm y)) L) = p (seenL nm left L) + p [y]
  | z :: L, hn, left, y, hy, hl => by
    have h1 := List.pairwise_cons.1 hn
    have hc : ∀ (f : κ → Bool) (l : List α), p (seenL nm f (z :: l)) = (if f (nm z) then 0 else p [z]) + p (seenL nm f l) := fun f l => by
      have h0 : p [] = 0 := by have := hp [] []; simp at this; omega
      unfold seenL
      rw [List.filter_cons]
      cases hf : f (nm z) with
      | true => simp
      | false =>
        simp only [Bool.not_false, if_true]
        have := hp [z] (l.filter fun z => !f (nm z))
        simpa using this
    rw [hc, hc]
    rcases List.mem_cons.1 hy with rfl | hy
    · have he := seenL_other (nm := nm) (left := left) (L := L) (x := nm y) fun z hz => (h1.1 z hz).symm
      rw [he]
      simp [hl]
      omega
    · have hne : nm z ≠ nm y := h1.1 y hy
      have ih := seenL_step p hp h1.2 (left := left) hy hl
      rw [ih]
      simp [hne]
      omega
theorem seenL_count (q : α → Bool) {L : List α} (hn : NamesNe nm L) {left : κ → Bool} {y : α} (hy : y ∈ L) (hl : left (nm y) = true) :
    ((seenL nm (fun x => left x && !decide (x = nm y)) L).filter q).length = ((seenL nm left L).filter q).length + (if q y then 1 else 0) := by
  have := seenL_step (nm := nm) (fun l => (l.filter q).length) (fun l m => by simp) hn hy hl
  rw [this]
  cases hq : q y <;> simp [hq]
end
end Go.Proofs.Ytjkkpdflijjllaa
