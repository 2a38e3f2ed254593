/- A region that draws its order, by an invariant over what has come up. -/
import Derived.Test.YtjkkpdflijjllaaProg
import Derived.Orders
import Derived.Deep.RegionHeld
namespace Go.Proofs.Ytjkkpdflijjllaa

section
variable {P : Program} {ops : Array Oper} {Q : Exit → Act → World → Prop} {md : Region.Mode}
theorem wpOp_plain {i : Nat} {o : Oper} {K : Act → World → Prop} {a : Act} {w : World} (ho : ops[i]? = some o) (hg : o.guard = none)
    (h : ∀ K' : Act → World → Prop, Shut (∀ a w, K a w → K' a w) → Oper.wp P o a w K' Q) : wpOp P ops Q i K a w := by
  unfold wpOp
  rw [ho]
  simp only
  rw [if_pos (by simp [Region.wanted, hg])]
  exact .inl (h K (fun _ _ h => h))
def unlisted (li : Array Bool) : Nat := li.toList.count false
theorem unlisted_set {li : Array Bool} {i : Nat} (h : li.getD i true = false) : unlisted (li.setIfInBounds i true) + 1 = unlisted li := by
  obtain ⟨l⟩ := li
  have hi : i < l.length := by
    rcases Nat.lt_or_ge i l.length with h' | h'
    · exact h'
    · simp [Array.getD] at h
      obtain ⟨h1, _⟩ := h
      exact h1
  have hv : l[i] = false := by simpa [Array.getD, hi] using h
  unfold unlisted
  rw [Array.toList_setIfInBounds]
  simp only
  have hc := List.count_set (a := true) (b := false) hi
  have hp : 0 < l.count false := List.count_pos_iff.2 (hv ▸ List.getElem_mem hi)
  rw [hc, hv]
  simp
  omega
theorem unlisted_none {li : Array Bool} (h : unlisted li = 0) : Region.ready md ops li = [] := by
  cases hr : Region.ready md ops li with
  | nil => rfl
  | cons i r =>
    have hm : i ∈ Region.ready md ops li := by rw [hr]; simp
    have h1 := unlisted_set (mem_ready.1 hm).1
    omega
/-- The invariant J holds whatever order is picked. -/
theorem wpAny_inv (J : Array Bool → Act → World → Prop) (fin : ∀ li a w, J li a w → Region.ready md ops li = [] → Q .normal a w)
    (step : ∀ li a w, J li a w → ∀ i ∈ Region.ready md ops li, wpOp P ops Q i (fun a' w' => J (li.setIfInBounds i true) a' w') a w) :
    ∀ (fuel : Nat) (li : Array Bool) (a : Act) (w : World), unlisted li ≤ fuel → J li a w → wpAny P md ops Q fuel li a w
  | 0, li, a, w, hf, h => ⟨unlisted_none (by omega), fin li a w h (unlisted_none (by omega))⟩
  | fuel + 1, li, a, w, hf, h => ⟨fin li a w h, fun i hi => wpOp_mono (fun a' w' h' => wpAny_inv J fin step fuel _ a' w' (by have := unlisted_set (mem_ready.1 hi).1; omega) h') (step li a w h i hi)⟩
end
end Go.Proofs.Ytjkkpdflijjllaa
