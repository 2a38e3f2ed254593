/- Labels by rising names, plainly: the document's order, and that a series has one name, whatever the order of its labels. -/
import Derived.Test.YtnbghappfclnjaaLabSort
namespace Go.Proofs.Ytnbghappfclnjaa
open Go.RowKit

/-- x ahead of the first whose name is not less. -/
def insP (x : Lbl) : List Lbl → List Lbl
  | [] => [x]
  | y :: r => if ltN y.1 x.1 = true then y :: insP x r else x :: y :: r
def sortP (l : List Lbl) : List Lbl := l.foldl (fun out x => insP x out) []
theorem insP_perm (x : Lbl) (l : List Lbl) : (insP x l).Perm (x :: l) := by
  induction l with
  | nil => exact List.Perm.refl _
  | cons y r ih =>
    unfold insP
    split
    · exact (List.Perm.cons y ih).trans (List.Perm.swap x y r)
    · exact List.Perm.refl _
theorem foldl_perm (l out : List Lbl) : (l.foldl (fun out x => insP x out) out).Perm (l ++ out) := by
  induction l generalizing out with
  | nil => exact List.Perm.refl _
  | cons x l ih =>
    refine (ih (insP x out)).trans ?_
    refine (List.Perm.append_left l (insP_perm x out)).trans ?_
    exact List.perm_middle
theorem sortP_perm (l : List Lbl) : (sortP l).Perm l := by
  have := foldl_perm l []
  rwa [List.append_nil] at this
theorem insP_loose {x : Lbl} {l : List Lbl} (h : loose l) : loose (insP x l) := by
  induction l with
  | nil => exact List.pairwise_singleton _ _
  | cons y r ih =>
    have hp := List.pairwise_cons.1 h
    unfold insP
    split
    · rename_i hlt
      refine List.Pairwise.cons (fun z hz => ?_) (ih hp.2)
      rcases List.mem_cons.1 ((insP_perm x r).subset hz) with rfl | hz
      · exact ltN_asymm hlt
      · exact hp.1 z hz
    · rename_i hlt
      have hyx : ltN y.1 x.1 = false := by simpa using hlt
      refine List.Pairwise.cons (fun z hz => ?_) h
      rcases List.mem_cons.1 hz with rfl | hz
      · exact hyx
      · have h1 := hp.1 z hz
        cases h2 : ltN z.1 x.1 with
        | false => rfl
        | true =>
          cases h3 : ltN y.1 z.1 with
          | true => rw [ltN_trans h3 h2] at hyx; cases hyx
          | false => rw [ltN_total h3 h1, h2] at hyx; cases hyx
theorem foldl_loose (l : List Lbl) {out : List Lbl} (h : loose out) : loose (l.foldl (fun out x => insP x out) out) := by
  induction l generalizing out with
  | nil => exact h
  | cons x l ih => exact ih (insP_loose h)
theorem sortP_loose (l : List Lbl) : loose (sortP l) := foldl_loose l List.Pairwise.nil
theorem sortP_len (l : List Lbl) : (sortP l).length = l.length := (sortP_perm l).length_eq

theorem rising_nodup {l : List Lbl} (h : rising l = true) : (l.map (·.1)).Nodup := by
  unfold List.Nodup
  rw [List.pairwise_map]
  refine (rising_pair h).imp fun hxy e => ?_
  rw [e, ltN_irrefl] at hxy
  cases hxy
theorem loose_rising {l : List Lbl} (h : loose l) (hn : (l.map (·.1)).Nodup) : rising l = true := by
  unfold List.Nodup at hn
  rw [List.pairwise_map] at hn
  refine rising_of_pair ((List.Pairwise.and h hn).imp fun ⟨h1, h2⟩ => ?_)
  cases h3 : ltN _ _ with
  | true => rfl
  | false => exact absurd (ltN_total h3 h1) h2
theorem rising_loose {l : List Lbl} (h : rising l = true) : loose l := (rising_pair h).imp fun h => ltN_asymm h
theorem rising_perm {l l' : List Lbl} (hp : l'.Perm l) (h : loose l) (hr : rising l' = true) : l' = l := by
  refine rising_unique hp hr (loose_rising h ?_)
  exact ((hp.map (·.1)).nodup_iff).1 (rising_nodup hr)
theorem labsB_perm {l l' : List Lbl} (hp : l'.Perm l) : labsB l' = labsB l := by
  unfold labsB
  rw [Bool.eq_iff_iff, List.all_eq_true, List.all_eq_true]
  exact ⟨fun h x hx => h x (hp.symm.subset hx), fun h x hx => h x (hp.subset hx)⟩
theorem checkB_perm {m : List UInt8} {l l' : List Lbl} (hp : l'.Perm l) (h' : loose l') (h : loose l) : checkB m l' = checkB m l := by
  unfold checkB
  rw [labsB_perm hp]
  congr 2
  cases h1 : rising l' with
  | true => rw [← rising_perm hp h h1, h1]
  | false =>
    cases h2 : rising l with
    | false => rfl
    | true => rw [rising_perm hp.symm h' h2, h1] at h2; cases h2
theorem checkB_rising {m : List UInt8} {l : List Lbl} (h : checkB m l = true) : rising l = true := by
  unfold checkB at h
  rw [Bool.and_eq_true, Bool.and_eq_true] at h
  exact h.2.2

/-- A series' name, of labels in whatever order. -/
def nameP (m : List UInt8) (l : List Lbl) : Option (List UInt8) :=
  if l.length ≤ 16 ∧ checkB m (sortP l) = true then some (textT m (sortP l)) else none
theorem nameP_of {m : List UInt8} {l l' : List Lbl} (hl : l.length ≤ 16) (hp : l'.Perm l) (hlo : loose l') : nameP m l = if checkB m l' = true then some (textT m l') else none := by
  have hq : l'.Perm (sortP l) := hp.trans (sortP_perm l).symm
  have hc := checkB_perm (m := m) hq hlo (sortP_loose l)
  unfold nameP
  rw [← hc]
  by_cases h : checkB m l' = true
  · rw [if_pos ⟨hl, h⟩, if_pos h, rising_perm hq (sortP_loose l) (checkB_rising h)]
  · rw [if_neg (fun hh => h hh.2), if_neg h]
theorem nameP_long {m : List UInt8} {l : List Lbl} (hl : 16 < l.length) : nameP m l = none := by
  unfold nameP
  rw [if_neg (by omega)]
theorem sortP_rising {l : List Lbl} (h : rising l = true) : sortP l = l :=
  (rising_perm (sortP_perm l).symm (sortP_loose l) h).symm
theorem nameP_valid {m : List UInt8} {l : List Lbl} (h : validB m l = true) : nameP m l = some (textT m l) := by
  unfold validB at h
  rw [Bool.and_eq_true, decide_eq_true_eq] at h
  unfold nameP
  rw [sortP_rising (checkB_rising h.1), if_pos ⟨h.2, h.1⟩]
theorem nameP_perm {m : List UInt8} {l l' : List Lbl} (hp : l'.Perm l) : nameP m l' = nameP m l := by
  by_cases hl : l.length ≤ 16
  · rw [nameP_of hl ((sortP_perm l').trans hp) (sortP_loose l')]
    rw [nameP_of (by rw [hp.length_eq]; exact hl) (sortP_perm l') (sortP_loose l')]
  · have he := hp.length_eq
    rw [nameP_long (l := l) (by omega), nameP_long (l := l') (by omega)]
end Go.Proofs.Ytnbghappfclnjaa
