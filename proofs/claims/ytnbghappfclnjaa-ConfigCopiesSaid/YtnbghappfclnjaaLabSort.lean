/- Labels sorted: what slices.SortFunc leaves, as lists; the row that is sorted, in memory. -/
import Derived.Test.YtnbghappfclnjaaLabMem
import Derived.Shelf.SlSortCmp.WholeK
namespace Go.Proofs.Ytnbghappfclnjaa
open Go.RowKit Go.Sort Go.Shelf

instance : Inhabited Lbl := ⟨([], [])⟩
def cfL (x y : Lbl) : Int := Lib.compareBytes x.1 y.1
theorem ltOf_cfL (x y : Lbl) : ltOf cfL x y = ltN x.1 y.1 := by
  unfold ltOf cfL
  exact compare_neg _ _
theorem swoL : SWO (ltOf cfL) where
  irrefl x := by rw [ltOf_cfL]; exact ltN_irrefl _
  trans x y z h1 h2 := by rw [ltOf_cfL] at *; exact ltN_trans h1 h2
  ntrans x y z h1 h2 := by
    rw [ltOf_cfL] at *
    cases h : ltN x.1 z.1 with
    | false => rfl
    | true =>
      cases h3 : ltN y.1 x.1 with
      | true => rw [ltN_trans h3 h] at h2; cases h2
      | false => rw [ltN_total h1 h3] at h; rw [h] at h2; cases h2

theorem flatK_at (l : List Lbl) (t : Nat) (ht : t < l.length * 2) : (flatK encLbl 2 l.toArray)[t]? = (flatL l)[t]? := by
  have h2 : t / 2 < l.length := by omega
  have hx : l[t / 2]? = some l[t / 2] := List.getElem?_eq_getElem h2
  have hg : l.toArray[t / 2]! = l[t / 2] := by simp [getElem!_pos, h2]
  have hk := get_flatK encLbl 2 l.toArray t (by simpa using ht)
  rw [hg] at hk
  have hs : (flatK encLbl 2 l.toArray)[t]? = some ((flatK encLbl 2 l.toArray)[t]!) := by
    rw [getElem!_pos _ t (by simpa using ht)]
    exact Array.getElem?_eq_getElem _
  rw [hs, hk]
  obtain ⟨e1, e2⟩ := flatL_at hx
  generalize l[t / 2] = x at *
  have hd := Nat.div_add_mod t 2
  rcases Nat.mod_two_eq_zero_or_one t with h0 | h1
  · rw [h0]
    rw [show t / 2 * 2 = t by omega] at e1
    rw [e1]; rfl
  · rw [h1]
    rw [show t / 2 * 2 + 1 = t by omega] at e2
    rw [e2]; rfl
theorem flatK_eq (l : List Lbl) : flatK encLbl 2 l.toArray = (flatL l).toArray := by
  apply Array.ext'
  apply List.ext_getElem?
  intro t
  rw [Array.getElem?_toList]
  simp only [List.toList_toArray]
  rcases Nat.lt_or_ge t (l.length * 2) with h | h
  · exact flatK_at l t h
  · rw [Array.getElem?_eq_none (by simpa using h), List.getElem?_eq_none (by rw [flatL_len]; exact h)]

theorem ownedL_holds {B : Nat} {w : World} {g cap : Nat} {l : List Lbl} (h : OwnedL B w (.slice (some ⟨g, 0, none⟩) l.length cap) l) : HoldsK encLbl 2 w g 0 l.toArray := by
  have hc := World.ownsRow.cells h (g := g) rfl
  rcases h.2 with ⟨h1, _⟩ | ⟨g', cap', cur, h1, hb, hg, hn, hm, hs, ht⟩
  · cases h1
  · injection h1 with e1 _ e3
    injection e1 with e1
    injection e1 with e1
    subst e1
    unfold HoldsK
    rw [flatK_eq]
    intro j hj
    have hj' : j < (flatL l).length := by simpa using hj
    refine ⟨?_, by simp [World.frozen?, hg]⟩
    have := hc j _ (List.getElem?_eq_getElem hj')
    rw [add_plain'] at this
    rw [this]
    simp [getElem!_pos, hj']
theorem take_putCells {cur : Array Value} {F : List Value} (h : F.length ≤ cur.size) : (putCells id 0 F.toArray cur).toList.take F.length = F := by
  apply List.ext_getElem?
  intro j
  by_cases hj : j < F.length
  · rw [List.getElem?_take_of_lt hj, Array.getElem?_toList]
    simp [putCells, hj, show j < cur.size by omega]
  · rw [List.getElem?_take_eq_none (by omega), List.getElem?_eq_none (by omega)]
theorem ownedL_sorted {B : Nat} {w : World} {g cap : Nat} {l l' : List Lbl} (h : OwnedL B w (.slice (some ⟨g, 0, none⟩) l.length cap) l) (hl : l'.length = l.length) (q : Nat) (os : Array Obj) :
    OwnedL B (sortWorldK encLbl 2 w g 0 q l'.toArray os) (.slice (some ⟨g, 0, none⟩) l.length cap) l' ∧ Below B w (sortWorldK encLbl 2 w g 0 q l'.toArray os) := by
  rcases h.2 with ⟨h1, _⟩ | ⟨g', cap', cur, h1, hb, hg, hn, hm, hs, ht⟩
  · cases h1
  · injection h1 with e1 _ e3
    injection e1 with e1
    injection e1 with e1
    subst e1 e3
    have hgl : g < w.heap.size := (Array.getElem?_eq_some_iff.1 hg).1
    have hheap : (sortWorldK encLbl 2 w g 0 q l'.toArray os).heap[g]? = some (.cells (putCells id 0 (flatL l').toArray cur) 33 (0, 0)) := by
      unfold sortWorldK putRowK
      rw [flatK_eq, heap_grow_old _ _ (by simpa [putRow, mapBlock, Sort.ahead] using hgl)]
      simp [putRow, mapBlock, Sort.ahead, Array.getElem?_modify, hg, onCells]
    have hfl : (flatL l').length = l.length * 2 := by rw [flatL_len, hl]
    refine ⟨⟨by rw [flatL_len], .inr ⟨g, cap, _, by rw [hl], hb, hheap, by rw [hl]; exact hn, hm, by simpa [putCells] using hs, ?_⟩⟩, ?_⟩
    · rw [hl, ← hfl]
      exact take_putCells (by rw [hfl, hs]; exact Nat.mul_le_mul_right _ hn)
    · refine ⟨rfl, rfl, rfl, by simp [sortWorldK, putRowK, putRow, mapBlock, Sort.ahead], fun k hk => ?_⟩
      unfold sortWorldK putRowK
      rcases Nat.lt_or_ge k w.heap.size with h | h
      · rw [heap_grow_old _ _ (by simpa [putRow, mapBlock, Sort.ahead] using h)]
        simp [putRow, mapBlock, Sort.ahead, Array.getElem?_modify, show g ≠ k by omega]
      · omega

/-! As lists. -/
theorem perm_list {d d' : Array Lbl} (h : PermIn 0 d.size d d') : d'.toList.Perm d.toList := by
  have h1 := h.2.2
  have h2 := h.1
  have e1 : d'.extract 0 d.size = d' := by rw [← h2]; simp
  have e2 : d.extract 0 d.size = d := by simp
  rwa [e1, e2] at h1
/-- No later name is less than an earlier one. -/
def loose (l : List Lbl) : Prop := l.Pairwise fun x y => ltN y.1 x.1 = false
theorem loose_of {d : Array Lbl} (h : SortedIn (ltOf cfL) 0 d.size d) : loose d.toList := by
  unfold loose
  rw [List.pairwise_iff_getElem]
  intro i j hi hj hij
  have := h i j (Nat.zero_le _) hij (by simpa using hj)
  rw [ltOf_cfL] at this
  simp only [Array.length_toList] at hi hj
  rw [getElem!_pos d j hj, getElem!_pos d i hi] at this
  exact this
theorem rising_pair {l : List Lbl} (h : rising l = true) : l.Pairwise fun x y => ltN x.1 y.1 = true := by
  induction l with
  | nil => exact List.Pairwise.nil
  | cons x l ih =>
    cases l with
    | nil => exact List.pairwise_singleton _ _
    | cons y l =>
      rw [rising, Bool.and_eq_true] at h
      have ih' := ih h.2
      refine List.Pairwise.cons (fun z hz => ?_) ih'
      rcases List.mem_cons.1 hz with rfl | hz
      · exact h.1
      · exact ltN_trans h.1 ((List.pairwise_cons.1 ih').1 z hz)
theorem rising_of_pair {l : List Lbl} (h : l.Pairwise fun x y => ltN x.1 y.1 = true) : rising l = true := by
  induction l with
  | nil => rfl
  | cons x l ih =>
    cases l with
    | nil => rfl
    | cons y l =>
      rw [rising, Bool.and_eq_true]
      exact ⟨(List.pairwise_cons.1 h).1 y (List.mem_cons_self ..), ih (List.pairwise_cons.1 h).2⟩
/-- One order alone: two rows of rising names that hold the same are one. -/
theorem rising_unique : ∀ {l l' : List Lbl}, l.Perm l' → rising l = true → rising l' = true → l = l'
  | [], l', h, _, _ => (List.nil_perm.1 h).symm
  | x :: l, [], h, _, _ => absurd (List.perm_nil.1 h) (by simp)
  | x :: l, y :: l', h, h1, h2 => by
    have p1 := List.pairwise_cons.1 (rising_pair h1)
    have p2 := List.pairwise_cons.1 (rising_pair h2)
    have hxy : x = y := by
      have hx : x ∈ y :: l' := h.subset (List.mem_cons_self ..)
      have hy : y ∈ x :: l := h.symm.subset (List.mem_cons_self ..)
      rcases List.mem_cons.1 hx with e | hx
      · exact e
      · rcases List.mem_cons.1 hy with e | hy
        · exact e.symm
        · have a1 := p2.1 x hx
          have a2 := p1.1 y hy
          rw [ltN_asymm a1] at a2
          cases a2
    subst hxy
    rw [rising_unique (List.perm_cons _ |>.1 h) (rising_of_pair p1.2) (rising_of_pair p2.2)]
end Go.Proofs.Ytnbghappfclnjaa
