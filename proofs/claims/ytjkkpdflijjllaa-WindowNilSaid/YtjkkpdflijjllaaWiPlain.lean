/- The program's windows, plainly: a map of sums beside a list of credits by rising names; no walk. -/
import Derived.Test.YtjkkpdflijjllaaWnAddQ
import Derived.Sort.Walk0
namespace Go.Proofs.Ytjkkpdflijjllaa

abbrev kyC (s : ByteArray) : List UInt8 := s.data.toList
theorem kyC_inj {a b : ByteArray} (h : kyC a = kyC b) : a = b := by
  obtain ⟨⟨a⟩⟩ := a
  obtain ⟨⟨b⟩⟩ := b
  simp only [kyC] at h
  rw [h]
theorem eqC_eq {a b : ByteArray} : eqC a b = true ↔ a = b := by
  unfold eqC
  rw [beq_iff_eq, Lib.toList_data, Lib.toList_data]
  exact ⟨kyC_inj, fun h => by rw [h]⟩
theorem eqC_ne {a b : ByteArray} : eqC a b = false ↔ a ≠ b := by
  rw [← Bool.not_eq_true, not_congr eqC_eq]
theorem gtC_iff {n m : ByteArray} : gtC n m = true ↔ ¬ kyC m < kyC n := by
  unfold gtC
  rw [Lib.toList_data, Lib.toList_data, Go.Proofs.bytesLess_eq]
  simp
theorem gtC_lt {n m : ByteArray} (h : gtC n m = true) (hne : m ≠ n) : kyC n < kyC m := by
  rw [gtC_iff] at h
  by_cases h1 : kyC n < kyC m
  · exact h1
  · exact absurd (kyC_inj (List.le_antisymm (List.not_lt.1 h1) (List.not_lt.1 h))) hne
theorem gtC_no {n m : ByteArray} (h : ¬ gtC n m = true) : kyC m < kyC n := by
  rw [gtC_iff] at h
  exact Classical.not_not.1 h
/-- Credits by rising names. -/
def RsC (l : List Cr) : Prop := l.Pairwise fun a b => kyC a.name < kyC b.name
theorem RsC.ne {l : List Cr} (h : RsC l) : l.Pairwise fun a b => a.name ≠ b.name := h.imp fun {a b} hab e => by rw [e] at hab; exact List.lt_irrefl _ hab
theorem RsC.only {l : List Cr} (h : RsC l) {x y : Cr} (hx : x ∈ l) (hy : y ∈ l) (e : x.name = y.name) : x = y := by
  induction l with
  | nil => cases hx
  | cons a l ih =>
    have hc := List.pairwise_cons.1 h
    rcases List.mem_cons.1 hx with hx1 | hx1 <;> rcases List.mem_cons.1 hy with hy1 | hy1
    · rw [hx1, hy1]
    · have := hc.1 y hy1
      rw [← hx1, e] at this
      exact absurd this (List.lt_irrefl _)
    · have := hc.1 x hx1
      rw [← hy1, e] at this
      exact absurd this (List.lt_irrefl _)
    · exact ih hc.2 hx1 hy1
theorem credG_done {n : ByteArray} {inc : Int} : ∀ {l : List Cr}, (∀ x ∈ l, x.name ≠ n) → credG n inc true l = l
  | [], _ => rfl
  | x :: l, h => by
    have h1 := h x (by simp)
    have e := eqC_ne.2 h1
    unfold credG
    rw [e, credG_done fun y hy => h y (by simp [hy])]
    simp
theorem addC_name (x : Cr) (inc : Int) : (addC x inc).name = x.name := by unfold addC; split <;> rfl
/-- A name that is there. -/
theorem cred_here {n : ByteArray} {inc : Int} : ∀ {l : List Cr}, RsC l → ∀ {x : Cr}, x ∈ l → x.name = n →
    (∀ y, y ∈ credL n inc l ↔ (y ∈ l ∧ y.name ≠ n) ∨ y = addC x inc) ∧ (credL n inc l).map Cr.name = l.map Cr.name
  | [], _, x, hx, _ => by cases hx
  | a :: l, h, x, hx, e => by
    have hc := List.pairwise_cons.1 h
    unfold credL credG
    cases ha : eqC a.name n with
    | true =>
      have ha' := eqC_eq.1 ha
      have hne : ∀ y ∈ l, y.name ≠ n := fun y hy q => by
        have := hc.1 y hy
        rw [ha', q] at this
        exact List.lt_irrefl _ this
      have hxa : x = a := by
        rcases List.mem_cons.1 hx with h1 | h1
        · exact h1
        · exact absurd e (hne x h1)
      subst hxa
      simp only [if_true]
      rw [credG_done hne]
      refine ⟨fun y => ?_, by simp [addC_name]⟩
      simp only [List.mem_cons]
      constructor
      · rintro (h1 | h1)
        · exact .inr h1
        · exact .inl ⟨.inr h1, hne y h1⟩
      · rintro (⟨h1 | h1, h2⟩ | h1)
        · exact absurd (by rw [h1]; exact ha') h2
        · exact .inr h1
        · exact .inl h1
    | false =>
      have ha' := eqC_ne.1 ha
      have hxl : x ∈ l := by
        rcases List.mem_cons.1 hx with h1 | h1
        · exact absurd (by rw [← h1]; exact e) ha'
        · exact h1
      have hlt := hc.1 x hxl
      rw [e] at hlt
      have hg : gtC n a.name = false := by
        cases hg : gtC n a.name with
        | false => rfl
        | true => exact absurd hlt (gtC_iff.1 hg)
      simp only [hg, Bool.and_false, Bool.false_eq_true, if_false]
      obtain ⟨i1, i2⟩ := cred_here (n := n) (inc := inc) hc.2 hxl e
      unfold credL at i1 i2
      refine ⟨fun y => ?_, by rw [List.map_cons, i2]; rfl⟩
      simp only [List.mem_cons]
      rw [i1 y]
      constructor
      · rintro (h1 | ⟨h1, h2⟩ | h1)
        · exact .inl ⟨.inl h1, by rw [h1]; exact ha'⟩
        · exact .inl ⟨.inr h1, h2⟩
        · exact .inr h1
      · rintro (⟨h1 | h1, h2⟩ | h1)
        · exact .inl h1
        · exact .inr (.inl ⟨h1, h2⟩)
        · exact .inr (.inr h1)
/-- A name that comes. -/
theorem cred_new {n : ByteArray} {inc : Int} : ∀ {l : List Cr}, RsC l → (∀ x ∈ l, x.name ≠ n) →
    (∀ y, y ∈ credL n inc l ↔ y ∈ l ∨ y = ⟨n, inc, false⟩) ∧ (credL n inc l).length = l.length + 1 ∧ RsC (credL n inc l)
  | [], _, _ => by
    unfold credL credG
    exact ⟨by simp, rfl, List.pairwise_singleton _ _⟩
  | a :: l, h, hn => by
    have hc := List.pairwise_cons.1 h
    have hna := hn a (by simp)
    have hnl : ∀ x ∈ l, x.name ≠ n := fun x hx => hn x (by simp [hx])
    unfold credL credG
    rw [eqC_ne.2 hna]
    by_cases hg : gtC n a.name = true
    · simp only [hg, Bool.not_false, Bool.and_true, Bool.false_eq_true, if_false, if_true]
      rw [credG_done hnl]
      refine ⟨fun y => ?_, by simp, ?_⟩
      · simp only [List.mem_cons]
        constructor
        · rintro (h1 | h1)
          · exact .inr h1
          · exact .inl h1
        · rintro (h1 | h1)
          · exact .inr h1
          · exact .inl h1
      · have hlt := gtC_lt hg hna
        refine List.pairwise_cons.2 ⟨fun y hy => ?_, h⟩
        rcases List.mem_cons.1 hy with rfl | hy
        · exact hlt
        · exact List.lt_trans hlt (hc.1 y hy)
    · have hg' : gtC n a.name = false := by simpa using hg
      simp only [hg', Bool.and_false, Bool.false_eq_true, if_false]
      obtain ⟨i1, i2, i3⟩ := cred_new (n := n) (inc := inc) hc.2 hnl
      unfold credL at i1 i2 i3
      refine ⟨fun y => ?_, by simp [i2], List.pairwise_cons.2 ⟨fun y hy => ?_, i3⟩⟩
      · simp only [List.mem_cons]
        rw [i1 y]
        exact or_assoc.symm
      · rcases (i1 y).1 hy with h1 | rfl
        · exact hc.1 y h1
        · exact gtC_no hg
theorem RsC.of_names {l m : List Cr} (h : RsC l) (e : m.map Cr.name = l.map Cr.name) : RsC m := by
  have h1 : (l.map Cr.name).Pairwise fun a b => kyC a < kyC b := List.pairwise_map.2 h
  rw [← e] at h1
  unfold RsC
  rwa [List.pairwise_map] at h1
/-- What is told of a name. -/
abbrev SM : Type := ByteArray → Option Value
def sumV (x : Cr) : Value := .agg #[.int .i64 x.inc, .bool x.over]
/-- The map and the list tell the same. -/
structure TelC (f : SM) (l : List Cr) : Prop where
  rise : RsC l
  mem : ∀ x ∈ l, f x.name = some (sumV x)
  all : ∀ n v, f n = some v → ∃ x ∈ l, x.name = n
  size : ∀ x ∈ l, x.name.size ≤ 140737488355328
theorem TelC.nil : TelC (fun _ => none) [] := ⟨.nil, (by simp), (fun _ _ h => by cases h), (by simp)⟩
theorem TelC.none {f : SM} {l : List Cr} (h : TelC f l) {n : ByteArray} (hn : f n = .none) : ∀ x ∈ l, x.name ≠ n := fun x hx e => by
  have := h.mem x hx
  rw [e, hn] at this
  cases this
theorem TelC.some {f : SM} {l : List Cr} (h : TelC f l) {n : ByteArray} {v : Value} (hn : f n = .some v) : ∃ x ∈ l, x.name = n ∧ v = sumV x := by
  obtain ⟨x, hx, e⟩ := h.all n v hn
  have := h.mem x hx
  rw [e, hn] at this
  exact ⟨x, hx, e, Option.some.inj this⟩
theorem TelC.keys {f : SM} {l : List Cr} (h : TelC f l) : ∀ s : List UInt8, s ∈ l.map (fun x => kyC x.name) ↔ (f ⟨s.toArray⟩).isSome = true := fun s => by
  rw [List.mem_map]
  constructor
  · rintro ⟨x, hx, rfl⟩
    have := h.mem x hx
    have e : (⟨(kyC x.name).toArray⟩ : ByteArray) = x.name := by simp [kyC]
    rw [e, this]
    rfl
  · intro hs
    obtain ⟨v, hv⟩ := Option.isSome_iff_exists.1 hs
    obtain ⟨x, hx, e⟩ := h.all _ _ hv
    exact ⟨x, hx, by rw [e]⟩
theorem TelC.riseK {f : SM} {l : List Cr} (h : TelC f l) : (l.map (fun x => kyC x.name)).Pairwise (· < ·) := List.pairwise_map.2 h.rise
/-- A gain comes. -/
theorem TelC.cred {f : SM} {l : List Cr} (h : TelC f l) {n : ByteArray} (hs : n.size ≤ 140737488355328) (inc : Int) {v : Value}
    (hv : match f n with | .none => v = sumV ⟨n, inc, false⟩ | .some _ => ∀ x ∈ l, x.name = n → v = sumV (addC x inc)) :
    TelC (fun m => if m = n then Option.some v else f m) (credL n inc l) ∧ (credL n inc l).length = if (f n).isSome then l.length else l.length + 1 := by
  cases hf : f n with
  | some u =>
    obtain ⟨x, hx, e, rfl⟩ := h.some hf
    rw [hf] at hv
    have hv := hv x hx e
    obtain ⟨i1, i2⟩ := cred_here (inc := inc) h.rise hx e
    have hlen : (credL n inc l).length = l.length := by
      have := congrArg List.length i2
      simpa using this
    refine ⟨⟨h.rise.of_names i2, fun y hy => ?_, fun m u hm => ?_, fun y hy => ?_⟩, by rw [hlen]; rfl⟩
    · rcases (i1 y).1 hy with ⟨h1, h2⟩ | rfl
      · rw [if_neg h2]
        exact h.mem y h1
      · rw [if_pos (by rw [addC_name]; exact e), hv]
    · by_cases hmn : m = n
      · exact ⟨addC x inc, (i1 _).2 (.inr rfl), by rw [addC_name, e, hmn]⟩
      · rw [if_neg hmn] at hm
        obtain ⟨y, hy, e2⟩ := h.all m u hm
        exact ⟨y, (i1 y).2 (.inl ⟨hy, by rw [e2]; exact hmn⟩), e2⟩
    · rcases (i1 y).1 hy with ⟨h1, h2⟩ | rfl
      · exact h.size y h1
      · rw [addC_name, e]; exact hs
  | none =>
    rw [hf] at hv
    have hv : v = sumV ⟨n, inc, false⟩ := hv
    obtain ⟨i1, i2, i3⟩ := cred_new (inc := inc) h.rise (h.none hf)
    refine ⟨⟨i3, fun y hy => ?_, fun m u hm => ?_, fun y hy => ?_⟩, by rw [i2]; rfl⟩
    · rcases (i1 y).1 hy with h1 | rfl
      · rw [if_neg (h.none hf y h1)]
        exact h.mem y h1
      · show (if n = n then _ else _) = _
        rw [if_pos rfl, hv]
    · by_cases hmn : m = n
      · exact ⟨_, (i1 _).2 (.inr rfl), hmn.symm⟩
      · rw [if_neg hmn] at hm
        obtain ⟨y, hy, e2⟩ := h.all m u hm
        exact ⟨y, (i1 y).2 (.inl hy), e2⟩
    · rcases (i1 y).1 hy with h1 | rfl
      · exact h.size y h1
      · exact hs
end Go.Proofs.Ytjkkpdflijjllaa
