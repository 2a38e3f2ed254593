/- A wheel, plainly: timers (number, time) by rising times, then numbers. -/
import Derived.WalkKit
namespace Go.Proofs.Ytaepgcicgmbbeaa

abbrev Fi := Int × Int
def part (a : Int) : Int := a / 64
def ltF (x y : Fi) : Bool := decide (x.2 < y.2 ∨ (x.2 = y.2 ∧ x.1 < y.1))
theorem ltF_iff {x y : Fi} : ltF x y = true ↔ (x.2 < y.2 ∨ (x.2 = y.2 ∧ x.1 < y.1)) := by unfold ltF; exact decide_eq_true_iff
theorem ltF_irrefl (x : Fi) : ltF x x = false := by unfold ltF; rw [decide_eq_false_iff_not]; omega
theorem ltF_trans {x y z : Fi} (h1 : ltF x y = true) (h2 : ltF y z = true) : ltF x z = true := by rw [ltF_iff] at *; omega
theorem ltF_asymm {x y : Fi} (h : ltF x y = true) : ltF y x = false := by
  cases h2 : ltF y x with
  | false => rfl
  | true => have := ltF_trans h h2; rw [ltF_irrefl] at this; cases this
theorem ltF_total {x y : Fi} (h1 : ltF x y = false) (h2 : ltF y x = false) : x = y := by
  unfold ltF at h1 h2
  rw [decide_eq_false_iff_not] at h1 h2
  obtain ⟨a, b⟩ := x
  obtain ⟨c, d⟩ := y
  simp only at h1 h2
  have e1 : a = c := by omega
  have e2 : b = d := by omega
  rw [e1, e2]
def Srt (l : List Fi) : Prop := l.Pairwise fun x y => ltF x y = true
theorem srt_ext : ∀ {l l' : List Fi}, Srt l → Srt l' → (∀ x, x ∈ l ↔ x ∈ l') → l = l'
  | [], [], _, _, _ => rfl
  | [], y :: l', _, _, h => absurd ((h y).2 (List.mem_cons_self ..)) (by simp)
  | x :: l, [], _, _, h => absurd ((h x).1 (List.mem_cons_self ..)) (by simp)
  | x :: l, y :: l', h1, h2, h => by
    have p1 := List.pairwise_cons.1 h1
    have p2 := List.pairwise_cons.1 h2
    have hxy : x = y := by
      rcases List.mem_cons.1 ((h x).1 (List.mem_cons_self ..)) with e | hx
      · exact e
      · rcases List.mem_cons.1 ((h y).2 (List.mem_cons_self ..)) with e | hy
        · exact e.symm
        · have a1 := p2.1 x hx
          have a2 := p1.1 y hy
          rw [ltF_asymm a1] at a2
          cases a2
    subst hxy
    rw [srt_ext p1.2 p2.2 fun z => ?_]
    have hz := h z
    simp only [List.mem_cons] at hz
    constructor
    · intro hm
      rcases hz.1 (.inr hm) with e | h3
      · subst e; have := p1.1 z hm; rw [ltF_irrefl] at this; cases this
      · exact h3
    · intro hm
      rcases hz.2 (.inr hm) with e | h3
      · subst e; have := p2.1 z hm; rw [ltF_irrefl] at this; cases this
      · exact h3
def Ids (l : List Fi) : Prop := l.Pairwise fun x y => x.1 ≠ y.1
theorem Ids.eq {l : List Fi} (h : Ids l) {x y : Fi} (hx : x ∈ l) (hy : y ∈ l) (e : x.1 = y.1) : x = y := by
  induction l with
  | nil => cases hx
  | cons a l ih =>
    have p := List.pairwise_cons.1 h
    rcases List.mem_cons.1 hx with rfl | hx'
    · rcases List.mem_cons.1 hy with rfl | hy'
      · rfl
      · exact absurd e (p.1 y hy')
    · rcases List.mem_cons.1 hy with rfl | hy'
      · exact absurd e.symm (p.1 x hx')
      · exact ih p.2 hx' hy'
theorem Ids.nodup {l : List Fi} (h : Ids l) : l.Nodup := h.imp fun hn e => hn (by rw [e])
theorem Ids.perm {l l' : List Fi} (h : Ids l) (hp : l.Perm l') : Ids l' := (hp.pairwise_iff (fun {_ _} h => Ne.symm h)).1 h
theorem nodup_le {α : Type} [BEq α] [LawfulBEq α] : ∀ {l l' : List α}, l.Nodup → (∀ x ∈ l, x ∈ l') → l.length ≤ l'.length
  | [], _, _, _ => Nat.zero_le _
  | x :: l, l', hn, h => by
    have p := List.nodup_cons.1 hn
    have hx := h x (List.mem_cons_self ..)
    have h1 := nodup_le (l := l) (l' := l'.erase x) p.2 fun y hy => (List.mem_erase_of_ne (fun e => p.1 (by rw [← e]; exact hy))).2 (h y (List.mem_cons_of_mem _ hy))
    have h2 := List.length_erase_of_mem hx
    have h3 := List.length_pos_of_mem hx
    simp only [List.length_cons]
    omega

structure WOk (T : Int) (L : List Fi) : Prop where
  srt : Srt L
  ids : Ids L
  low : ∀ x ∈ L, T ≤ x.2
  high : ∀ x ∈ L, x.2 ≤ 1125899906842624
  wf : ∀ x ∈ L, -9223372036854775808 ≤ x.1 ∧ x.1 ≤ 9223372036854775807
  now : -9223372036854775808 ≤ T ∧ T ≤ 9223372036854775807

def canL (id : Int) (L : List Fi) : List Fi := L.filter fun x => decide (x.1 ≠ id)
def insL (x : Fi) (L : List Fi) : List Fi := L.takeWhile (fun y => ltF y x) ++ x :: L.dropWhile (fun y => ltF y x)
def getL (id : Int) (L : List Fi) : Option Fi := L.find? fun x => decide (x.1 = id)
def dueL (to : Int) (L : List Fi) : List Fi := L.filter fun x => decide (x.2 ≤ to)
def restL (to : Int) (L : List Fi) : List Fi := L.filter fun x => decide (to < x.2)
theorem mem_canL {id : Int} {L : List Fi} {x : Fi} : x ∈ canL id L ↔ x ∈ L ∧ x.1 ≠ id := by unfold canL; simp
theorem mem_insL {x y : Fi} {L : List Fi} : y ∈ insL x L ↔ y = x ∨ y ∈ L := by
  have e := List.takeWhile_append_dropWhile (p := fun y => ltF y x) (l := L)
  unfold insL
  rw [List.mem_append, List.mem_cons]
  constructor
  · rintro (h | h | h)
    · exact .inr (by rw [← e]; exact List.mem_append.2 (.inl h))
    · exact .inl h
    · exact .inr (by rw [← e]; exact List.mem_append.2 (.inr h))
  · rintro (h | h)
    · exact .inr (.inl h)
    · rw [← e] at h
      rcases List.mem_append.1 h with h | h
      · exact .inl h
      · exact .inr (.inr h)
theorem insL_perm (x : Fi) (L : List Fi) : (x :: L).Perm (insL x L) := by
  have e := List.takeWhile_append_dropWhile (p := fun y => ltF y x) (l := L)
  unfold insL
  refine List.Perm.trans ?_ List.perm_middle.symm
  rw [e]
theorem insL_len (x : Fi) (L : List Fi) : (insL x L).length = L.length + 1 := by rw [← (insL_perm x L).length_eq]; rfl
theorem mem_dueL {to : Int} {L : List Fi} {x : Fi} : x ∈ dueL to L ↔ x ∈ L ∧ x.2 ≤ to := by unfold dueL; simp
theorem mem_restL {to : Int} {L : List Fi} {x : Fi} : x ∈ restL to L ↔ x ∈ L ∧ to < x.2 := by unfold restL; simp
theorem getL_some {id : Int} {L : List Fi} {x : Fi} (h : getL id L = some x) : x ∈ L ∧ x.1 = id := by
  unfold getL at h
  exact ⟨List.mem_of_find?_eq_some h, by simpa using List.find?_some h⟩
theorem getL_none {id : Int} {L : List Fi} (h : getL id L = none) : ∀ x ∈ L, x.1 ≠ id := by
  unfold getL at h
  intro x hx
  simpa using List.find?_eq_none.1 h x hx
theorem getL_mem {id : Int} {L : List Fi} (hi : Ids L) {x : Fi} (hx : x ∈ L) (e : x.1 = id) : getL id L = some x := by
  cases h : getL id L with
  | none => exact absurd e (getL_none h x hx)
  | some y =>
    obtain ⟨h1, h2⟩ := getL_some h
    rw [hi.eq h1 hx (h2.trans e.symm)]
theorem canL_none {id : Int} {L : List Fi} (h : getL id L = none) : canL id L = L := by
  unfold canL
  rw [List.filter_eq_self]
  intro x hx
  simpa using getL_none h x hx
theorem canL_perm {id : Int} {L : List Fi} (hi : Ids L) {x : Fi} (h : getL id L = some x) : L.Perm (x :: canL id L) := by
  obtain ⟨hx, e⟩ := getL_some h
  have h1 : (canL id L).Perm (L.erase x) := by
    refine List.perm_iff_count.2 fun y => ?_
    have n1 : (canL id L).Nodup := hi.nodup.filter _
    have n2 : (L.erase x).Nodup := hi.nodup.erase x
    have hm : y ∈ canL id L ↔ y ∈ L.erase x := by
      rw [mem_canL, hi.nodup.mem_erase_iff]
      constructor
      · rintro ⟨a, b⟩
        exact ⟨fun c => b (c ▸ e), a⟩
      · rintro ⟨a, b⟩
        exact ⟨b, fun c => a (hi.eq b hx (c.trans e.symm))⟩
    by_cases h : y ∈ canL id L
    · rw [n1.count, n2.count, if_pos h, if_pos (hm.1 h)]
    · rw [n1.count, n2.count, if_neg h, if_neg (fun h' => h (hm.2 h'))]
  exact (List.perm_cons_erase hx).trans (List.Perm.cons x h1.symm)
theorem WOk.filter {T T' : Int} {L : List Fi} (h : WOk T L) (p : Fi → Bool) (hT : -9223372036854775808 ≤ T' ∧ T' ≤ 9223372036854775807) (hl : ∀ x ∈ L, p x = true → T' ≤ x.2) : WOk T' (L.filter p) :=
  ⟨List.Pairwise.filter _ h.srt, List.Pairwise.filter _ h.ids, fun x hx => hl x (List.mem_filter.1 hx).1 (List.mem_filter.1 hx).2, fun x hx => h.high x (List.mem_filter.1 hx).1, fun x hx => h.wf x (List.mem_filter.1 hx).1, hT⟩
theorem WOk.can {T : Int} {L : List Fi} (h : WOk T L) (id : Int) : WOk T (canL id L) := h.filter _ h.now fun x hx _ => h.low x hx
theorem WOk.rest {T to : Int} {L : List Fi} (h : WOk T L) (hT : -9223372036854775808 ≤ to ∧ to ≤ 9223372036854775807) : WOk to (restL to L) := h.filter _ hT fun x _ hp => by simp at hp; omega
theorem takeWhile_srt {l : List Fi} (h : Srt l) (p : Fi → Bool) : Srt (l.takeWhile p) := List.Pairwise.sublist (List.takeWhile_sublist p) h
theorem dropWhile_srt {l : List Fi} (h : Srt l) (p : Fi → Bool) : Srt (l.dropWhile p) := List.Pairwise.sublist (List.dropWhile_sublist p) h
theorem mem_takeWhile_p {α : Type} {p : α → Bool} : ∀ {l : List α} {x : α}, x ∈ l.takeWhile p → p x = true
  | y :: l, x, h => by
    rw [List.takeWhile_cons] at h
    split at h
    · rename_i hp
      rcases List.mem_cons.1 h with rfl | h
      · exact hp
      · exact mem_takeWhile_p h
    · cases h
theorem drop_ge {x : Fi} : ∀ {l : List Fi}, Srt l → ∀ z ∈ l.dropWhile (fun y => ltF y x), ltF z x = false
  | [], _, z, hz => by cases hz
  | y :: l, h, z, hz => by
    have p := List.pairwise_cons.1 h
    rw [List.dropWhile_cons] at hz
    split at hz
    · exact drop_ge p.2 z hz
    · rename_i hy
      have hy : ltF y x = false := by simpa using hy
      rcases List.mem_cons.1 hz with rfl | hz
      · exact hy
      · cases h3 : ltF z x with
        | false => rfl
        | true => rw [ltF_trans (p.1 z hz) h3] at hy; cases hy
theorem WOk.ins {T : Int} {L : List Fi} (h : WOk T L) {x : Fi} (hn : ∀ y ∈ L, y.1 ≠ x.1) (hl : T ≤ x.2) (hh : x.2 ≤ 1125899906842624) (hw : -9223372036854775808 ≤ x.1 ∧ x.1 ≤ 9223372036854775807) : WOk T (insL x L) := by
  have e := List.takeWhile_append_dropWhile (p := fun y => ltF y x) (l := L)
  have hmd : ∀ z ∈ L.dropWhile (fun y => ltF y x), ltF x z = true := fun z hz => by
    have h1 := drop_ge h.srt z hz
    have hzL : z ∈ L := (List.dropWhile_sublist _).subset hz
    cases h2 : ltF x z with
    | true => rfl
    | false => exact absurd (congrArg Prod.fst (ltF_total h1 h2)) (hn z hzL)
  refine ⟨?_, ?_, fun y hy => ?_, fun y hy => ?_, fun y hy => ?_, h.now⟩
  · unfold insL Srt
    rw [List.pairwise_append, List.pairwise_cons]
    refine ⟨takeWhile_srt h.srt _, ⟨hmd, dropWhile_srt h.srt _⟩, fun y hy z hz => ?_⟩
    have hy1 : ltF y x = true := mem_takeWhile_p (p := fun y => ltF y x) hy
    rcases List.mem_cons.1 hz with rfl | hz
    · exact hy1
    · exact ltF_trans hy1 (hmd z hz)
  · exact Ids.perm (List.pairwise_cons.2 ⟨fun y hy => (hn y hy).symm, h.ids⟩) (insL_perm x L)
  · rcases mem_insL.1 hy with rfl | hy
    · exact hl
    · exact h.low y hy
  · rcases mem_insL.1 hy with rfl | hy
    · exact hh
    · exact h.high y hy
  · rcases mem_insL.1 hy with rfl | hy
    · exact hw
    · exact h.wf y hy
/-- What is set: an error's number, and the timers. -/
def setL (T : Int) (L : List Fi) (id at' : Int) : Int × List Fi := if at' < T ∨ 1125899906842624 < at' then (2, L) else (0, insL (id, at') (canL id L))
theorem WOk.set {T : Int} {L : List Fi} (h : WOk T L) {id at' : Int} (hw : -9223372036854775808 ≤ id ∧ id ≤ 9223372036854775807) : WOk T (setL T L id at').2 := by
  unfold setL
  split
  · exact h
  · rename_i hn
    exact (h.can id).ins (fun y hy => (mem_canL.1 hy).2) (by simp only; omega) (by simp only; omega) hw
theorem setL_len (T : Int) (L : List Fi) (id at' : Int) : (setL T L id at').2.length ≤ L.length + 1 := by
  unfold setL
  split
  · simp
  · simp only
    rw [insL_len]
    have : (canL id L).length ≤ L.length := List.length_filter_le _ _
    omega
def advL (T : Int) (L : List Fi) (to : Int) : List Fi × Int × List Fi := if to < T then ([], T, L) else (dueL to L, to, restL to L)
theorem dueL_srt {to T : Int} {L : List Fi} (h : WOk T L) : Srt (dueL to L) := List.Pairwise.filter _ h.srt
theorem WOk.adv {T : Int} {L : List Fi} (h : WOk T L) {to : Int} (hw : -9223372036854775808 ≤ to ∧ to ≤ 9223372036854775807) : WOk (advL T L to).2.1 (advL T L to).2.2 := by
  unfold advL
  split
  · exact h
  · exact h.rest hw
/-- Cut at a place: what is due stands first. -/
theorem srt_cut {to : Int} : ∀ {L : List Fi}, Srt L → L = dueL to L ++ restL to L
  | [], _ => rfl
  | x :: L, h => by
    have p := List.pairwise_cons.1 h
    have ih := srt_cut (to := to) p.2
    unfold dueL restL at *
    by_cases hx : x.2 ≤ to
    · rw [List.filter_cons_of_pos (by simpa using hx), List.filter_cons_of_neg (by simp; omega), List.cons_append, ← ih]
    · have hd : L.filter (fun x => decide (x.2 ≤ to)) = [] := by
        rw [List.filter_eq_nil_iff]
        intro y hy
        have := ltF_iff.1 (p.1 y hy)
        simp
        omega
      rw [List.filter_cons_of_neg (by simpa using hx), List.filter_cons_of_pos (by simp; omega), hd, List.nil_append]
      rw [hd, List.nil_append] at ih
      rw [← ih]
theorem due_due {a b : Int} {T : Int} {L : List Fi} (h : WOk T L) (hab : a ≤ b) : dueL a L ++ dueL b (restL a L) = dueL b L := by
  refine srt_ext ?_ (dueL_srt h) fun x => ?_
  · unfold Srt
    rw [List.pairwise_append]
    refine ⟨dueL_srt h, List.Pairwise.filter _ (List.Pairwise.filter _ h.srt), fun x hx y hy => ?_⟩
    have h1 := mem_dueL.1 hx
    have h2 := mem_restL.1 (mem_dueL.1 hy).1
    rw [ltF_iff]
    omega
  · rw [List.mem_append, mem_dueL, mem_dueL, mem_restL, mem_dueL]
    constructor
    · rintro (⟨h1, h2⟩ | ⟨⟨h1, h2⟩, h3⟩)
      · exact ⟨h1, by omega⟩
      · exact ⟨h1, h3⟩
    · rintro ⟨h1, h2⟩
      by_cases h3 : x.2 ≤ a
      · exact .inl ⟨h1, h3⟩
      · exact .inr ⟨⟨h1, by omega⟩, h2⟩
theorem rest_rest {a b : Int} {L : List Fi} (hab : a ≤ b) : restL b (restL a L) = restL b L := by
  unfold restL
  rw [List.filter_filter]
  refine List.filter_congr fun x _ => ?_
  simp only [← Bool.decide_and]
  exact decide_eq_decide.2 (by omega)
end Go.Proofs.Ytaepgcicgmbbeaa
