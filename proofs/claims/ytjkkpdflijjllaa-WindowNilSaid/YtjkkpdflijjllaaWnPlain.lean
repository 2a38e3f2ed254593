/- Windows, plainly: credits by rising names, windows by rising numbers; no walk. -/
import Derived.Lib.IndexMore
import Derived.Lib.CutLaws
namespace Go.Proofs.Ytjkkpdflijjllaa

/-! Order -/
def ltN (a b : List UInt8) : Bool := Op.bytesLess a b
theorem ltN_nil (a : List UInt8) : ltN a [] = false := by cases a <;> rfl
theorem ltN_cons (a b : UInt8) (x y : List UInt8) : ltN (a :: x) (b :: y) = (decide (a < b) || (a == b && ltN x y)) := rfl
theorem ltN_irrefl (a : List UInt8) : ltN a a = false := by
  induction a with
  | nil => rfl
  | cons c a ih => rw [ltN_cons, ih]; simp [UInt8.lt_irrefl]
theorem u8_tri (a b : UInt8) : a < b ∨ a = b ∨ b < a := by
  rcases Nat.lt_trichotomy a.toNat b.toNat with h | h | h
  · exact .inl (UInt8.lt_iff_toNat_lt.2 h)
  · exact .inr (.inl (UInt8.toNat_inj.1 h))
  · exact .inr (.inr (UInt8.lt_iff_toNat_lt.2 h))
theorem u8_asymm {a b : UInt8} (h : a < b) : ¬ b < a := by
  rw [UInt8.lt_iff_toNat_lt] at *
  omega
theorem u8_ne {a b : UInt8} (h : a < b) : (a == b) = false := by
  rw [beq_eq_false_iff_ne]
  rintro rfl
  exact UInt8.lt_irrefl _ h
theorem u8_ne' {a b : UInt8} (h : a < b) : (b == a) = false := by
  rw [beq_eq_false_iff_ne]
  rintro rfl
  exact UInt8.lt_irrefl _ h
theorem ltN_trans : ∀ {a b c : List UInt8}, ltN a b = true → ltN b c = true → ltN a c = true
  | a, b, [], _, h => by rw [ltN_nil] at h; cases h
  | a, [], _ :: _, h, _ => by rw [ltN_nil] at h; cases h
  | [], _ :: _, _ :: _, _, _ => rfl
  | a :: x, b :: y, c :: z, h1, h2 => by
    rw [ltN_cons] at h1 h2 ⊢
    simp only [Bool.or_eq_true, decide_eq_true_eq, Bool.and_eq_true, beq_iff_eq] at h1 h2 ⊢
    rcases h1 with h1 | ⟨rfl, h1⟩
    · rcases h2 with h2 | ⟨rfl, h2⟩
      · left; rw [UInt8.lt_iff_toNat_lt] at *; omega
      · exact .inl h1
    · rcases h2 with h2 | ⟨rfl, h2⟩
      · exact .inl h2
      · exact .inr ⟨rfl, ltN_trans h1 h2⟩
theorem ltN_asymm {a b : List UInt8} (h : ltN a b = true) : ltN b a = false := by
  cases hb : ltN b a with
  | false => rfl
  | true => have := ltN_trans h hb; rw [ltN_irrefl] at this; cases this
theorem ltN_total : ∀ {a b : List UInt8}, ltN a b = false → ltN b a = false → a = b
  | [], [], _, _ => rfl
  | [], _ :: _, h, _ => by cases h
  | _ :: _, [], _, h => by cases h
  | a :: x, b :: y, h1, h2 => by
    rw [ltN_cons] at h1 h2
    simp only [Bool.or_eq_false_iff, decide_eq_false_iff_not, Bool.and_eq_false_iff, beq_eq_false_iff_ne] at h1 h2
    rcases u8_tri a b with h | rfl | h
    · exact absurd h h1.1
    · rw [ltN_total (h1.2.resolve_left (fun h => h rfl)) (h2.2.resolve_left (fun h => h rfl))]
    · exact absurd h h2.1
theorem compare_eq : ∀ (a b : List UInt8), Lib.compareBytes a b = if ltN a b = true then -1 else if ltN b a = true then 1 else 0
  | [], [] => rfl
  | [], _ :: _ => rfl
  | _ :: _, [] => rfl
  | a :: x, b :: y => by
    have ih := compare_eq x y
    rw [ltN_cons, ltN_cons]
    show (if a < b then (-1 : Int) else if b < a then 1 else Lib.compareBytes x y) = _
    rcases u8_tri a b with h | rfl | h
    · simp [h]
    · simp [UInt8.lt_irrefl, ih]
    · simp [h, u8_asymm h, u8_ne' h]
theorem compare_neg (a b : List UInt8) : decide (Lib.compareBytes a b < 0) = ltN a b := by
  rw [compare_eq]
  cases h1 : ltN a b
  · cases h2 : ltN b a <;> simp
  · simp
theorem compare_ge (a b : List UInt8) : decide (0 ≤ Lib.compareBytes a b) = !ltN a b := by
  rw [compare_eq]
  cases h1 : ltN a b
  · cases h2 : ltN b a <;> simp
  · simp

/-! Words -/
def isDg (c : UInt8) : Bool := decide (48 ≤ c.toNat ∧ c.toNat ≤ 57)
def isLt (c : UInt8) : Bool := decide ((97 ≤ c.toNat ∧ c.toNat ≤ 122) ∨ (65 ≤ c.toNat ∧ c.toNat ≤ 90) ∨ c.toNat = 95 ∨ c.toNat = 58)
def metAll (l : List UInt8) : Bool := l.all fun c => isLt c || isDg c
def metB : List UInt8 → Bool
  | [] => false
  | c :: r => decide ((c :: r).length ≤ 200) && !isDg c && metAll (c :: r)
def colB (l : List UInt8) : Bool := l.all fun c => decide (c.toNat ≠ 58)
def wrdB (l : List UInt8) : Bool := metB l && colB l
theorem metB_len {l : List UInt8} (h : metB l = true) : l.length ≤ 200 := by
  cases l with
  | nil => cases h
  | cons c r => simp only [metB, Bool.and_eq_true, decide_eq_true_eq] at h; exact h.1.1
theorem metB_mem {l : List UInt8} (h : metB l = true) : ∀ c ∈ l, (isLt c || isDg c) = true := by
  cases l with
  | nil => intro c hc; cases hc
  | cons c r => simp only [metB, Bool.and_eq_true] at h; exact List.all_eq_true.1 h.2
theorem metB_no {l : List UInt8} (h : metB l = true) {c : UInt8} (hc : (isLt c || isDg c) = false) : c ∉ l := fun hm => by
  rw [metB_mem h c hm] at hc
  cases hc
theorem wrdB_no {l : List UInt8} (h : wrdB l = true) {c : UInt8} (hc : (isLt c || isDg c) = false) : c ∉ l := by
  unfold wrdB at h
  rw [Bool.and_eq_true] at h
  exact metB_no h.1 hc

/-! Values -/
def esc1 (c : UInt8) : List UInt8 := if c = 10 then [92, 110] else if c = 92 ∨ c = 34 then [92, c] else [c]
def escL (l : List UInt8) : List UInt8 := l.flatMap esc1
theorem escL_cons (c : UInt8) (l : List UInt8) : escL (c :: l) = esc1 c ++ escL l := rfl
theorem escL_append (l m : List UInt8) : escL (l ++ m) = escL l ++ escL m := List.flatMap_append
theorem esc1_len (c : UInt8) : (esc1 c).length ≤ 2 := by unfold esc1; split; decide; split <;> simp
theorem escL_len (l : List UInt8) : (escL l).length ≤ 2 * l.length := by
  induction l with
  | nil => exact Nat.le_refl _
  | cons c l ih => rw [escL_cons, List.length_append, List.length_cons]; have := esc1_len c; omega
def rdV : List UInt8 → Option (List UInt8 × List UInt8)
  | [] => some ([], [])
  | [c] => if c = 34 then some ([], [c]) else if c = 10 then none else if c = 92 then none else some ([c], [])
  | c :: d :: r =>
    if c = 34 then some ([], c :: d :: r) else if c = 10 then none
    else if c = 92 then (if d = 110 then (rdV r).map fun p => (10 :: p.1, p.2) else if d = 92 ∨ d = 34 then (rdV r).map fun p => (d :: p.1, p.2) else none)
    else (rdV (d :: r)).map fun p => (c :: p.1, p.2)
theorem rdV_quote (r : List UInt8) : rdV (34 :: r) = some ([], 34 :: r) := by cases r <;> simp [rdV]
theorem rdV_lf (r : List UInt8) : rdV (10 :: r) = none := by cases r <;> simp [rdV]
theorem rdV_slash (d : UInt8) (r : List UInt8) : rdV (92 :: d :: r) = if d = 110 then (rdV r).map fun p => (10 :: p.1, p.2) else if d = 92 ∨ d = 34 then (rdV r).map fun p => (d :: p.1, p.2) else none := by
  rw [rdV]; simp
theorem rdV_other {c : UInt8} (r : List UInt8) (h1 : c ≠ 34) (h2 : c ≠ 10) (h3 : c ≠ 92) : rdV (c :: r) = (rdV r).map fun p => (c :: p.1, p.2) := by
  cases r with
  | nil => simp [rdV, h1, h2, h3]
  | cons d r => rw [rdV]; simp [h1, h2, h3]
theorem rdV_esc (v r : List UInt8) (hr : r = [] ∨ ∃ r', r = 34 :: r') : rdV (escL v ++ r) = some (v, r) := by
  induction v with
  | nil =>
    rcases hr with rfl | ⟨r', rfl⟩
    · rfl
    · exact rdV_quote r'
  | cons c v ih =>
    rw [escL_cons, List.append_assoc]
    unfold esc1
    by_cases h1 : c = 10
    · subst h1
      rw [if_pos rfl]
      show rdV (92 :: 110 :: (escL v ++ r)) = _
      rw [rdV_slash, if_pos rfl, ih]; rfl
    · rw [if_neg h1]
      by_cases h2 : c = 92 ∨ c = 34
      · rw [if_pos h2]
        show rdV (92 :: c :: (escL v ++ r)) = _
        rw [rdV_slash, if_neg (by rintro rfl; revert h2; decide), if_pos h2, ih]; rfl
      · rw [if_neg h2]
        show rdV (c :: (escL v ++ r)) = _
        rw [rdV_other _ (fun h => h2 (.inr h)) h1 (fun h => h2 (.inl h)), ih]; rfl
theorem rdV_sound : ∀ (n : Nat) (s v r : List UInt8), s.length ≤ n → rdV s = some (v, r) → s = escL v ++ r ∧ (r = [] ∨ ∃ r', r = 34 :: r')
  | _, [], v, r, _, h => by
    simp [rdV] at h
    obtain ⟨rfl, rfl⟩ := h
    exact ⟨rfl, .inl rfl⟩
  | 0, _ :: _, _, _, hn, _ => by simp at hn
  | n + 1, c :: s, v, r, hn, h => by
    simp only [List.length_cons] at hn
    by_cases h1 : c = 34
    · subst h1
      rw [rdV_quote] at h
      cases h
      exact ⟨rfl, .inr ⟨s, rfl⟩⟩
    by_cases h2 : c = 10
    · subst h2
      rw [rdV_lf] at h
      cases h
    by_cases h3 : c = 92
    · subst h3
      cases s with
      | nil => simp [rdV] at h
      | cons d s =>
        simp only [List.length_cons] at hn
        rw [rdV_slash] at h
        by_cases h4 : d = 110
        · subst h4
          rw [if_pos rfl, Option.map_eq_some_iff] at h
          obtain ⟨⟨v', r'⟩, h5, h6⟩ := h
          cases h6
          obtain ⟨e, hr⟩ := rdV_sound n s v' r' (by omega) h5
          exact ⟨by rw [e]; rfl, hr⟩
        · rw [if_neg h4] at h
          by_cases h5 : d = 92 ∨ d = 34
          · rw [if_pos h5, Option.map_eq_some_iff] at h
            obtain ⟨⟨v', r'⟩, h6, h7⟩ := h
            cases h7
            obtain ⟨e, hr⟩ := rdV_sound n s v' r' (by omega) h6
            refine ⟨?_, hr⟩
            rw [e, escL_cons]
            unfold esc1
            rw [if_neg (by rintro rfl; revert h5; decide), if_pos h5]
            rfl
          · rw [if_neg h5] at h; cases h
    · rw [rdV_other s h1 h2 h3, Option.map_eq_some_iff] at h
      obtain ⟨⟨v', r'⟩, h6, h7⟩ := h
      cases h7
      obtain ⟨e, hr⟩ := rdV_sound n s v' r' (by omega) h6
      refine ⟨?_, hr⟩
      rw [e, escL_cons]
      unfold esc1
      rw [if_neg h2, if_neg (by rintro (h | h); exact h3 h; exact h1 h)]
      rfl
/-- What stands between quotes, as a value. -/
def unescP (s : List UInt8) : Option (List UInt8) :=
  match rdV s with
  | some (v, []) => some v
  | _ => none
theorem unescP_esc (v : List UInt8) : unescP (escL v) = some v := by
  unfold unescP
  have := rdV_esc v [] (.inl rfl)
  rw [List.append_nil] at this
  rw [this]
theorem unescP_sound {s v : List UInt8} (h : unescP s = some v) : s = escL v := by
  unfold unescP at h
  split at h
  · rename_i w hw
    cases h
    have := (rdV_sound _ s _ _ (Nat.le_refl _) hw).1
    rwa [List.append_nil] at this
  · cases h

/-! Series -/
abbrev Lbl := List UInt8 × List UInt8
def labT (x : Lbl) : List UInt8 := x.1 ++ 61 :: 34 :: (escL x.2 ++ [34])
def restT : List Lbl → List UInt8
  | [] => [125]
  | x :: l => 44 :: (labT x ++ restT l)
def bodyT : List Lbl → List UInt8
  | [] => []
  | x :: l => 123 :: (labT x ++ restT l)
def textT (m : List UInt8) (l : List Lbl) : List UInt8 := m ++ bodyT l
def rising : List Lbl → Bool
  | x :: y :: l => ltN x.1 y.1 && rising (y :: l)
  | _ => true
def labB (x : Lbl) : Bool := wrdB x.1 && decide (x.2.length ≤ 1024)
def labsB (l : List Lbl) : Bool := l.all labB
/-- What the program asks of a metric's name and labels, of which there are not too many. -/
def checkB (m : List UInt8) (l : List Lbl) : Bool := metB m && (labsB l && rising l)
def validB (m : List UInt8) (l : List Lbl) : Bool := checkB m l && decide (l.length ≤ 16)

theorem cut_eq {s sep : List UInt8} {i : Nat} (h : Lib.index s sep = i) : Lib.cut s sep = (s.take i, s.drop (i + sep.length), true) := by
  unfold Lib.cut
  rw [h, if_pos (by omega)]
  simp
theorem cut_no {s sep : List UInt8} (h : Lib.index s sep = -1) : Lib.cut s sep = (s, [], false) := by
  unfold Lib.cut
  rw [h, if_neg (by omega)]
theorem index_cons (c : UInt8) (l sub : List UInt8) : Lib.index (c :: l) sub = if sub.isPrefixOf (c :: l) then 0 else if Lib.index l sub == -1 then -1 else Lib.index l sub + 1 := by rw [Lib.index]
theorem index_behind {m : List UInt8} {c : UInt8} {sub r : List UInt8} (h : c ∉ m) : Lib.index (m ++ c :: (sub ++ r)) (c :: sub) = m.length := by
  induction m with
  | nil =>
    rw [List.nil_append, index_cons, if_pos]
    · rfl
    · simp [List.isPrefixOf]
  | cons d m ih =>
    rw [List.cons_append, index_cons, if_neg, ih (fun hm => h (List.mem_cons_of_mem _ hm)), if_neg]
    · rfl
    · simp
    · have hd : c ≠ d := fun e => h (e ▸ List.mem_cons_self ..)
      simp [List.isPrefixOf, hd]
theorem cut_behind {m : List UInt8} {c : UInt8} {sub r : List UInt8} (h : c ∉ m) : Lib.cut (m ++ c :: (sub ++ r)) (c :: sub) = (m, r, true) := by
  rw [cut_eq (index_behind h)]
  simp
theorem index_mem {s sub : List UInt8} {i : Nat} (h : Lib.index s sub = i) : ∃ a b, s = a ++ (sub ++ b) ∧ a.length = i := by
  induction s generalizing i with
  | nil =>
    rw [Lib.index] at h
    cases sub with
    | nil => exact ⟨[], [], rfl, by simp at h; simp; omega⟩
    | cons c sub => simp at h
  | cons d s ih =>
    rw [index_cons] at h
    by_cases hp : sub.isPrefixOf (d :: s) = true
    · rw [if_pos hp] at h
      obtain ⟨t, ht⟩ := List.isPrefixOf_iff_prefix.1 hp
      exact ⟨[], t, ht.symm, by simp; omega⟩
    · rw [if_neg hp] at h
      by_cases h1 : (Lib.index s sub == -1) = true
      · rw [if_pos h1] at h; omega
      · rw [if_neg h1] at h
        obtain ⟨j, rfl⟩ : ∃ j, i = j + 1 := ⟨i - 1, by
          have := Lib.index_ge s sub
          simp at h1
          omega⟩
        obtain ⟨a, b, e, hl⟩ := ih (i := j) (by omega)
        exact ⟨d :: a, b, by rw [e]; rfl, by simp [hl]⟩
theorem cut_sound {s sep a b : List UInt8} (h : Lib.cut s sep = (a, b, true)) : s = a ++ (sep ++ b) := by
  have hge := Lib.index_ge s sep
  rcases Int.lt_or_le (Lib.index s sep) 0 with h1 | h1
  · rw [cut_no (by omega)] at h; cases h
  · obtain ⟨i, hi⟩ : ∃ i : Nat, Lib.index s sep = i := ⟨_, (Int.toNat_of_nonneg h1).symm⟩
    rw [cut_eq hi] at h
    obtain ⟨x, y, e, hl⟩ := index_mem hi
    have ha : s.take i = a := (Prod.ext_iff.1 h).1
    have hb : s.drop (i + sep.length) = b := (Prod.ext_iff.1 (Prod.ext_iff.1 h).2).1
    rw [e] at ha hb
    rw [← hl, List.take_left] at ha
    have : x ++ (sep ++ y) = (x ++ sep) ++ y := by simp
    rw [this, ← hl, ← List.length_append, List.drop_left] at hb
    rw [e, ha, hb]

/-- The labels that stand behind the brace: k are left to be read. -/
def rdL : Nat → List UInt8 → Option (List Lbl)
  | 0, _ => none
  | k + 1, s =>
    if (Lib.cut s [61, 34]).2.2 = true then
      match rdV (Lib.cut s [61, 34]).2.1 with
      | none => none
      | some (_, []) => none
      | some (v, _ :: rest) =>
        if rest = [125] then some [((Lib.cut s [61, 34]).1, v)] else
          match rest with
          | [] => none
          | c :: s' => if c = 44 then (rdL k s').map fun l => ((Lib.cut s [61, 34]).1, v) :: l else none
    else none
theorem rdL_sound : ∀ (k : Nat) (s : List UInt8) (l : List Lbl), rdL k s = some l → ∃ x l', l = x :: l' ∧ s = labT x ++ restT l' ∧ l.length ≤ k
  | 0, _, _, h => by cases h
  | k + 1, s, l, h => by
    rw [rdL] at h
    split at h
    · rename_i hc
      have e1 := cut_sound (s := s) (sep := [61, 34]) (a := (Lib.cut s [61, 34]).1) (b := (Lib.cut s [61, 34]).2.1) (by rw [← hc])
      generalize (Lib.cut s [61, 34]).1 = nm at h e1
      generalize (Lib.cut s [61, 34]).2.1 = bh at h e1
      split at h
      · cases h
      · cases h
      · rename_i v c rest hv
        obtain ⟨e2, hr⟩ := rdV_sound _ _ _ _ (Nat.le_refl _) hv
        have hc : c = 34 := by
          rcases hr with hr | ⟨r', hr⟩
          · cases hr
          · cases hr; rfl
        subst hc
        split at h
        · rename_i h2
          subst h2
          cases h
          refine ⟨(nm, v), [], rfl, ?_, by simp⟩
          rw [e1, e2]
          simp [labT, restT]
        · split at h
          · cases h
          · rename_i _ d s' _
            split at h
            · rename_i h3
              subst h3
              rw [Option.map_eq_some_iff] at h
              obtain ⟨l', h4, rfl⟩ := h
              obtain ⟨x, l'', rfl, e3, hl⟩ := rdL_sound k s' l' h4
              refine ⟨(nm, v), x :: l'', rfl, ?_, by simp at hl ⊢; omega⟩
              rw [e1, e2, e3]
              simp [labT, restT]
            · cases h
    · cases h
theorem labB_name {x : Lbl} (h : labB x = true) : wrdB x.1 = true := by
  unfold labB at h
  rw [Bool.and_eq_true] at h
  exact h.1
theorem restT_ne (l : List Lbl) : ∃ c r, restT l = c :: r ∧ (l = [] → restT l = [125]) := by
  cases l with
  | nil => exact ⟨_, _, rfl, fun _ => rfl⟩
  | cons x l => exact ⟨_, _, rfl, fun h => by cases h⟩
theorem cut_lab {x : Lbl} (h : wrdB x.1 = true) (r : List UInt8) : Lib.cut (labT x ++ r) [61, 34] = (x.1, escL x.2 ++ 34 :: r, true) := by
  have e : labT x ++ r = x.1 ++ 61 :: ([34] ++ (escL x.2 ++ 34 :: r)) := by simp [labT]
  rw [e]
  exact cut_behind (wrdB_no h (by decide))
theorem rdL_text : ∀ (k : Nat) (x : Lbl) (l : List Lbl), labsB (x :: l) = true → (x :: l).length ≤ k → rdL k (labT x ++ restT l) = some (x :: l)
  | 0, _, _, _, h => by simp at h
  | k + 1, x, l, hl, hk => by
    unfold labsB at hl
    rw [List.all_cons, Bool.and_eq_true] at hl
    rw [rdL, cut_lab (labB_name hl.1)]
    rw [if_pos rfl, rdV_esc _ _ (.inr ⟨_, rfl⟩)]
    cases l with
    | nil =>
      exact if_pos rfl
    | cons y l =>
      have ih := rdL_text k y l hl.2 (by simp at hk ⊢; omega)
      show (if 44 :: (labT y ++ restT l) = [125] then _ else _) = _
      rw [if_neg (by simp)]
      show (if (44 : UInt8) = 44 then (rdL k (labT y ++ restT l)).map _ else none) = _
      rw [if_pos rfl, ih]
      rfl

/-- The program's reader. -/
def parseP (s : List UInt8) : Option (List UInt8 × List Lbl) :=
  if (Lib.cut s [123]).2.2 = true then
    match rdL 16 (Lib.cut s [123]).2.1 with
    | none => none
    | some l => if checkB (Lib.cut s [123]).1 l = true then some ((Lib.cut s [123]).1, l) else none
  else if checkB s [] = true then some (s, []) else none
theorem checkB_met {m : List UInt8} {l : List Lbl} (h : checkB m l = true) : metB m = true := by
  unfold checkB at h
  rw [Bool.and_eq_true] at h
  exact h.1
theorem checkB_labs {m : List UInt8} {l : List Lbl} (h : checkB m l = true) : labsB l = true := by
  unfold checkB at h
  rw [Bool.and_eq_true, Bool.and_eq_true] at h
  exact h.2.1
theorem parseP_sound {s m : List UInt8} {l : List Lbl} (h : parseP s = some (m, l)) : validB m l = true ∧ s = textT m l := by
  unfold parseP at h
  split at h
  · rename_i hc
    have e1 := cut_sound (s := s) (sep := [123]) (a := (Lib.cut s [123]).1) (b := (Lib.cut s [123]).2.1) (by rw [← hc])
    generalize (Lib.cut s [123]).1 = nm at h e1
    generalize (Lib.cut s [123]).2.1 = bh at h e1
    split at h
    · cases h
    · rename_i l' hl
      split at h
      · rename_i hk
        cases h
        obtain ⟨x, l'', rfl, e2, hl2⟩ := rdL_sound _ _ _ hl
        refine ⟨by unfold validB; rw [hk]; simp; simpa using hl2, ?_⟩
        rw [e1, e2]
        simp [textT, bodyT]
      · cases h
  · split at h
    · rename_i hk
      cases h
      exact ⟨by unfold validB; rw [hk]; rfl, by simp [textT, bodyT]⟩
    · cases h
theorem index_no {m : List UInt8} {c : UInt8} (h : c ∉ m) : Lib.index m [c] = -1 := by
  induction m with
  | nil => rfl
  | cons d m ih =>
    have hd : c ≠ d := fun e => h (e ▸ List.mem_cons_self ..)
    rw [index_cons, if_neg (by simp [List.isPrefixOf, hd]), ih (fun hm => h (List.mem_cons_of_mem _ hm))]
    rfl
theorem parseP_text {m : List UInt8} {l : List Lbl} (h : validB m l = true) : parseP (textT m l) = some (m, l) := by
  unfold validB at h
  rw [Bool.and_eq_true, decide_eq_true_eq] at h
  have hm : (123 : UInt8) ∉ m := metB_no (checkB_met h.1) (by decide)
  unfold parseP
  cases l with
  | nil =>
    have e : textT m [] = m := by simp [textT, bodyT]
    rw [e, cut_no (index_no hm)]
    rw [if_neg (by simp), if_pos h.1]
  | cons x l =>
    have e : textT m (x :: l) = m ++ 123 :: ([] ++ (labT x ++ restT l)) := by simp [textT, bodyT]
    rw [e, cut_behind hm, if_pos rfl]
    show (match rdL 16 (labT x ++ restT l) with | none => none | some l' => if checkB m l' = true then some (m, l') else none) = _
    rw [rdL_text 16 x l (checkB_labs h.1) h.2]
    show (if checkB m (x :: l) = true then some (m, x :: l) else none) = _
    rw [if_pos h.1]
theorem parseP_iff {s m : List UInt8} {l : List Lbl} : parseP s = some (m, l) ↔ validB m l = true ∧ s = textT m l :=
  ⟨parseP_sound, fun ⟨h, e⟩ => e ▸ parseP_text h⟩
theorem text_inj {m m' : List UInt8} {l l' : List Lbl} (h : validB m l = true) (h' : validB m' l' = true) (e : textT m l = textT m' l') : m = m' ∧ l = l' := by
  have := parseP_text h
  rw [e, parseP_text h'] at this
  cases this
  exact ⟨rfl, rfl⟩
end Go.Proofs.Ytjkkpdflijjllaa

namespace Go.Proofs.Ytjkkpdflijjllaa

structure Cr where
  name : ByteArray
  inc : Int
  over : Bool
structure Wn where
  num : Int
  cr : List Cr
instance : Inhabited Cr := ⟨⟨⟨#[]⟩, 0, false⟩⟩
instance : Inhabited Wn := ⟨⟨0, []⟩⟩
def Cr.cells (x : Cr) : List Value := [.string x.name, .int .i64 x.inc, .bool x.over]
def Cr.val' (x : Cr) : Value := .agg #[.string x.name, .int .i64 x.inc, .bool x.over]
def eqC (a b : ByteArray) : Bool := a.toList == b.toList
/-- Is a name above, where it is another one? -/
def gtC (n m : ByteArray) : Bool := !Op.bytesLess m.toList n.toList
/-- A credit and an increase more. -/
def addC (x : Cr) (inc : Int) : Cr := if 9223372036854775807 < x.inc + inc then ⟨x.name, 9223372036854775807, true⟩ else ⟨x.name, x.inc + inc, x.over⟩
/-- Credits and a gain more; is it told already? -/
def credG (n : ByteArray) (inc : Int) : Bool → List Cr → List Cr
  | done, [] => if done then [] else [⟨n, inc, false⟩]
  | done, x :: l =>
    if eqC x.name n then addC x inc :: credG n inc true l
    else if !done && gtC n x.name then ⟨n, inc, false⟩ :: x :: credG n inc true l
    else x :: credG n inc done l
def credL (n : ByteArray) (inc : Int) (l : List Cr) : List Cr := credG n inc false l
/-- What has been told of the credits ahead, and whether the gain is among it. -/
def credT (n : ByteArray) (inc : Int) : Bool → List Cr → List Cr × Bool
  | done, [] => ([], done)
  | done, x :: l =>
    if eqC x.name n then ((addC x inc :: (credT n inc true l).1), (credT n inc true l).2)
    else if !done && gtC n x.name then (⟨n, inc, false⟩ :: x :: (credT n inc true l).1, (credT n inc true l).2)
    else (x :: (credT n inc done l).1, (credT n inc done l).2)
theorem credG_T (n : ByteArray) (inc : Int) : ∀ (done : Bool) (l : List Cr), credG n inc done l = (credT n inc done l).1 ++ (if (credT n inc done l).2 then [] else [⟨n, inc, false⟩])
  | done, [] => by cases done <;> rfl
  | done, x :: l => by
    simp only [credG, credT]
    split
    · rw [credG_T n inc true l]; rfl
    · split
      · rw [credG_T n inc true l]; rfl
      · rw [credG_T n inc done l]; rfl
/-- One credit more is told. -/
def credS (n : ByteArray) (inc : Int) (p : List Cr × Bool) (x : Cr) : List Cr × Bool :=
  if eqC x.name n then (p.1 ++ [addC x inc], true)
  else if !p.2 && gtC n x.name then (p.1 ++ [⟨n, inc, false⟩, x], true)
  else (p.1 ++ [x], p.2)
theorem credT_snoc (n : ByteArray) (inc : Int) : ∀ (done : Bool) (l : List Cr) (x : Cr), credT n inc done (l ++ [x]) = credS n inc (credT n inc done l) x
  | done, [], x => by
    simp only [List.nil_append, credT, credS]
    split
    · rfl
    · split
      · rename_i h
        simp [h]
      · rename_i h
        simp [h]
  | done, y :: l, x => by
    simp only [List.cons_append, credT]
    split
    · rw [credT_snoc n inc true l x]
      unfold credS
      simp only
      split
      · rfl
      · split <;> rfl
    · split
      · rw [credT_snoc n inc true l x]
        unfold credS
        simp only
        split
        · rfl
        · split <;> rfl
      · rw [credT_snoc n inc done l x]
        unfold credS
        simp only
        split
        · rfl
        · split <;> rfl
theorem credT_len (n : ByteArray) (inc : Int) : ∀ (done : Bool) (l : List Cr), (credT n inc done l).1.length ≤ l.length + 1 ∧ (done = true → (credT n inc done l).1.length = l.length)
  | done, [] => by simp [credT]
  | done, x :: l => by
    have h1 := credT_len n inc true l
    have h2 := credT_len n inc done l
    simp only [credT]
    split
    · have := h1.2 rfl
      simp; omega
    · split
      · rename_i hd
        have := h1.2 rfl
        simp
        refine ⟨by omega, fun e => ?_⟩
        simp [e] at hd
      · refine ⟨by simp; omega, fun e => ?_⟩
        have := h2.2 e
        simp; omega
/-- Increases are none below 0. -/
def COk (l : List Cr) : Prop := ∀ x ∈ l, 0 ≤ x.inc ∧ x.inc ≤ 9223372036854775807
theorem addC_ok {x : Cr} {inc : Int} (h : 0 ≤ x.inc ∧ x.inc ≤ 9223372036854775807) (hi : 0 ≤ inc) : 0 ≤ (addC x inc).inc ∧ (addC x inc).inc ≤ 9223372036854775807 := by
  unfold addC
  split <;> simp only <;> omega
theorem credG_ok {n : ByteArray} {inc : Int} (hi : 0 ≤ inc ∧ inc ≤ 9223372036854775807) : ∀ {done : Bool} {l : List Cr}, COk l → COk (credG n inc done l)
  | done, [], h => by
    unfold credG
    split
    · exact fun x hx => by cases hx
    · intro x hx
      rw [List.mem_singleton] at hx
      subst hx
      exact hi
  | done, x :: l, h => by
    have hx := h x (List.mem_cons_self ..)
    have hl : COk l := fun y hy => h y (List.mem_cons_of_mem _ hy)
    unfold credG
    split
    · intro y hy
      rcases List.mem_cons.1 hy with rfl | hy
      · exact addC_ok hx hi.1
      · exact credG_ok hi hl y hy
    · split
      · intro y hy
        rcases List.mem_cons.1 hy with rfl | hy
        · exact hi
        · rcases List.mem_cons.1 hy with rfl | hy
          · exact hx
          · exact credG_ok hi hl y hy
      · intro y hy
        rcases List.mem_cons.1 hy with rfl | hy
        · exact hx
        · exact credG_ok hi hl y hy
end Go.Proofs.Ytjkkpdflijjllaa
