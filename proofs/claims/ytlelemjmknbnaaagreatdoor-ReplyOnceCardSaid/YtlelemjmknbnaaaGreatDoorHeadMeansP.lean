/- A beginning of bytes, and more behind: plainly. -/
import Derived.Test.YtlelemjmknbnaaaGreatDoorHeadParse
namespace Go.Proofs.YtlelemjmknbnaaaGreatDoor

theorem occ_more {s r sub : List UInt8} {i : Nat} (h : i + sub.length ≤ s.length) : Lib.occAt (s ++ r) sub i = Lib.occAt s sub i := by
  unfold Lib.occAt
  rw [List.drop_append_of_le_length (by omega)]
  rw [Bool.eq_iff_iff, List.isPrefixOf_iff_prefix, List.isPrefixOf_iff_prefix]
  constructor
  · intro hp
    exact List.prefix_of_prefix_length_le hp (List.prefix_append _ _) (by rw [List.length_drop]; omega)
  · intro hp
    exact hp.trans (List.prefix_append _ _)
/-- Where a line's end is found, it is found there with more behind. -/
theorem ended_more {s : List UInt8} (r : List UInt8) (h : endedB s = true) : endedB (s ++ r) = true ∧ cutL (s ++ r) = cutL s ∧ cutR (s ++ r) = cutR s ++ r := by
  unfold endedB at h
  rw [decide_eq_true_eq] at h
  have hroom := Lib.index_room s tEnd h
  have e2 : tEnd.length = 2 := rfl
  have hi : Lib.index (s ++ r) tEnd = Lib.index s tEnd := by
    rcases Lib.index_spec s tEnd with ⟨h1, _⟩ | ⟨i, h1, h2, h3, h4⟩
    · omega
    · rw [h1]
      refine Lib.index_first (by rw [List.length_append]; omega) (by rw [occ_more (by omega)]; exact h3) (fun j hj => ?_)
      rw [occ_more (by omega)]
      exact h4 j hj
  unfold endedB cutL cutR
  rw [hi, if_pos h, if_pos h, if_pos h, if_pos h, decide_eq_true h]
  refine ⟨rfl, ?_, ?_⟩
  · rw [List.take_append_of_le_length (by omega)]
  · rw [List.drop_append_of_le_length (by omega)]
theorem rows_fuel : ∀ (k : Nat) (j : Nat) (s : List UInt8) (fs : List Fld), s.length ≤ k → s.length ≤ j → rowsN j s fs = rowsN k s fs
  | 0, j, s, fs, hk, hj => by
    obtain rfl : s = [] := List.eq_nil_of_length_eq_zero (by omega)
    cases j with
    | zero => rfl
    | succ j => rfl
  | k + 1, 0, s, fs, hk, hj => by
    obtain rfl : s = [] := List.eq_nil_of_length_eq_zero (by omega)
    rfl
  | k + 1, j + 1, s, fs, hk, hj => by
    rw [rowsN, rowsN]
    by_cases he : endedB s = true
    · rw [if_pos he, if_pos he]
      by_cases hn : cutL s = []
      · rw [if_pos hn, if_pos hn]
      · rw [if_neg hn, if_neg hn]
        cases laterL fs (cutL s) with
        | none => rfl
        | some fs' => exact rows_fuel k j (cutR s) fs' (by have := cutR_lt he; omega) (by have := cutR_lt he; omega)
    · rw [if_neg he, if_neg he]
theorem rows_more : ∀ (k : Nat) (s r : List UInt8) (fs : List Fld), s.length ≤ k → rowsN (k + r.length) (s ++ r) fs = (match rowsN k s fs with | .part => rowsN (k + r.length) (s ++ r) fs | .bad => .bad | .whole fs' m => .whole fs' (m + r.length))
  | 0, s, r, fs, hk => rfl
  | k + 1, s, r, fs, hk => by
    rw [rowsN]
    by_cases he : endedB s = true
    · obtain ⟨h1, h2, h3⟩ := ended_more r he
      have hlt := cutR_lt he
      rw [if_pos he, show k + 1 + r.length = (k + r.length) + 1 by omega, rowsN, if_pos h1, h2, h3]
      by_cases hn : cutL s = []
      · rw [if_pos hn, if_pos hn]
        simp
      · rw [if_neg hn, if_neg hn]
        cases laterL fs (cutL s) with
        | none => rfl
        | some fs' => exact rows_more k (cutR s) r fs' (by omega)
    · rw [if_neg he]
theorem rows_rest : ∀ (k : Nat) {s : List UInt8} {fs fs' : List Fld} {r : Nat}, rowsN k s fs = .whole fs' r → r + 2 ≤ s.length
  | 0, _, _, _, _, h => by cases h
  | k + 1, s, fs, fs', r, h => by
    rw [rowsN] at h
    split at h
    · rename_i he
      have h1 := cutR_lt he
      split at h
      · cases h
        exact h1
      · split at h
        · cases h
        · have := rows_rest k h
          omega
    · cases h
/-- With more behind: an error stays, a whole head stays. -/
theorem readB_more {n m : Nat} {s r : List UInt8} (hn : ¬ 8192 ≤ n) : (match readB n s with | .part => True | x => readB m (s ++ r) = x) := by
  unfold readB
  have hp : partL n = .part := by unfold partL; rw [if_neg hn]
  by_cases he : endedB s = true
  · obtain ⟨h1, h2, h3⟩ := ended_more r he
    have hlt := cutR_lt he
    rw [if_pos he, if_pos h1, h2, h3]
    cases firstL (cutL s) with
    | none => simp only []
    | some q =>
      obtain ⟨old, st⟩ := q
      simp only []
      have hm := rows_more s.length (cutR s) r [] (by omega)
      rw [List.length_append, hm]
      cases hr : rowsN s.length (cutR s) [] with
      | part => simp only [rowsR, hp]
      | bad => simp only [rowsR]
      | whole fs k =>
        have := rows_rest _ hr
        simp only [rowsR]
        congr 1
        omega
  · rw [if_neg he, hp]
    trivial
theorem take_more {l r : List UInt8} (h : ¬ 8192 ≤ l.length) : (l ++ r).take 8192 = l ++ r.take (8192 - l.length) := by
  rw [List.take_append, List.take_of_length_le (by omega)]
theorem readL_more (l r : List UInt8) : (match readL l with | .part => True | x => readL (l ++ r) = x) := by
  by_cases h : 8192 ≤ l.length
  · have e : readL (l ++ r) = readL l := by
      unfold readL
      rw [List.take_append_of_le_length h]
      unfold readB partL
      rw [if_pos h, if_pos (show 8192 ≤ (l ++ r).length by rw [List.length_append]; omega)]
      by_cases he : endedB (l.take 8192) = true
      · rw [if_pos he, if_pos he]
        cases firstL (cutL (l.take 8192)) with
        | none => rfl
        | some q =>
          obtain ⟨old, st⟩ := q
          simp only []
          cases rowsN (l.take 8192).length (cutR (l.take 8192)) [] with
          | part => simp only [rowsR, partL]; rw [if_pos h, if_pos (show 8192 ≤ (l ++ r).length by rw [List.length_append]; omega)]
          | bad => rfl
          | whole fs k => rfl
      · rw [if_neg he, if_neg he]
    rw [e]
    cases readL l <;> trivial
  · have hm := readB_more (n := l.length) (m := (l ++ r).length) (s := l) (r := r.take (8192 - l.length)) h
    unfold readL
    rw [take_more h, List.take_of_length_le (by omega)]
    exact hm
/-- What a beginning tells, the whole tells; and no more bytes are a head's than there are. -/
theorem parseL_more (l r : List UInt8) : (match parseL l with | .part => True | x => parseL (l ++ r) = x) := by
  have h := readL_more l r
  unfold parseL
  cases hr : readL l with
  | err e => rw [hr] at h; simp only [] at h; rw [h]; simp only [parseR]
  | part => trivial
  | whole old st fs n =>
    rw [hr] at h
    simp only [] at h
    rw [h]
    simp only [parseR]
    cases tellL old st fs with
    | inr e => trivial
    | inl x => trivial
theorem readL_le {l : List UInt8} {old : Bool} {st : Nat} {fs : List Fld} {n : Nat} (h : readL l = .whole old st fs n) : 0 < n ∧ n ≤ l.length := by
  refine ⟨(readL_small h).2, ?_⟩
  unfold readL readB at h
  have hb : (l.take 8192).length ≤ l.length := by rw [List.length_take]; omega
  split at h
  · split at h
    · cases h
    · rename_i o2 st2 hf
      cases hr : rowsN (l.take 8192).length (cutR (l.take 8192)) [] with
      | part => rw [hr] at h; exact absurd h (partL_no _)
      | bad => rw [hr] at h; cases h
      | whole fs1 r => rw [hr] at h; cases h; omega
  · exact absurd h (partL_no _)
theorem parseL_le {l : List UInt8} {h : Hd} {n : Nat} (hp : parseL l = .whole h n) : 0 < n ∧ n ≤ l.length := by
  unfold parseL at hp
  cases hr : readL l with
  | err e => rw [hr] at hp; cases hp
  | part => rw [hr] at hp; cases hp
  | whole old st fs m =>
    rw [hr] at hp
    unfold parseR at hp
    simp only [] at hp
    split at hp
    · cases hp
    · cases hp
      exact readL_le hr
theorem parseL_err {l : List UInt8} {e : Nat} (hp : parseL l = .err e) : e = 9 ∨ e = 10 ∨ e = 11 ∨ e = 12 ∨ e = 13 := by
  unfold parseL at hp
  cases hr : readL l with
  | err e2 =>
    rw [hr] at hp
    cases hp
    rcases readL_err hr with h | h | h
    · exact .inl h
    · exact .inr (.inl h)
    · exact .inr (.inr (.inr (.inr h)))
  | part => rw [hr] at hp; cases hp
  | whole old st fs m =>
    rw [hr] at hp
    unfold parseR at hp
    simp only [] at hp
    split at hp
    · rename_i e3 ht
      cases hp
      rcases tell_err ht with h | h
      · exact .inr (.inr (.inl h))
      · exact .inr (.inr (.inr (.inl h)))
    · cases hp
end Go.Proofs.YtlelemjmknbnaaaGreatDoor
