/- A head that comes piece by piece: what is part stays part where no line ends; a whole one is longer than what was part. -/
import Derived.Test.YtlelemjmknbnaaaGreatDoorHeadMeansP
namespace Go.Proofs.YtlelemjmknbnaaaGreatDoor

theorem occ_ten {s m : List UInt8} {i : Nat} (h : Lib.occAt (s ++ m) tEnd i = true) (hi : s.length < i + 2) (hm : (10 : UInt8) ∉ m) : False := by
  unfold Lib.occAt at h
  rw [List.isPrefixOf_iff_prefix] at h
  obtain ⟨q, hq⟩ := h
  have h1 : (s ++ m)[i + 1]? = some 10 := by
    have e : ((s ++ m).drop i)[1]? = some 10 := by rw [← hq]; rfl
    rwa [List.getElem?_drop] at e
  rw [List.getElem?_append_right (by omega)] at h1
  exact hm (List.mem_of_getElem? h1)
/-- No line's end comes of bytes that hold no byte 10. -/
theorem ended_none {s m : List UInt8} (h : endedB s = false) (hm : (10 : UInt8) ∉ m) : endedB (s ++ m) = false := by
  unfold endedB at h ⊢
  rw [decide_eq_false_iff_not] at h ⊢
  intro h2
  rcases Lib.index_spec (s ++ m) tEnd with ⟨h1, -⟩ | ⟨i, h1, hle, h3, h4⟩
  · omega
  · by_cases hi : i + 2 ≤ s.length
    · rw [occ_more (show i + tEnd.length ≤ s.length from hi)] at h3
      rcases Lib.index_spec s tEnd with ⟨-, h6⟩ | ⟨j, h5, -⟩
      · rw [h6 i (by omega)] at h3
        cases h3
      · omega
    · exact occ_ten h3 (by omega) hm
theorem ended_nil : endedB [] = false := by decide
theorem rows_none : ∀ (k j : Nat) (s m : List UInt8) (fs : List Fld), s.length ≤ k → (s ++ m).length ≤ j → (10 : UInt8) ∉ m → rowsN k s fs = .part → rowsN j (s ++ m) fs = .part
  | 0, j, s, m, fs, hk, hj, hm, h => by
    obtain rfl : s = [] := List.eq_nil_of_length_eq_zero (by omega)
    cases j with
    | zero => rfl
    | succ j =>
      rw [rowsN, if_neg (by rw [ended_none ended_nil hm]; decide)]
  | k + 1, j, s, m, fs, hk, hj, hm, h => by
    rw [rowsN] at h
    by_cases he : endedB s = true
    · obtain ⟨h1, h2, h3⟩ := ended_more m he
      have hlt := cutR_lt he
      rw [if_pos he] at h
      cases j with
      | zero => rw [List.length_append] at hj; omega
      | succ j =>
        rw [rowsN, if_pos h1, h2, h3]
        by_cases hn : cutL s = []
        · rw [if_pos hn] at h
          cases h
        · rw [if_neg hn] at h ⊢
          cases hl : laterL fs (cutL s) with
          | none => rw [hl] at h; cases h
          | some fs' =>
            rw [hl] at h
            exact rows_none k j (cutR s) m fs' (by omega) (by rw [List.length_append] at hj ⊢; omega) hm h
    · cases j with
      | zero => rfl
      | succ j => rw [rowsN, if_neg (by rw [ended_none (by simpa using he) hm]; decide)]
theorem partL_lt {n : Nat} (h : partL n = .part) : n < 8192 := by
  unfold partL at h
  split at h
  · cases h
  · omega
theorem readL_lt {l : List UInt8} (h : readL l = .part) : l.length < 8192 := by
  unfold readL readB at h
  split at h
  · split at h
    · cases h
    · rename_i o st _
      cases hr : rowsN (l.take 8192).length (cutR (l.take 8192)) [] with
      | part => rw [hr] at h; exact partL_lt h
      | bad => rw [hr] at h; cases h
      | whole fs k => rw [hr] at h; cases h
  · exact partL_lt h
theorem readL_none {l m : List UInt8} (h : readL l = .part) (hn : (l ++ m).length < 8192) (hm : (10 : UInt8) ∉ m) : readL (l ++ m) = .part := by
  have hl := readL_lt h
  unfold readL at h ⊢
  rw [List.take_of_length_le (by omega)] at h ⊢
  have hp : partL (l ++ m).length = .part := by unfold partL; rw [if_neg (by omega)]
  unfold readB at h ⊢
  by_cases he : endedB l = true
  · obtain ⟨h1, h2, h3⟩ := ended_more m he
    have hlt := cutR_lt he
    rw [if_pos he] at h
    rw [if_pos h1, h2, h3]
    cases hf : firstL (cutL l) with
    | none => rw [hf] at h; cases h
    | some q =>
      obtain ⟨old, st⟩ := q
      rw [hf] at h
      simp only [] at h ⊢
      cases hr : rowsN l.length (cutR l) [] with
      | part =>
        rw [rows_none l.length (l ++ m).length (cutR l) m [] (by omega) (by rw [List.length_append, List.length_append]; omega) hm hr]
        exact hp
      | bad => rw [hr] at h; cases h
      | whole fs k => rw [hr] at h; cases h
  · rw [if_neg (by rw [ended_none (by simpa using he) hm]; decide), hp]
theorem parseL_part {l : List UInt8} (h : parseL l = .part) : readL l = .part := by
  unfold parseL at h
  cases hr : readL l with
  | err e => rw [hr] at h; cases h
  | part => rfl
  | whole old st fs n =>
    rw [hr] at h
    unfold parseR at h
    simp only [] at h
    split at h <;> cases h
theorem parseL_lt {l : List UInt8} (h : parseL l = .part) : l.length < 8192 := readL_lt (parseL_part h)
/-- Where no line ends what is part stays part. -/
theorem parseL_none {l m : List UInt8} (h : parseL l = .part) (hn : (l ++ m).length < 8192) (hm : (10 : UInt8) ∉ m) : parseL (l ++ m) = .part := by
  unfold parseL
  rw [readL_none (parseL_part h) hn hm]
  rfl
theorem cutR_cut {s r : List UInt8} (h : endedB s = false) (h2 : endedB (s ++ r) = true) : (cutR (s ++ r)).length < r.length := by
  unfold endedB at h h2
  rw [decide_eq_false_iff_not] at h
  rw [decide_eq_true_eq] at h2
  unfold cutR
  rw [if_pos h2]
  have hroom := Lib.index_room (s ++ r) tEnd h2
  have e2 : tEnd.length = 2 := rfl
  rcases Lib.index_spec (s ++ r) tEnd with ⟨h1, -⟩ | ⟨i, h1, hle, h3, h4⟩
  · omega
  · rw [h1] at hroom ⊢
    rw [List.length_drop]
    rw [List.length_append] at hroom ⊢
    by_cases hi : i + 2 ≤ s.length
    · rw [occ_more (show i + tEnd.length ≤ s.length from hi)] at h3
      rcases Lib.index_spec s tEnd with ⟨-, h6⟩ | ⟨j, h5, -⟩
      · rw [h6 i (by omega)] at h3
        cases h3
      · omega
    · omega
theorem rows_cut : ∀ (k j : Nat) (s r : List UInt8) (fs fs' : List Fld) (m : Nat), s.length ≤ k → rowsN k s fs = .part → rowsN j (s ++ r) fs = .whole fs' m → m < r.length
  | 0, j, s, r, fs, fs', m, hk, h, h2 => by
    obtain rfl : s = [] := List.eq_nil_of_length_eq_zero (by omega)
    have := rows_rest j h2
    simp at this
    omega
  | k + 1, 0, s, r, fs, fs', m, hk, h, h2 => by cases h2
  | k + 1, j + 1, s, r, fs, fs', m, hk, h, h2 => by
    by_cases he : endedB s = true
    · obtain ⟨h1, h3, h4⟩ := ended_more r he
      have hlt := cutR_lt he
      rw [rowsN, if_pos he] at h
      rw [rowsN, if_pos h1, h3, h4] at h2
      by_cases hn : cutL s = []
      · rw [if_pos hn] at h
        cases h
      · rw [if_neg hn] at h h2
        cases hl : laterL fs (cutL s) with
        | none => rw [hl] at h; cases h
        | some fs2 =>
          rw [hl] at h h2
          exact rows_cut k j (cutR s) r fs2 fs' m (by omega) h h2
    · have he' : endedB s = false := by simpa using he
      rw [rowsN] at h2
      by_cases h1 : endedB (s ++ r) = true
      · rw [if_pos h1] at h2
        have hc := cutR_cut he' h1
        split at h2
        · cases h2
          exact hc
        · split at h2
          · cases h2
          · have := rows_rest j h2
            omega
      · rw [if_neg h1] at h2
        cases h2
/-- A whole head has more bytes than what was only part of it. -/
theorem parseL_cut {l r : List UInt8} {h : Hd} {n : Nat} (hp : parseL l = .part) (hw : parseL (l ++ r) = .whole h n) : l.length < n := by
  have hl := parseL_lt hp
  have hp := parseL_part hp
  have hw : ∃ old st fs, readL (l ++ r) = .whole old st fs n := by
    unfold parseL at hw
    cases hr : readL (l ++ r) with
    | err e => rw [hr] at hw; cases hw
    | part => rw [hr] at hw; cases hw
    | whole old st fs k =>
      rw [hr] at hw
      unfold parseR at hw
      simp only [] at hw
      split at hw
      · cases hw
      · cases hw
        exact ⟨_, _, _, rfl⟩
  obtain ⟨old, st, fs, hw⟩ := hw
  unfold readL at hp hw
  rw [take_more (by omega)] at hw
  rw [List.take_of_length_le (by omega)] at hp
  generalize r.take (8192 - l.length) = q at hw
  unfold readB at hp hw
  by_cases he : endedB l = true
  · obtain ⟨h1, h3, h4⟩ := ended_more q he
    have hlt := cutR_lt he
    rw [if_pos he] at hp
    rw [if_pos h1, h3, h4] at hw
    cases hf : firstL (cutL l) with
    | none => rw [hf] at hp; cases hp
    | some o =>
      obtain ⟨old2, st2⟩ := o
      rw [hf] at hp hw
      simp only [] at hp hw
      cases hr : rowsN l.length (cutR l) [] with
      | part =>
        cases hr2 : rowsN (l ++ q).length (cutR l ++ q) [] with
        | part => rw [hr2] at hw; exact absurd hw (partL_no _)
        | bad => rw [hr2] at hw; cases hw
        | whole fs2 m =>
          rw [hr2] at hw
          have hm := rows_cut _ _ _ _ _ _ _ (by omega) hr hr2
          cases hw
          rw [List.length_append]
          omega
      | bad => rw [hr] at hp; cases hp
      | whole fs2 m => rw [hr] at hp; cases hp
  · have he' : endedB l = false := by simpa using he
    by_cases h1 : endedB (l ++ q) = true
    · rw [if_pos h1] at hw
      have hc := cutR_cut he' h1
      split at hw
      · cases hw
      · cases hr2 : rowsN (l ++ q).length (cutR (l ++ q)) [] with
        | part => rw [hr2] at hw; exact absurd hw (partL_no _)
        | bad => rw [hr2] at hw; cases hw
        | whole fs2 m =>
          rw [hr2] at hw
          have := rows_rest _ hr2
          cases hw
          rw [List.length_append]
          omega
    · rw [if_neg h1] at hw
      exact absurd hw (partL_no _)
end Go.Proofs.YtlelemjmknbnaaaGreatDoor
