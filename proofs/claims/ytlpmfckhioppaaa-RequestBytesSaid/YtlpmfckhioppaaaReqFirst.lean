/- The document's First. -/
import Derived.Test.YtlpmfckhioppaaaReqRefMay
namespace Go.Proofs.Ytlpmfckhioppaaa
open Go.RowKit

def FV (o : Option (List UInt8 × List UInt8)) : Value := .tuple #[.string ⟨(hostR o).toArray⟩, .string ⟨(pathR o).toArray⟩, .int .i64 (sizeB o : Int)]
theorem tw_take {p : UInt8 → Bool} : ∀ {l : List UInt8} {m : Nat}, m ≤ l.length → (∀ (j : Nat) c, j < m → l[j]? = some c → p c = true) → (m = l.length ∨ ∃ c, l[m]? = some c ∧ p c = false) → l.takeWhile p = l.take m := by
  intro l
  induction l with
  | nil => intro m hm _ _; simp
  | cons x l ih =>
    intro m hm h1 h2
    cases m with
    | zero =>
      rcases h2 with h2 | ⟨c, hc, hp⟩
      · simp at h2
      · simp at hc
        subst hc
        simp [hp]
    | succ m =>
      rw [List.takeWhile_cons, if_pos (h1 0 x (by omega) rfl), List.take_succ_cons]
      congr 1
      refine ih (by simpa using hm) (fun j c hj hc => h1 (j + 1) c (by omega) (by simpa using hc)) ?_
      rcases h2 with h2 | ⟨c, hc, hp⟩
      · left; simpa using h2
      · right; exact ⟨c, by simpa using hc, hp⟩
/-- No byte of s from a to k is d. -/
def Clear (l : List UInt8) (a k : Nat) (d : UInt8) : Prop := ∀ (j : Nat) c, a ≤ j → j < k → l[j]? = some c → (c != d) = true
theorem Clear.snoc {l : List UInt8} {a k : Nat} {d c : UInt8} (h : Clear l a k d) (hc : l[k]? = some c) (hd : (c != d) = true) : Clear l a (k + 1) d := by
  intro j x h1 h2 h3
  rcases Nat.lt_or_ge j k with h4 | h4
  · exact h j x h1 h4 h3
  · obtain rfl : j = k := by omega
    rw [hc] at h3
    cases h3
    exact hd
theorem Clear.stop {l : List UInt8} {a k : Nat} {d : UInt8} (h : Clear l a k d) (ha : a ≤ k) (hk : k ≤ l.length) (hs : k = l.length ∨ l[k]? = some d) : (l.drop a).takeWhile (· != d) = (l.drop a).take (k - a) := by
  refine tw_take (by rw [List.length_drop]; omega) (fun j c hj hc => ?_) ?_
  · rw [List.getElem?_drop] at hc
    exact h (a + j) c (by omega) (by omega) hc
  · rcases hs with hs | hs
    · left; rw [List.length_drop, hs]
    · right
      refine ⟨d, ?_, by simp⟩
      rw [List.getElem?_drop, show a + (k - a) = k by omega]
      exact hs
theorem ext_list (s : ByteArray) (a k : Nat) (hk : k ≤ s.size) : (s.extract a k).data.toList = (s.data.toList.drop a).take (k - a) := by
  rw [ByteArray.data_extract, Array.toList_extract]
theorem ext_mk (s : ByteArray) (a k : Nat) (hk : k ≤ s.size) : s.extract a k = ⟨((s.data.toList.drop a).take (k - a)).toArray⟩ := ba_eq (ext_list s a k hk)
theorem firstB_get {s : List UInt8} (h : s.take 4 ≠ tGet) : firstB s = none := firstB_none fun x y a => h (by
  obtain ⟨r, rfl⟩ := a.text
  unfold textL
  rw [List.append_assoc]
  rfl)
theorem firstB_short {s : List UInt8} (h : s.length < 105) : firstB s = none := firstB_none fun x y a => by
  have := a.le
  rw [textL_len] at this
  omega
theorem firstB_far {s : List UInt8} (h : s.length < 21 + (pathOf s).length) : firstB s = none := firstB_none fun x y a => by
  have h1 := a.le
  rw [a.pathOf] at h
  rw [textL_len] at h1
  omega
theorem firstB_may {s : List UInt8} (h : ¬ (mayHost (hostOf s) = true ∧ mayPath (pathOf s) = true)) : firstB s = none := by
  unfold firstB
  rw [if_neg fun x => h ⟨x.1, x.2.1⟩]
theorem firstB_text {s : List UInt8} (h : ¬ textL (hostOf s) (pathOf s) <+: s) : firstB s = none := by
  unfold firstB
  rw [if_neg fun x => h x.2.2]
theorem firstB_ok {s : List UInt8} (h1 : mayHost (hostOf s) = true) (h2 : mayPath (pathOf s) = true) (h3 : textL (hostOf s) (pathOf s) <+: s) : firstB s = some (hostOf s, pathOf s) := by
  unfold firstB
  rw [if_pos ⟨h1, h2, h3⟩]
set_option maxRecDepth 100000 in
set_option maxHeartbeats 4000000 in
theorem first_any (s : ByteArray) (w : World) (hs : s.size ≤ 100000) :
    Calls Try.prog 28 #[.string s] w fun e w' => e = .returned (FV (firstB s.data.toList)) ∧ w = w' := by
  have hz := Lib.size_eq s
  rcases Nat.lt_or_ge s.size 4 with h4 | h4
  · have HR := Lib.hid (firstB_short (s := s.data.toList) (by rw [← hz]; omega))
    have h4' : (s.size : Int) < 4 := by omega
    clear hz h4
    go_enter Try.func28, Try.ntmps28
    go_wp2
    go_ret3
    exact ⟨by rw [HR.out]; rfl, rfl⟩
  · have h4' : decide ((s.size : Int) < 4) = false := by rw [decide_eq_false_iff_not]; omega
    have h4i : (4 : Int) ≤ (s.size : Int) := by omega
    have hx := ext_list s 0 4 h4
    rw [List.drop_zero] at hx
    have HZ := Lib.hid hz
    by_cases hg : s.data.toList.take 4 = tGet
    · have g1 : ((s.extract 0 4).toList == [71, 69, 84, 32]) = true := by rw [Lib.toList_data, hx, hg]; rfl
      have g2 : ((s.extract 0 4).toList != [71, 69, 84, 32]) = false := by rw [Lib.toList_data, hx, hg]; rfl
      have HG := Lib.hid hg
      clear hx hg hz
      go_enter Try.func28, Try.ntmps28
      go_wp2
      go_loop [5] (fun i => ∃ k : Nat, 4 ≤ k ∧ k ≤ s.size ∧ i = .int .i64 k ∧ Hid (Clear s.data.toList 4 k 32)) (fun i => s.size - (intOf i).toNat)
      case atStart => exact ⟨4, Nat.le_refl _, h4, rfl, Lib.hid (fun j c h1 h2 => by omega)⟩
      case round =>
        obtain ⟨k, hk4, hk, rfl, HK⟩ := hrel
        have hk0 : (0 : Int) ≤ (k : Int) := by omega
        by_cases hgo : ∃ c, s.data.toList[k]? = some c ∧ (c != 32) = true
        · obtain ⟨c, hcl, hne⟩ := hgo
          have hlt : k < s.size := by rw [HZ.out]; exact (List.getElem?_eq_some_iff.1 hcl).1
          have hlt' : (k : Int) < (s.size : Int) := by omega
          obtain ⟨c', hc, hcl'⟩ := data_at s k hlt
          obtain rfl : c' = c := by rw [hcl] at hcl'; exact (Option.some.inj hcl').symm
          have HN := Lib.hid (HK.out.snoc hcl hne)
          have hne' : ((c'.toNat : Int) != 32) = true := by
            rw [bne_iff_ne] at hne ⊢
            intro h
            exact hne (UInt8.toNat_inj.1 (by show c'.toNat = 32; omega))
          clear hcl hcl' hne
          go_wp2
          go_round
          case rel => exact ⟨k + 1, by omega, by omega, by go_num, HN⟩
          case measure => simp [intOf] <;> omega
        · have hst : k = s.data.toList.length ∨ s.data.toList[k]? = some 32 := by
            rcases Nat.lt_or_ge k s.data.toList.length with h | h
            · right
              by_cases h32 : (s.data.toList[k] != 32) = true
              · exact absurd ⟨_, List.getElem?_eq_getElem h, h32⟩ hgo
              · rw [List.getElem?_eq_getElem h]
                simpa using h32
            · left
              rw [← HZ.out] at h ⊢
              omega
          have HP := Lib.hid (show pathOf s.data.toList = (s.data.toList.drop 4).take (k - 4) from HK.out.stop hk4 (by rw [← HZ.out]; exact hk) hst)
          have hpl : (pathOf s.data.toList).length = k - 4 := by rw [HP.out, List.length_take, List.length_drop, ← HZ.out]; omega
          have HPL := Lib.hid hpl
          have HPE := Lib.hid (show s.extract 4 k = ⟨(pathOf s.data.toList).toArray⟩ by rw [HP.out]; exact ext_mk s 4 k hk)
          have hk4i : (4 : Int) ≤ (k : Int) := by omega
          have hki : (k : Int) ≤ (s.size : Int) := by omega
          obtain ⟨P, hP⟩ : ∃ P, P = s.extract 4 k := ⟨_, rfl⟩
          have HPX := Lib.hid hP
          have hPs : P.size ≤ 100000 := by rw [hP]; simp; omega
          have hout : (decide ((k : Int) < (s.size : Int)) = false) ∨ ((k : Int) < (s.size : Int) ∧ ∃ hlt : k < s.size, ((s[k]'hlt).toNat : Int) = 32) := by
            rcases hst with h | h
            · left; rw [decide_eq_false_iff_not, HZ.out]; omega
            · right
              have hlt : k < s.size := by rw [HZ.out]; exact (List.getElem?_eq_some_iff.1 h).1
              obtain ⟨c', hc, hcl'⟩ := data_at s k hlt
              rw [h] at hcl'
              cases hcl'
              exact ⟨by omega, hlt, by rw [hc]; rfl⟩
          clear hgo hst hpl
          by_cases hfar : s.size < k + 17
          · have HR := Lib.hid (firstB_far (s := s.data.toList) (by rw [HPL.out, ← HZ.out]; omega))
            have hfar' : (s.size : Int) < (k : Int) + 17 := by omega
            rcases hout with hf | ⟨hl, hlt, h32⟩
            · have hfn : ¬ (k < s.size) := by rw [decide_eq_false_iff_not] at hf; omega
              have hfd : decide (k < s.size) = false := by rw [decide_eq_false_iff_not]; exact hfn
              go_wp2
              go_ret3
              exact ⟨by rw [HR.out]; rfl, rfl⟩
            · have hb : (((s[k]'hlt).toNat : Int) != 32) = false := by rw [bne_eq_false_iff_eq]; exact h32
              clear h32
              go_wp2
              go_ret3
              exact ⟨by rw [HR.out]; rfl, rfl⟩
          · have hfar' : decide ((s.size : Int) < (k : Int) + 17) = false := by rw [decide_eq_false_iff_not]; omega
            rcases hout with hf | ⟨hl, hlt, h32⟩
            · rw [decide_eq_false_iff_not] at hf
              omega
            · have hb : (((s[k]'hlt).toNat : Int) != 32) = false := by rw [bne_eq_false_iff_eq]; exact h32
              clear h32
              go_wp2
              clear hb
              go_loop [8] (fun i => ∃ j : Nat, k + 17 ≤ j ∧ j ≤ s.size ∧ i = .int .i64 j ∧ Hid (Clear s.data.toList (k + 17) j 13)) (fun i => s.size - (intOf i).toNat)
              case atStart => exact ⟨k + 17, Nat.le_refl _, by omega, by go_num, Lib.hid (fun j c h1 h2 => by omega)⟩
              case round =>
                obtain ⟨j, hj4, hj, rfl, HJ⟩ := hrel
                have hj0 : (0 : Int) ≤ (j : Int) := by omega
                by_cases hgo : ∃ c, s.data.toList[j]? = some c ∧ (c != 13) = true
                · obtain ⟨c, hcl, hne⟩ := hgo
                  have hlt : j < s.size := by rw [HZ.out]; exact (List.getElem?_eq_some_iff.1 hcl).1
                  have hlt' : (j : Int) < (s.size : Int) := by omega
                  obtain ⟨c', hc, hcl'⟩ := data_at s j hlt
                  obtain rfl : c' = c := by rw [hcl] at hcl'; exact (Option.some.inj hcl').symm
                  have HN := Lib.hid (HJ.out.snoc hcl hne)
                  have hne' : ((c'.toNat : Int) != 13) = true := by
                    rw [bne_iff_ne] at hne ⊢
                    intro h
                    exact hne (UInt8.toNat_inj.1 (by show c'.toNat = 13; omega))
                  clear hcl hcl' hne
                  go_wp2
                  go_round
                  case rel => exact ⟨j + 1, by omega, by omega, by go_num, HN⟩
                  case measure => simp [intOf] <;> omega
                · have hst : j = s.data.toList.length ∨ s.data.toList[j]? = some 13 := by
                    rcases Nat.lt_or_ge j s.data.toList.length with h | h
                    · right
                      by_cases h32 : (s.data.toList[j] != 13) = true
                      · exact absurd ⟨_, List.getElem?_eq_getElem h, h32⟩ hgo
                      · rw [List.getElem?_eq_getElem h]
                        simpa using h32
                    · left
                      rw [← HZ.out] at h ⊢
                      omega
                  have hho : hostOf s.data.toList = (s.data.toList.drop (k + 17)).take (j - (k + 17)) := by
                    unfold hostOf
                    rw [HPL.out, show 21 + (k - 4) = k + 17 by omega]
                    exact HJ.out.stop hj4 (by rw [← HZ.out]; exact hj) hst
                  have HH := Lib.hid hho
                  have HHE := Lib.hid (show s.extract (k + 17) j = ⟨(hostOf s.data.toList).toArray⟩ by rw [hho]; exact ext_mk s (k + 17) j hj)
                  have hk17 : (k : Int) + 17 ≤ (j : Int) := by omega
                  have hji : (j : Int) ≤ (s.size : Int) := by omega
                  obtain ⟨X, hX⟩ : ∃ X, X = s.extract (k + 17) j := ⟨_, rfl⟩
                  have HXX := Lib.hid hX
                  have hXs : X.size ≤ 100000 := by rw [hX]; simp; omega
                  have hout : (decide ((j : Int) < (s.size : Int)) = false) ∨ ((j : Int) < (s.size : Int) ∧ ∃ hlt : j < s.size, (((s[j]'hlt).toNat : Int) != 13) = false) := by
                    rcases hst with h | h
                    · left; rw [decide_eq_false_iff_not, HZ.out]; omega
                    · right
                      have hlt : j < s.size := by rw [HZ.out]; exact (List.getElem?_eq_some_iff.1 h).1
                      obtain ⟨c', hc, hcl'⟩ := data_at s j hlt
                      rw [h] at hcl'
                      cases hcl'
                      exact ⟨by omega, hlt, by rw [hc]; rfl⟩
                  have hXl : X.data.toList = hostOf s.data.toList := by rw [hX, HHE.out]
                  have hPl : P.data.toList = pathOf s.data.toList := by rw [HPX.out, HPE.out]
                  have H1 := Lib.hid (rhost_any X w (by omega))
                  have H2 := Lib.hid (rpath_any P w (by omega))
                  have H3 := Lib.hid (text_any X P w hXs hPs)
                  have HNM : Hid (mayHost X.data.toList = false ∨ mayPath P.data.toList = false → firstB s.data.toList = none) := Lib.hid (fun h => firstB_may (by
                    rw [hXl, hPl] at h
                    rintro ⟨h1, h2⟩
                    rw [h1, h2] at h
                    simp at h))
                  obtain ⟨T, hT⟩ : ∃ T, T = textB X.data.toList P.data.toList := ⟨_, rfl⟩
                  have hTl : T.data.toList = textL (hostOf s.data.toList) (pathOf s.data.toList) := by rw [hT, textB_list, hXl, hPl]
                  have hTz : T.size = (textL (hostOf s.data.toList) (pathOf s.data.toList)).length := by rw [Lib.size_eq, hTl]
                  rw [← hT] at H3
                  have HT : Hid (((s.size : Int) < (T.size : Int) ∧ Hid (firstB s.data.toList = none)) ∨
                      (decide ((s.size : Int) < (T.size : Int)) = false ∧ (T.size : Int) ≤ (s.size : Int) ∧ ((s.extract 0 T.size).toList == T.toList) = false ∧ ((s.extract 0 T.size).toList != T.toList) = true ∧ Hid (firstB s.data.toList = none)) ∨
                      (decide ((s.size : Int) < (T.size : Int)) = false ∧ (T.size : Int) ≤ (s.size : Int) ∧ ((s.extract 0 T.size).toList == T.toList) = true ∧ ((s.extract 0 T.size).toList != T.toList) = false ∧ Hid (mayHost X.data.toList = true → mayPath P.data.toList = true → FV (firstB s.data.toList) = .tuple #[.string X, .string P, .int .i64 (T.size : Int)]))) := Lib.hid (by
                    rcases Nat.lt_or_ge s.size T.size with h | h
                    · refine .inl ⟨by omega, Lib.hid (firstB_text fun hp => ?_)⟩
                      have := hp.length_le
                      rw [← HZ.out] at this
                      omega
                    · right
                      have hx := ext_list s 0 T.size h
                      rw [List.drop_zero, Nat.sub_zero] at hx
                      have hd : decide ((s.size : Int) < (T.size : Int)) = false := by rw [decide_eq_false_iff_not]; omega
                      by_cases hp : textL (hostOf s.data.toList) (pathOf s.data.toList) <+: s.data.toList
                      · right
                        have e1 : ((s.extract 0 T.size).toList == T.toList) = true := by
                          rw [Lib.toList_data, Lib.toList_data, hx, hTl, hTz, beq_iff_eq]
                          exact (List.prefix_iff_eq_take.1 hp).symm
                        refine ⟨hd, by omega, e1, by rw [bne, e1]; rfl, Lib.hid (fun h1 h2 => ?_)⟩
                        rw [hXl] at h1
                        rw [hPl] at h2
                        rw [firstB_ok h1 h2 hp]
                        unfold FV hostR pathR sizeB
                        rw [hTz, ← hXl, ← hPl, Lib.mk_data, Lib.mk_data]
                      · left
                        have e1 : ((s.extract 0 T.size).toList == T.toList) = false := by
                          rw [Lib.toList_data, Lib.toList_data, hx, hTl, hTz, beq_eq_false_iff_ne]
                          intro he
                          exact hp (List.prefix_iff_eq_take.2 he.symm)
                        exact ⟨hd, by omega, e1, by rw [bne, e1]; rfl, Lib.hid (firstB_text hp)⟩)
                  generalize mayHost X.data.toList = mh at H1 HNM HT
                  generalize mayPath P.data.toList = mp at H2 HNM HT
                  clear hgo hst hho hXl hPl hTl hTz hT hX hP
                  rcases hout with hf | ⟨hl2, hlt2, h32⟩
                  · have hfn : ¬ (j < s.size) := by rw [decide_eq_false_iff_not] at hf; omega
                    have hfd : decide (j < s.size) = false := by rw [decide_eq_false_iff_not]; exact hfn
                    go_wp2_with fail
                    rw [← HXX.out, ← HPX.out]
                    refine (Hid.out H1).mono ?_
                    rintro e w1 ⟨rfl, rfl⟩
                    cases mh with
                    | false =>
                      have HR := Lib.hid (HNM.out (.inl rfl))
                      go_wp2
                      go_ret3
                      exact ⟨by rw [HR.out]; rfl, rfl⟩
                    | true =>
                      go_wp2_with fail
                      try rw [← HPX.out]
                      refine (Hid.out H2).mono ?_
                      rintro e w1 ⟨rfl, rfl⟩
                      cases mp with
                      | false =>
                        have HR := Lib.hid (HNM.out (.inr rfl))
                        go_wp2
                        go_ret3
                        exact ⟨by rw [HR.out]; rfl, rfl⟩
                      | true =>
                        go_wp2_with fail
                        try rw [← HPX.out]
                        refine (Hid.out H3).mono ?_
                        rintro e w1 ⟨rfl, rfl⟩
                        rcases HT.out with ⟨t1, HR⟩ | ⟨t1, t2, t3, t4, HR⟩ | ⟨t1, t2, t3, t4, HR⟩
                        · go_wp2
                          go_ret3
                          exact ⟨by rw [HR.out]; rfl, rfl⟩
                        · go_wp2
                          go_ret3
                          exact ⟨by rw [HR.out]; rfl, rfl⟩
                        · go_wp2
                          try rw [← HPX.out]
                          go_ret3
                          exact ⟨congrArg Ending.returned (HR.out trivial trivial).symm, rfl⟩
                  · skip
                    go_wp2_with fail
                    rw [← HXX.out, ← HPX.out]
                    refine (Hid.out H1).mono ?_
                    rintro e w1 ⟨rfl, rfl⟩
                    cases mh with
                    | false =>
                      have HR := Lib.hid (HNM.out (.inl rfl))
                      go_wp2
                      go_ret3
                      exact ⟨by rw [HR.out]; rfl, rfl⟩
                    | true =>
                      go_wp2_with fail
                      try rw [← HPX.out]
                      refine (Hid.out H2).mono ?_
                      rintro e w1 ⟨rfl, rfl⟩
                      cases mp with
                      | false =>
                        have HR := Lib.hid (HNM.out (.inr rfl))
                        go_wp2
                        go_ret3
                        exact ⟨by rw [HR.out]; rfl, rfl⟩
                      | true =>
                        go_wp2_with fail
                        try rw [← HPX.out]
                        refine (Hid.out H3).mono ?_
                        rintro e w1 ⟨rfl, rfl⟩
                        rcases HT.out with ⟨t1, HR⟩ | ⟨t1, t2, t3, t4, HR⟩ | ⟨t1, t2, t3, t4, HR⟩
                        · go_wp2
                          go_ret3
                          exact ⟨by rw [HR.out]; rfl, rfl⟩
                        · go_wp2
                          go_ret3
                          exact ⟨by rw [HR.out]; rfl, rfl⟩
                        · go_wp2
                          try rw [← HPX.out]
                          go_ret3
                          exact ⟨congrArg Ending.returned (HR.out trivial trivial).symm, rfl⟩
    · have HR := Lib.hid (firstB_get hg)
      have g1 : ((s.extract 0 4).toList == [71, 69, 84, 32]) = false := by rw [Lib.toList_data, hx, beq_eq_false_iff_ne]; exact hg
      have g2 : ((s.extract 0 4).toList != [71, 69, 84, 32]) = true := by rw [bne, g1]; rfl
      clear hx hg hz
      go_enter Try.func28, Try.ntmps28
      go_wp2
      go_ret3
      exact ⟨by rw [HR.out]; rfl, rfl⟩
end Go.Proofs.Ytlpmfckhioppaaa
