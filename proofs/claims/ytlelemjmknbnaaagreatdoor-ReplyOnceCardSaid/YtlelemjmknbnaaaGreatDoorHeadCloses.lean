/- The program's closes: what stands between commas. -/
import Derived.Test.YtlelemjmknbnaaaGreatDoorHeadVals
import Derived.WalkMore
namespace Go.Proofs.YtlelemjmknbnaaaGreatDoor
open Go.RowKit

theorem cutC_len {v : List UInt8} (h : (Lib.cut v [44]).2.2 = true) : (Lib.cut v [44]).2.1.length + 1 ≤ v.length := by
  unfold Lib.cut at h ⊢
  split
  · rename_i h0
    have := Lib.index_room v [44] h0
    simp at this ⊢
    omega
  · rename_i h0
    rw [if_neg h0] at h
    cases h
theorem piecesN_more (k : Nat) : ∀ (j : Nat) (v : List UInt8), v.length + 1 ≤ k → k ≤ j → piecesN j v = piecesN k v := by
  induction k with
  | zero => intro j v h; omega
  | succ k ih =>
    intro j v hv hj
    obtain ⟨j, rfl⟩ : ∃ i, j = i + 1 := ⟨j - 1, by omega⟩
    rw [piecesN, piecesN]
    by_cases hm : (Lib.cut v [44]).2.2 = true
    · rw [if_pos hm, if_pos hm, ih j _ (by have := cutC_len hm; omega) (by omega)]
    · rw [if_neg hm, if_neg hm]
theorem wordsL_cut (v : List UInt8) : wordsL v = smallL (trimL (Lib.cut v [44]).1) :: (if (Lib.cut v [44]).2.2 = true then wordsL (Lib.cut v [44]).2.1 else []) := by
  unfold wordsL
  rw [piecesN, List.map_cons]
  by_cases hm : (Lib.cut v [44]).2.2 = true
  · rw [if_pos hm, if_pos hm, piecesN_more ((Lib.cut v [44]).2.1.length + 1) v.length _ (Nat.le_refl _) (cutC_len hm)]
  · rw [if_neg hm, if_neg hm]
    rfl
theorem over_stays (l : List (List UInt8)) (b : Bool) : (l.foldl stepW (true, b)).2 = b := by
  induction l with
  | nil => rfl
  | cons x l ih =>
    rw [List.foldl_cons]
    exact ih
theorem stepW_no {b : Bool} {x : List UInt8} (h1 : ¬ x = [99, 108, 111, 115, 101]) (h2 : ¬ x = [107, 101, 101, 112, 45, 97, 108, 105, 118, 101]) : stepW (false, b) x = (false, b) := by
  unfold stepW tClose tKeep
  rw [if_neg (by simp), if_neg h1, if_neg h2]
def szV : Value → Nat
  | .string s => s.size
  | _ => 0
def restW (vs : List (List UInt8)) (k : Nat) : List (List UInt8) := ((vs.drop k).map wordsL).flatten
theorem restW_at {vs : List (List UInt8)} {k : Nat} {x : List UInt8} (h : vs[k]? = some x) : restW vs k = wordsL x ++ restW vs (k + 1) := by
  have hk := (List.getElem?_eq_some_iff.1 h).1
  unfold restW
  rw [List.drop_eq_getElem_cons hk, List.map_cons, List.flatten_cons, (List.getElem?_eq_some_iff.1 h).2]
theorem restW_end {vs : List (List UInt8)} {k : Nat} (h : vs.length ≤ k) : restW vs k = [] := by
  unfold restW
  rw [List.drop_eq_nil_of_le h]
  rfl
theorem smallL_len (l : List UInt8) : (smallL l).length = l.length := List.length_map ..
theorem dropWhile_le (p : UInt8 → Bool) (l : List UInt8) : (l.dropWhile p).length ≤ l.length := by
  induction l with
  | nil => simp
  | cons a l ih =>
    rw [List.dropWhile_cons]
    split
    · rw [List.length_cons]; omega
    · exact Nat.le_refl _
theorem trimL_len (l : List UInt8) : (trimL l).length ≤ l.length := by
  unfold trimL Lib.trimS Lib.trimLeftS Lib.trimRightS
  refine Nat.le_trans (dropWhile_le _ _) ?_
  rw [List.length_reverse]
  refine Nat.le_trans (dropWhile_le _ _) ?_
  rw [List.length_reverse]
  exact Nat.le_refl _
set_option maxRecDepth 100000 in
set_option maxHeartbeats 400000 in
theorem closes_any {w : World} {A : Option Addr} {c : Nat} {vs : List (List UInt8)} (old : Bool) (h : sK.Reads w w.heap.size A vs) (hc : vs.length ≤ c) (hl : vs.length ≤ 64) (hz : ∀ x ∈ vs, x.length ≤ 1000000) (hm : MX w) :
    Calls Tryz.prog 46 #[.slice A vs.length c, .bool old] w fun e w' => e = .returned (.bool (closesL vs old)) ∧ Below w.heap.size w w' := by
  have HRD := Lib.hid h
  have HMX := Lib.hid hm
  obtain ⟨T, hT⟩ : ∃ T, T = closesL vs old := ⟨_, rfl⟩
  have HT := Lib.hid (show T = ((restW vs 0).foldl stepW (false, old)).2 by rw [hT]; unfold closesL restW; rw [List.drop_zero])
  rw [← hT]
  obtain ⟨n, hn⟩ : ∃ n, n = vs.length := ⟨_, rfl⟩
  rw [← hn] at hc hl ⊢
  have HN := Lib.hid hn
  have HZ := Lib.hid hz
  clear h hn hz hm hT
  go_enter Tryz.func46, Tryz.ntmps46
  go_wp2
  refine wp_scope_straight ?_
  go_wp2
  refine wp_label ?_
  go_wp2
  go_loopw [5, 14] (fun cl i wr => ∃ (k : Nat) (b : Bool), k ≤ n ∧ i = .int .i64 k ∧ cl = .bool b ∧ Hid (T = ((restW vs k).foldl stepW (false, b)).2) ∧ Hid (Below w.heap.size w wr)) (fun _ i _ => n - (intOf i).toNat)
  case atStart => exact ⟨0, old, Nat.zero_le _, rfl, rfl, HT, Lib.hid (Below.refl _ _)⟩
  case round =>
    obtain ⟨k, b, hk, rfl, rfl, HTK, HB⟩ := hrel
    by_cases hlt : k < n
    · have hkl : k < vs.length := by rw [← HN.out]; exact hlt
      obtain ⟨x, hx⟩ : ∃ x, vs[k]? = some x := ⟨_, List.getElem?_eq_getElem hkl⟩
      obtain ⟨g, off, hA, hg, hx0⟩ := sK_at (HRD.out.below HB.out) hx
      subst hA
      have hlt' : (k : Int) < (n : Int) := by omega
      have HXZ := Lib.hid (HZ.out x (List.mem_of_getElem? hx))
      have HTX := Lib.hid (show T = ((wordsL x ++ restW vs (k + 1)).foldl stepW (false, b)).2 by rw [HTK.out, restW_at hx])
      clear hx hkl hg
      go_wp2_with fail
      go_loopw [5, 7] (fun cl v wq => ∃ (y : List UInt8) (b : Bool), cl = .bool b ∧ v = .string ⟨y.toArray⟩ ∧ Hid (y.length ≤ 1000000) ∧ Hid (T = ((wordsL y ++ restW vs (k + 1)).foldl stepW (false, b)).2) ∧ Hid (Below w.heap.size w wq)) (fun _ v _ => szV v)
      case atStart => exact ⟨x, b, rfl, rfl, HXZ, HTX, HB⟩
      case round =>
        obtain ⟨y, bq, rfl, rfl, HYZ, HTY, HBQ⟩ := hrel
        rename_i wq
        have HCU := Lib.hid (cutS_any ⟨y.toArray⟩ ⟨#[44]⟩ _ (by rw [Lib.size_eq]; exact HYZ.out) (HMX.out.grown HBQ.out))
        have hcl := cut_len (s := y) (sep := [44])
        have HWC := Lib.hid (wordsL_cut y)
        have HCM := Lib.hid (fun h => cutC_len (v := y) h)
        obtain ⟨⟨wd, rs, more⟩, hcut⟩ : ∃ t, t = Lib.cut y [44] := ⟨_, rfl⟩
        change Hid (Calls _ _ _ _ fun e w' => e = .returned (.tuple #[.string ⟨(Lib.cut y [44]).1.toArray⟩, .string ⟨(Lib.cut y [44]).2.1.toArray⟩, .bool (Lib.cut y [44]).2.2]) ∧ ∃ n, w' = World.drewN _ n) at HCU
        rw [← hcut] at HCU hcl HWC HCM
        simp only [] at HCU hcl HWC HCM
        have HWZ := Lib.hid (show wd.length ≤ 1000000 by have := HYZ.out; omega)
        have HRZ := Lib.hid (show rs.length ≤ 1000000 by have := HYZ.out; omega)
        have HTRI : Hid (∀ W, Calls Tryz.prog 56 #[.string ⟨wd.toArray⟩, .string ⟨#[32, 9]⟩] W fun e w' => e = .returned (.string ⟨(trimL wd).toArray⟩) ∧ Below W.heap.size W w') := Lib.hid (fun W => trim_any ⟨wd.toArray⟩ W (by rw [Lib.size_eq]; exact HWZ.out))
        have HSMA : Hid (∀ W, Calls Tryz.prog 44 #[.string ⟨(trimL wd).toArray⟩] W fun e w' => e = .returned (.string ⟨(smallL (trimL wd)).toArray⟩) ∧ Below W.heap.size W w') := Lib.hid (fun W => small_any ⟨(trimL wd).toArray⟩ W (by rw [Lib.size_eq]; have := HWZ.out; have := trimL_len wd; show (trimL wd).length ≤ _; omega))
        obtain ⟨sw, hsw⟩ : ∃ sw, sw = smallL (trimL wd) := ⟨_, rfl⟩
        rw [← hsw] at HSMA HWC
        clear hcut hcl hsw
        go_wp2_with fail
        refine (Hid.out HCU).mono ?_
        rintro e w1 ⟨rfl, q, rfl⟩
        go_wp2_with fail
        refine (Hid.out HTRI _).mono ?_
        rintro e w2 ⟨rfl, hb2⟩
        go_wp2_with fail
        refine (Hid.out HSMA _).mono ?_
        rintro e w3 ⟨rfl, hb3⟩
        have HB3 := Lib.hid (((HBQ.out.trans (below_drewN _ q)).trans (hb2.mono HBQ.out.size)).trans (hb3.mono (Nat.le_trans HBQ.out.size hb2.size)))
        clear hb2 hb3
        have hcases : sw = [99, 108, 111, 115, 101] ∨ (¬ sw = [99, 108, 111, 115, 101] ∧ sw = [107, 101, 101, 112, 45, 97, 108, 105, 118, 101]) ∨ (¬ sw = [99, 108, 111, 115, 101] ∧ ¬ sw = [107, 101, 101, 112, 45, 97, 108, 105, 118, 101]) := by
          by_cases h1 : sw = [99, 108, 111, 115, 101]
          · exact .inl h1
          · by_cases h2 : sw = [107, 101, 101, 112, 45, 97, 108, 105, 118, 101]
            · exact .inr (.inl ⟨h1, h2⟩)
            · exact .inr (.inr ⟨h1, h2⟩)
        rcases hcases with h1 | ⟨h1, h2⟩ | ⟨h1, h2⟩
        · have HE := Lib.hid (show T = true by
            rw [HTY.out, HWC.out, h1, List.cons_append, List.foldl_cons]
            exact over_stays _ true)
          subst h1
          go_wp2
          rw [Exit.noGoto_ret]
          go_ret
          exact ⟨by rw [HE.out]; rfl, HB3.out⟩
        · have HTN := Lib.hid (show T = (((if more = true then wordsL rs else []) ++ restW vs (k + 1)).foldl stepW (false, false)).2 by
            rw [HTY.out, HWC.out, h2, List.cons_append, List.foldl_cons]; rfl)
          subst h2
          clear h1
          cases more with
          | true =>
            have HTQ := Lib.hid (show T = ((wordsL rs ++ restW vs (k + 1)).foldl stepW (false, false)).2 from HTN.out)
            have HLE := Lib.hid (HCM.out rfl)
            go_wp2
            exact ⟨⟨rs, false, rfl, rfl, HRZ, HTQ, HB3⟩, by have := HLE.out; show (⟨rs.toArray⟩ : ByteArray).size < (⟨y.toArray⟩ : ByteArray).size; rw [Lib.size_eq, Lib.size_eq]; show rs.length < y.length; omega⟩
          | false =>
            have HTQ := Lib.hid (show T = ((restW vs (k + 1)).foldl stepW (false, false)).2 from HTN.out)
            go_wp2
            exact ⟨⟨k + 1, false, by omega, by go_num, rfl, HTQ, HB3⟩, by simp [intOf] <;> omega⟩
        · have HTN := Lib.hid (show T = (((if more = true then wordsL rs else []) ++ restW vs (k + 1)).foldl stepW (false, bq)).2 by
            rw [HTY.out, HWC.out, List.cons_append, List.foldl_cons, stepW_no h1 h2])
          have b1 : (sw == [99, 108, 111, 115, 101]) = false := by simpa using h1
          have b2 : (sw == [107, 101, 101, 112, 45, 97, 108, 105, 118, 101]) = false := by simpa using h2
          cases more with
          | true =>
            have HTQ := Lib.hid (show T = ((wordsL rs ++ restW vs (k + 1)).foldl stepW (false, bq)).2 from HTN.out)
            have HLE := Lib.hid (HCM.out rfl)
            go_wp2
            exact ⟨⟨rs, bq, rfl, rfl, HRZ, HTQ, HB3⟩, by have := HLE.out; show (⟨rs.toArray⟩ : ByteArray).size < (⟨y.toArray⟩ : ByteArray).size; rw [Lib.size_eq, Lib.size_eq]; show rs.length < y.length; omega⟩
          | false =>
            have HTQ := Lib.hid (show T = ((restW vs (k + 1)).foldl stepW (false, bq)).2 from HTN.out)
            go_wp2
            exact ⟨⟨k + 1, bq, by omega, by go_num, rfl, HTQ, HB3⟩, by simp [intOf] <;> omega⟩
    · have hge : decide ((k : Int) < (n : Int)) = false := by simp; omega
      have HE := Lib.hid (show b = T by rw [HTK.out, restW_end (by rw [← HN.out]; omega)]; rfl)
      go_wp2
      rw [Exit.noGoto_ret]
      go_ret
      exact ⟨by rw [HE.out]; rfl, HB.out⟩
end Go.Proofs.YtlelemjmknbnaaaGreatDoor
