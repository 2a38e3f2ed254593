/- FixTexts: for every int64 n and up to 40 zeros the program's Text is the document's, it is read as n, also with zeros ahead, behind its point, and an exponent of 0; and the chapter's rows hold; no condition beside the tables of Go's library that the card ties. -/
import Derived.Test.YtmbdggbppbkojaaDoorFixRow
import Derived.Test.YtmbdggbppbkojaaDoorTextPlain
import Derived.Deep.DeepCutAuto
namespace Go.Proofs.YtmbdggbppbkojaaDoor.fixTexts
open Go.ChangeShapes Go.WideShapes Go.ChangeAt Go.RowKit

def aheadL (n : Int) : List UInt8 := Lib.decDigits (n.natAbs / 1000000)
def behindL (n : Int) : List UInt8 := fracS (n.natAbs % 1000000) 6
def signL (n : Int) : List UInt8 := if n < 0 then [45] else []
/-- The text without its sign, the point always there, k zeros at both ends. -/
def longL (n : Int) (k : Nat) : List UInt8 := List.replicate k 48 ++ aheadL n ++ 46 :: (behindL n ++ List.replicate k 48)
theorem dec_ne (u : Nat) : Lib.decDigits u ≠ [] := by
  intro h
  have := Lib.decDigits_length u
  have h1 := Lib.nDigits_pos u
  rw [h] at this
  simp at this; omega
theorem behind_low (n : Int) : lowD (n.natAbs % 1000000) 6 = behindL n ++ List.replicate (6 - (behindL n).length) 48 := by
  have := trimR_back (lowD (n.natAbs % 1000000) 6)
  rw [low_len, ← fracS_trim] at this
  exact this
theorem behind_isD (n : Int) : ∀ c ∈ behindL n, isD c = true := fun c hc =>
  low_isD (n.natAbs % 1000000) 6 c (by rw [behind_low]; exact List.mem_append_left _ hc)
theorem behind_len (n : Int) : (behindL n).length ≤ 6 := fracS_len _ _
theorem val_text (n : Int) (k : Nat) : valF 0 ((List.replicate k 48 ++ aheadL n) ++ (behindL n ++ List.replicate k 48)) * 10 ^ 6 = n.natAbs * 10 ^ (behindL n ++ List.replicate k 48).length := by
  have h1 : valF (n.natAbs / 1000000) (behindL n) * 10 ^ (6 - (behindL n).length) = n.natAbs := by
    rw [← val_zeros, ← valF_append, ← behind_low, valF_acc, low_len, val_low]
    have : (10 : Nat) ^ 6 = 1000000 := by decide
    rw [this, Nat.mod_mod]
    omega
  have h2 : valF 0 ((List.replicate k 48 ++ aheadL n) ++ (behindL n ++ List.replicate k 48)) = valF (n.natAbs / 1000000) (behindL n) * 10 ^ k := by
    rw [valF_append, valF_append, val_zeros, valF_append 0 (List.replicate k 48) (aheadL n), val_zeros, Nat.zero_mul]
    unfold aheadL
    rw [val_dec _ _ (Nat.le_refl _)]
  have hl := behind_len n
  rw [h2, List.length_append, List.length_replicate]
  conv => rhs; rw [← h1]
  rw [Nat.mul_assoc, Nat.mul_assoc, ← Nat.pow_add, ← Nat.pow_add]
  congr 2
  omega
theorem sgnI_n (n : Int) : sgnI (decide (n < 0)) n.natAbs = n := by
  unfold sgnI
  by_cases h : n < 0
  · simp [h]; omega
  · simp [h]; omega
theorem bnd_n (n : Int) (h0 : -9223372036854775808 ≤ n) (h1 : n ≤ 9223372036854775807) : n.natAbs ≤ bnd (decide (n < 0)) := by
  unfold bnd
  by_cases h : n < 0
  · simp [h]; omega
  · simp [h]; omega
theorem ahead_cons (n : Int) (k : Nat) : ∃ c l, List.replicate k 48 ++ aheadL n = c :: l ∧ isD c = true := by
  have hall : ∀ c ∈ List.replicate k 48 ++ aheadL n, isD c = true := fun c hc => by
    rcases List.mem_append.1 hc with h | h
    · exact zeros_isD k c h
    · exact dec_isD _ _ (Nat.le_refl _) c h
  cases hl : List.replicate k 48 ++ aheadL n with
  | nil =>
    have := (List.append_eq_nil_iff.1 hl).2
    exact absurd this (dec_ne _)
  | cons c l => exact ⟨c, l, rfl, hall c (by rw [hl]; exact List.mem_cons_self ..)⟩
/-- Read as n: with the point, k zeros and a suffix. -/
theorem reads_long (n : Int) (k : Nat) (b : Bool) (h0 : -9223372036854775808 ≤ n) (h1 : n ≤ 9223372036854775807) :
    parseF (signL n ++ (longL n k ++ tails b)) = (n, 0) := by
  obtain ⟨c, l, hc, hcd⟩ := ahead_cons n k
  have hA : ∀ c ∈ List.replicate k 48 ++ aheadL n, isD c = true := fun c hc => by
    rcases List.mem_append.1 hc with h | h
    · exact zeros_isD k c h
    · exact dec_isD _ _ (Nat.le_refl _) c h
  have hB : ∀ c ∈ behindL n ++ List.replicate k 48, isD c = true := fun c hc => by
    rcases List.mem_append.1 hc with h | h
    · exact behind_isD n c h
    · exact zeros_isD k c h
  have hL : signL n ++ (longL n k ++ tails b) = (if decide (n < 0) = true then [45] else []) ++ c :: (l ++ 46 :: ((behindL n ++ List.replicate k 48) ++ tails b)) := by
    unfold signL longL
    rw [hc]
    simp
  obtain ⟨e1, e2⟩ := sign_text (neg := decide (n < 0)) (l := l ++ 46 :: ((behindL n ++ List.replicate k 48) ++ tails b)) hcd
  rw [hL]
  have hp := parse_text (neg := decide (n < 0)) (A := List.replicate k 48 ++ aheadL n) (B := behindL n ++ List.replicate k 48) (m := n.natAbs)
    (s := ⟨decide (n < 0), List.replicate k 48 ++ aheadL n, behindL n ++ List.replicate k 48, false, if b then [48, 48] else []⟩) (L := (if decide (n < 0) = true then [45] else []) ++ c :: (l ++ 46 :: ((behindL n ++ List.replicate k 48) ++ tails b)))
    rfl (by cases b <;> rfl) (by rw [hc]; simp) (by
      unfold shape
      rw [e1]
      have := body_text (neg := decide (n < 0)) (b := b) hA (by rw [hc]; simp) hB
      rw [hc, List.cons_append] at this
      rw [hc]
      exact this) e2 (val_text n k) (bnd_n n h0 h1)
  rw [sgnI_n] at hp
  exact hp
theorem reads_plain (n : Int) (h0 : -9223372036854775808 ≤ n) (h1 : n ≤ 9223372036854775807) : parseF (textF n) = (n, 0) := by
  have hf : fracF (n.natAbs % 1000000) = if behindL n = [] then [] else 46 :: behindL n := fracF_eq (by omega)
  by_cases hb : behindL n = []
  · obtain ⟨c, l, hc, hcd⟩ := ahead_cons n 0
    simp only [List.replicate_zero, List.nil_append] at hc
    have hT : textF n = (if decide (n < 0) = true then [45] else []) ++ c :: l := by
      unfold textF
      rw [hf, if_pos hb, List.append_nil, ← hc]
      simp [aheadL]
    obtain ⟨e1, e2⟩ := sign_text (neg := decide (n < 0)) (l := l) hcd
    have hA : ∀ c ∈ aheadL n, isD c = true := dec_isD _ _ (Nat.le_refl _)
    have hv := val_text n 0
    simp only [List.replicate_zero, List.nil_append, List.append_nil, hb] at hv
    have hp := parse_text (neg := decide (n < 0)) (A := aheadL n) (B := []) (m := n.natAbs) (s := ⟨decide (n < 0), aheadL n, [], false, []⟩) (L := (if decide (n < 0) = true then [45] else []) ++ c :: l)
      rfl rfl (by rw [hc]; simp) (by
        unfold shape
        rw [e1, ← hc]
        exact body_plain hA (by rw [hc]; simp)) e2 (by simpa using hv) (bnd_n n h0 h1)
    rw [hT, hp, sgnI_n]
  · have h := reads_long n 0 false h0 h1
    have hT : textF n = signL n ++ (longL n 0 ++ tails false) := by
      unfold textF signL longL tails
      rw [hf, if_neg hb]
      simp [aheadL]
    rw [hT]; exact h

theorem tab_of_laid {l : List (String × DataW Unit)} (hm : ("internal/strconv.uint64pow10", Rows.laid_internal_strconv_uint64pow10) ∈ l) {W : World} (h : laidMet Tryd.prog l W) :
    Lib.TabIs Tryd.prog W "internal/strconv.uint64pow10" .u64 Lib.pow10Tab ∧ 5 < W.heap.size := by
  obtain ⟨g, t, cs, fuel, p, hg, ht, hv, hd⟩ := Lib.laidMet.reads h hm
  have hgn : Tryd.prog.globalNamed "internal/strconv.uint64pow10" = some 5 := by kernel_rfl
  obtain rfl := Option.some.inj (hgn.symm.trans hg)
  obtain rfl := Option.some.inj ((show (Tryd.prog.globals[5]?).map (·.type) = some 110 by kernel_rfl).symm.trans ht)
  rw [show (Rows.laid_internal_strconv_uint64pow10 : DataW Unit) = Lib.tabData .u64 Lib.pow10Tab by kernel_rfl] at hd
  have hcs := Lib.cells_of_tab Tryd.underlying110 Tryd.underlying39 (by kernel_rfl) (by kernel_rfl) hd
  refine ⟨?_, ?_⟩
  · unfold Lib.TabIs
    rw [hv, ← hcs]
  · have hc := World.var?_cell hg hv 0
    have h0 : cs[0]? = some (.int .u64 1) := by
      have : cs.toList[0]? = some (.int .u64 1) := by rw [hcs]; rfl
      simpa using this
    rw [h0] at hc
    rcases Nat.lt_or_ge 5 W.heap.size with hl | hl
    · exact hl
    · simp [World.cell?, Array.getElem?_eq_none hl] at hc

theorem text_len (n : Int) : (textF n).length ≤ 100 ∨ 18446744073709551616 ≤ n.natAbs / 1000000 := by
  rcases Nat.lt_or_ge (n.natAbs / 1000000) 18446744073709551616 with h | h
  · left
    have h1 := Lib.nDigits_le20 _ h
    have h2 := behind_len n
    have hf : fracF (n.natAbs % 1000000) = if behindL n = [] then [] else 46 :: behindL n := fracF_eq (by omega)
    unfold textF
    rw [hf, List.length_append, List.length_append, Lib.decDigits_length]
    have h3 : (if n < 0 then [45] else [] : List UInt8).length ≤ 1 := by split <;> simp
    have h4 : (if behindL n = [] then [] else 46 :: behindL n).length ≤ 7 := by split <;> simp <;> omega
    omega
  · exact .inr h
theorem frac_behind (n : Int) : fracF (n.natAbs % 1000000) = if behindL n = [] then [] else 46 :: behindL n := fracF_eq (by omega)
theorem text_parts (n : Int) : textF n = signL n ++ (aheadL n ++ fracF (n.natAbs % 1000000)) := by unfold textF signL aheadL; simp
theorem point_any (n : Int) : (aheadL n ++ fracF (n.natAbs % 1000000)).any (fun c => decide (c.toNat = 46)) = decide (behindL n ≠ []) := by
  have hno : ∀ l : List UInt8, (∀ c ∈ l, isD c = true) → l.any (fun c => decide (c.toNat = 46)) = false := fun l hl => by
    rw [List.any_eq_false]
    intro c hc
    have := (isD_iff c).1 (hl c hc)
    simp; omega
  rw [List.any_append, hno (aheadL n) (dec_isD _ _ (Nat.le_refl _)), Bool.false_or, frac_behind]
  by_cases h : behindL n = []
  · simp [h]
  · rw [if_neg h, decide_eq_true h]
    rfl
theorem any_snoc {l : List UInt8} {i : Nat} {c : UInt8} (h : l[i]? = some c) : (l.take (i + 1)).any (fun c => decide (c.toNat = 46)) = ((l.take i).any (fun c => decide (c.toNat = 46)) || ((c.toNat : Int) == 46)) := by
  rw [List.take_add_one, h, List.any_append]
  congr 1
  by_cases hc : c.toNat = 46
  · have : ((c.toNat : Int) == 46) = true := beq_iff_eq.2 (by omega)
    rw [this]; simp [hc]
  · have : ((c.toNat : Int) == 46) = false := beq_eq_false_iff_ne.2 (by omega)
    rw [this]; simp [hc]
theorem long_step (n : Int) (k : Nat) : longL n (k + 1) = 48 :: longL n k ++ [48] := by
  unfold longL
  rw [List.replicate_succ, show (48 :: List.replicate k 48 : List UInt8) = List.replicate k 48 ++ [48] from by rw [← List.replicate_succ, List.replicate_succ']]
  simp [← List.replicate_succ', List.replicate_succ]

set_option maxRecDepth 100000 in
set_option maxHeartbeats 400000 in
theorem law_out (n z : Int) (w : World) (hz : z < 0 ∨ 40 < z) (hT : FoldTab w) (hlt : 2 < w.heap.size) :
    Calls Tryd.prog 4 #[.int .i64 n, .int .i64 z] w fun e w' => e = .returned (.bool true) ∧ Below w.heap.size w w' := by
  have HK := Lib.hid (known_yes w w hT hlt (Below.refl _ _))
  clear hT
  rcases hz with hz | hz
  · go_enter Tryd.func4, Tryd.ntmps4
    go_wp2_with fail
    refine (Hid.out HK).mono ?_
    rintro e w3 ⟨rfl, hb3⟩
    go_wp2
    go_ret
    exact ⟨rfl, hb3⟩
  · have hz2 : ¬ z < 0 := by omega
    have hz3 : decide (z < 0) = false := decide_eq_false hz2
    go_enter Tryd.func4, Tryd.ntmps4
    go_wp2_with fail
    refine (Hid.out HK).mono ?_
    rintro e w3 ⟨rfl, hb3⟩
    go_wp2
    go_ret
    exact ⟨rfl, hb3⟩

def LawPost (w : World) (e : Ending) (w' : World) : Prop := e = .returned (.bool true) ∧ Below w.heap.size w w'
set_option maxRecDepth 100000 in
set_option maxHeartbeats 4000000 in
theorem law_in (n : Int) (z : Nat) (w : World) (hz : z ≤ 40) (h0 : -9223372036854775808 ≤ n) (h1 : n ≤ 9223372036854775807) (hT : FoldTab w) (hlt : 2 < w.heap.size)
    (htab : Lib.TabIs Tryd.prog w "internal/strconv.uint64pow10" .u64 Lib.pow10Tab) (hltp : 5 < w.heap.size) :
    Calls Tryd.prog 4 #[.int .i64 n, .int .i64 z] w (LawPost w) := by
  have HK := Lib.hid (fun w1 hb => known_yes w w1 hT hlt hb)
  have HRT := Lib.hid (rtext_any n w h0 h1)
  have hsz : (textB n).size ≤ 100 := by
    rcases text_len n with h | h
    · rw [Lib.size_eq]; exact h
    · omega
  have HP := Lib.hid (fun w1 hb => parse_later (textB n) w w1 (by omega) hT hlt hb)
  have HTX := Lib.hid (fun w1 (hb : Below w.heap.size w w1) => text_any n w1 h0 h1 (tab_below htab hb hltp) (Nat.lt_of_lt_of_le hltp hb.size))
  have HRD := Lib.hid (fun (s : ByteArray) w1 hs hb h => reads_yes s n w w1 hs hT hlt hb h)
  have HRP := Lib.hid (reads_plain n h0 h1)
  have HRL := Lib.hid (fun k b => reads_long n k b h0 h1)
  have HTD := Lib.hid (show (textB n).data.toList = textF n from rfl)
  clear hT htab h0 h1
  have hz0 : (0 : Int) ≤ z := by omega
  have hz1 : (z : Int) ≤ 40 := by omega
  go_enter Tryd.func4, Tryd.ntmps4
  go_wp2_with fail
  refine (Hid.out HRT).mono ?_
  rintro e w1 ⟨rfl, hb1⟩
  have HB1 := Lib.hid hb1
  clear hb1
  go_wp2_with fail
  refine (Hid.out HP _ HB1.out).mono ?_
  rintro e w2 ⟨rfl, hb2⟩
  have HB2 := Lib.hid hb2
  clear hb2
  rw [HTD.out, HRP.out]
  go_wp2_with fail
  refine (Hid.out HTX _ HB2.out).mono ?_
  rintro e w3 ⟨rfl, hb3⟩
  have HB3 := Lib.hid (HB2.out.trans (hb3.mono HB2.out.size))
  clear hb3
  generalize textB n = T at *
  have hnn : (n != n) = false := by simp
  go_upto_if 42 with (fail)
  go_cut [8, 9] (fun u v wx => w3 = wx ∧ ∃ SG R : ByteArray, u = .string SG ∧ v = .string R ∧ SG.size ≤ 1 ∧ R.size ≤ 100 ∧ Hid (SG.data.toList = signL n ∧ R.data.toList = aheadL n ++ fracF (n.natAbs % 1000000)))
  case first =>
    by_cases hn : n < 0
    · have HX := Lib.hid (show (T.extract 1 T.size).data.toList = aheadL n ++ fracF (n.natAbs % 1000000) by
        rw [Lib.extract_to_end, HTD.out, text_parts]
        simp [signL, hn])
      have hT1 : (1 : Int) ≤ T.size := by
        have h1 := congrArg List.length HTD.out
        rw [← Lib.size_eq, text_parts] at h1
        simp [signL, hn] at h1
        omega
      go_wp2_with fail
      go_meet
      case rel => exact ⟨rfl, ⟨#[45]⟩, _, rfl, rfl, by decide, by simp; omega, Lib.hid ⟨by simp [signL]; omega, HX.out⟩⟩
    · have HX := Lib.hid (show T.data.toList = aheadL n ++ fracF (n.natAbs % 1000000) by
        rw [HTD.out, text_parts]
        simp [signL, hn])
      go_wp2_with fail
      go_meet
      case rel => exact ⟨rfl, ⟨#[]⟩, T, rfl, rfl, by decide, hsz, Lib.hid ⟨by simp [signL]; omega, HX.out⟩⟩
  case rest =>
    obtain ⟨rfl, SG, R, rfl, rfl, hSG, hR, HX⟩ := hcut
    go_wp2_with fail
    go_loop [10, 11] (fun u j => ∃ i : Nat, i ≤ R.size ∧ j = .int .i64 i ∧ u = .bool ((R.data.toList.take i).any (fun c => decide (c.toNat = 46)))) (fun _ j => R.size - (intOf j).toNat)
    case atStart => exact ⟨0, Nat.zero_le _, rfl, rfl⟩
    case round =>
      obtain ⟨i, hi, rfl, rfl⟩ := hrel
      by_cases hlt : i < R.size
      · obtain ⟨c, hc⟩ : ∃ c : UInt8, R[i]'hlt = c := ⟨_, rfl⟩
        have hcl : R.data.toList[i]? = some c := by rw [← hc]; exact Lib.data_getElem? R i hlt
        have HST := Lib.hid (any_snoc hcl)
        clear hcl
        have hlt' : (i : Int) < R.size := by omega
        generalize (R.data.toList.take i).any (fun c => decide (c.toNat = 46)) = b at *
        cases b
        · go_wp2_with fail
          go_round
          case rel => exact ⟨i + 1, by omega, by go_num, by rw [HST.out]; rfl⟩
          case measure => simp [intOf] <;> omega
        · go_wp2_with fail
          go_round
          case rel => exact ⟨i + 1, by omega, by go_num, by rw [HST.out]; rfl⟩
          case measure => simp [intOf] <;> omega
      · have HBE := Lib.hid (show (R.data.toList.take i).any (fun c => decide (c.toNat = 46)) = decide (behindL n ≠ []) by
          rw [List.take_of_length_le (by rw [← Lib.size_eq]; omega), HX.out.2, point_any])
        generalize (R.data.toList.take i).any (fun c => decide (c.toNat = 46)) = b at *
        have hge : ¬ (i : Int) < R.size := by omega
        go_upto_if 59 with (fail)
        go_cut [9] (fun v wx => w3 = wx ∧ ∃ X : ByteArray, v = .string X ∧ X.size ≤ 101 ∧ Hid (X.data.toList = longL n 0))
        case first =>
          cases b
          · have HY := Lib.hid (show (R ++ ⟨#[46]⟩ : ByteArray).data.toList = longL n 0 by
              have hb : behindL n = [] := by
                have := HBE.out.symm
                simpa using this
              have h1 := HX.out.2
              rw [frac_behind, if_pos hb] at h1
              unfold longL
              simp [h1, hb])
            go_wp2_with fail
            go_meet
            case rel => exact ⟨rfl, _, rfl, by rw [ByteArray.size_append, one_size]; omega, HY⟩
          · have HY := Lib.hid (show R.data.toList = longL n 0 by
              have hb : behindL n ≠ [] := by
                have := HBE.out.symm
                simpa using this
              have h1 := HX.out.2
              rw [frac_behind, if_neg hb] at h1
              unfold longL
              simp [h1])
            go_wp2_with fail
            go_meet
            case rel => exact ⟨rfl, _, rfl, by omega, HY⟩
        case rest =>
          obtain ⟨rfl, X, rfl, hX, HXL⟩ := hcut
          clear hi hge
          go_wp2_with fail
          go_loop [9, 12] (fun v j => ∃ (k : Nat) (Y : ByteArray), k ≤ z ∧ j = .int .i64 k ∧ v = .string Y ∧ Y.size ≤ 101 + 2 * k ∧ Hid (Y.data.toList = longL n k)) (fun _ j => z - (intOf j).toNat)
          case atStart => exact ⟨0, X, Nat.zero_le _, rfl, rfl, by omega, HXL⟩
          case round =>
            obtain ⟨k, Y, hk, rfl, rfl, hY, HY⟩ := hrel
            by_cases hkz : k < z
            · have hkz' : (k : Int) < z := by omega
              have HN := Lib.hid (show (⟨#[48]⟩ ++ Y ++ ⟨#[48]⟩ : ByteArray).data.toList = longL n (k + 1) by
                rw [long_step, ← HY.out]; simp)
              go_wp2_with fail
              go_round
              case rel => exact ⟨k + 1, _, by omega, by go_num, rfl, by rw [ByteArray.size_append, ByteArray.size_append, one_size]; omega, HN⟩
              case measure => simp [intOf] <;> omega
            · have hkz' : ¬ (k : Int) < z := by omega
              have HR1 := Lib.hid (Hid.out HRD (SG ++ Y) w3 (by rw [ByteArray.size_append]; omega) HB3.out (by
                have := HRL.out k false
                simp only [tails, Bool.false_eq_true, if_false, List.append_nil] at this
                rw [← HY.out, ← HX.out.1] at this
                simpa using this))
              have HR2 := Lib.hid (fun w4 hb => Hid.out HRD (SG ++ Y ++ ⟨#[69, 43, 48, 48]⟩) w4 (by rw [ByteArray.size_append, ByteArray.size_append]; show _ + 4 < _; omega) hb (by
                have := HRL.out k true
                simp only [tails, if_true] at this
                rw [← HY.out, ← HX.out.1] at this
                simpa using this))
              go_wp2_with fail
              refine (Hid.out HR1).mono ?_
              rintro e w4 ⟨rfl, hb4⟩
              go_wp2_with fail
              refine (Hid.out HR2 _ hb4).mono ?_
              rintro e w5 ⟨rfl, hb5⟩
              go_wp2_with fail
              refine (Hid.out HK _ hb5).mono ?_
              rintro e w6 ⟨rfl, hb6⟩
              go_wp2_with fail
              go_ret
              exact ⟨rfl, hb6⟩
set_option maxRecDepth 100000 in
theorem lifted (os : Os) (started : os.Started) (H : Type) (enc : TypeId × Value → H) :
    ReturnsInHanded {} Tryd.checked os 4 .any (fun w args => (Rows.fixTextsSpec.pre enc Tryd.prog Tryd.f4 [] false w args ∧ laidMetH Tryd.prog Rows.fixTextsRow.laid w) ∧ sizedMet enc Tryd.prog Tryd.f4 (OpenSpec.ofChange Rows.fixTextsSpec) false w args)
      (Rows.fixTextsSpec.post enc Tryd.prog Tryd.f4 false true false false) := by
  refine returnsInHanded_of_change_and (C := Tryd.checked) (X := fun w _ => laidMetH Tryd.prog Rows.fixTextsRow.laid w) (fun _ _ _ hh h => h.of_heap hh) own started (by kernel_rfl) Tryd.func4
    (ChangeSpec.witness_shaped (enc := enc) (C := Tryd.checked) (os := os) (X := fun w _ => laidMetH Tryd.prog Rows.fixTextsRow.laid w) false (World.laidAll Tryd.prog os Rows.fixTextsRow.laid) #[.int .i64 0, .int .i64 0] 8 (World.laidAll_os _ _ _)
      (World.shaped_of_ZipB (by kernel_rfl) (by kernel_rfl)) (by kernel_rfl) (by kernel_rfl) (by kernel_rfl)
      (by rw [MakeChecks.laidMetH_plain _ _ _ (by kernel_rfl)]; exact laidMet_laidAll _ (by kernel_rfl) (by kernel_rfl))) ?_
  intro W base args ds gs before hval0 hW hc _ hL _
  have hval : ∀ (j : Nat) t v, Tryd.f4.params[j]? = some t → args[j]? = some v → Value.okWide Tryd.prog W .any base t v := hval0
  have hW' := hW
  obtain ⟨p, q, hA0, hV, rfl, _, _⟩ := hW
  have hA : DataW.TrodAll enc Tryd.prog W 0 (fun _ => true) true Tryd.f4.params.toList args.toList ds p := hA0
  rw [Tryd.params4] at hA hval
  obtain ⟨v0, v1, d0, d1, p0, p1, rfl, rfl, rfl, h0, h1⟩ := trodAll_two hA
  obtain ⟨rfl, rfl⟩ := trodVars_none hV
  obtain ⟨a, rfl, rfl, rfl, wa⟩ := open_int Tryd.underlying2 (hval 0 2 v0 rfl rfl) h0
  obtain ⟨b, rfl, rfl, rfl, wb⟩ := open_int Tryd.underlying3 (hval 1 3 v1 rfl rfl) h1
  simp only [List.append_nil] at hW'
  have ha : -9223372036854775808 ≤ a ∧ a ≤ 9223372036854775807 := by simpa [Lit.wf, IntKind.min, IntKind.max, IntKind.signed, IntKind.bits] using wa
  have hb : -9223372036854775808 ≤ b ∧ b ≤ 9223372036854775807 := by simpa [Lit.wf, IntKind.min, IntKind.max, IntKind.signed, IntKind.bits] using wb
  rw [MakeChecks.laidMetH_plain _ _ _ (by kernel_rfl)] at hL
  have hT := fold_of_laid (l := Rows.fixTextsRow.laid) (by simp [Rows.fixTextsRow]) hL
  have hP := tab_of_laid (l := Rows.fixTextsRow.laid) (by simp [Rows.fixTextsRow]) hL
  have law : Calls Tryd.prog 4 #[.int .i64 a, .int .i64 b] W fun e w' => e = .returned (.bool true) ∧ Below W.heap.size W w' := by
    by_cases hz : b < 0 ∨ 40 < b
    · exact law_out a b W hz hT.1 hT.2
    · obtain ⟨z, rfl⟩ : ∃ z : Nat, b = z := ⟨b.toNat, by omega⟩
      exact law_in a z W (by omega) ha.1 ha.2 hT.1 hT.2 hP.1 hP.2
  refine law.mono fun e W' ⟨he, hb⟩ => ?_
  subst he
  exact ⟨_, rfl, _, _, _, [], [], [], hW', trodAll_mk1 (shut_bool Tryd.underlying4 _), trodAll_mk2 (shut_int Tryd.underlying2 wa) (shut_int Tryd.underlying3 wb), rfl, hb.frame _, fun h => by cases h⟩

theorem holds : Rows.FixTextsSaid :=
  OpenClaim.holds_of_wide 4 Tryd.f4 rfl rfl rfl rfl rfl rfl rfl ⟨rfl, rfl, rfl, rfl, rfl⟩ rfl rfl rfl rfl rfl (by kernel_rfl) Tryd.func4 (by kernel_rfl)
    (of_decide_eq_true (by kernel_rfl)) (by unfold Func.isWrapper; first | (rw [if_pos (by decide +kernel)]; kernel_rfl) | (rw [if_neg (by decide +kernel)]; exact ⟨rfl, rfl⟩))
    (fun os started H enc _ => lifted os started H enc)

theorem card_holds : Rows.FixTextsCardSaid :=
  Claim7.holds_tied_plain_at .later [] _ _ _ _ holds (fun _ h => by cases h) (by kernel_rfl) (fun _ h => by cases h) fixTexts_row_tie rfl ⟨rfl, rfl⟩ (by kernel_rfl) rfl
    (fun f fn hf hfn => by
      obtain rfl : f = 4 := Option.some.inj ((show Tryd.prog.funcNamed Rows.fixTextsRow.func = some 4 by kernel_rfl).symm.trans hf) |>.symm
      obtain rfl : fn = Tryd.f4 := (Option.some.inj (Tryd.func4.symm.trans hfn)).symm
      exact ⟨by kernel_rfl, fun j t ht => by
        rw [Tryd.params4] at ht
        have hm : t ∈ [2, 3] := by simpa using Array.mem_of_getElem? ht
        have hall : ([2, 3].all fun u => !Tryd.prog.wantsStandIn u) = true := by kernel_rfl
        exact (show Tryd.prog.wantsStandIn t = false by simpa using List.all_eq_true.1 hall t hm)⟩)
    (by kernel_rfl)
#print axioms card_holds
end Go.Proofs.YtmbdggbppbkojaaDoor.fixTexts
