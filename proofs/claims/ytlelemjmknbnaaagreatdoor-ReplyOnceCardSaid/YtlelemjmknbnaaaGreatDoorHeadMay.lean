/- Which bytes may be in a name, in text, in a number: the program's. -/
import Derived.Test.YtlelemjmknbnaaaGreatDoorAppendL
import Derived.Test.YtlelemjmknbnaaaGreatDoorHeadPlain
import Derived.BigQuiet
import Derived.Deep.QuietTactic
namespace Go.Proofs.YtlelemjmknbnaaaGreatDoor
open Go.RowKit

theorem ret_bool' {a b : Bool} (h : a = b) : Ending.returned (.bool a) = .returned (.bool b) := by rw [h]
theorem data_at (s : ByteArray) (k : Nat) (hlt : k < s.size) : ∃ c : UInt8, s[k]'hlt = c ∧ s.data.toList[k]? = some c :=
  ⟨_, rfl, Lib.data_getElem? s k hlt⟩
theorem all_snoc {p : UInt8 → Bool} {l : List UInt8} {k : Nat} {c : UInt8} (h : l[k]? = some c) : (l.take (k + 1)).all p = ((l.take k).all p && p c) := by
  rw [List.take_add_one, h]
  simp
theorem all_false {p : UInt8 → Bool} {l : List UInt8} {k : Nat} {c : UInt8} (h : l[k]? = some c) (h1 : p c = false) : l.all p = false := by
  rw [List.all_eq_false]
  exact ⟨c, List.mem_of_getElem? h, by simp [h1]⟩
def allB (p : UInt8 → Bool) (l : List UInt8) : Bool := l.all p
theorem allB_snoc {p : UInt8 → Bool} {l : List UInt8} {k : Nat} {c : UInt8} (h : l[k]? = some c) : allB p (l.take (k + 1)) = (allB p (l.take k) && p c) := all_snoc h
theorem allB_false {p : UInt8 → Bool} {l : List UInt8} {k : Nat} {c : UInt8} (h : l[k]? = some c) (h1 : p c = false) : allB p l = false := all_false h h1
theorem indexByte_mem : ∀ (l : List UInt8) (c : UInt8), decide (0 ≤ Lib.indexByte l c) = l.contains c := by
  intro l c
  by_cases h : l.contains c = true
  · rw [h, decide_eq_true_eq]
    by_cases h0 : 0 ≤ Lib.indexByte l c
    · exact h0
    · have h1 := Lib.index_one l c
      have h2 := Lib.index_ge l [c]
      have h3 := Lib.indexByte_none (l := l) (c := c) (by rw [h1] at h2; omega)
      rw [List.contains_iff_mem] at h
      obtain ⟨k, hk⟩ := List.getElem?_of_mem h
      exact absurd hk (h3 k)
  · have h' : l.contains c = false := by simpa using h
    rw [h', decide_eq_false_iff_not]
    intro h0
    obtain ⟨o, ho⟩ : ∃ o : Nat, Lib.indexByte l c = o := ⟨(Lib.indexByte l c).toNat, by omega⟩
    have := (Lib.indexByte_some ho).1
    exact h (List.contains_iff_mem.2 (List.mem_of_getElem? this))
set_option maxRecDepth 100000 in
set_option maxHeartbeats 1000000 in
theorem signs_any (n : Int) (w : World) : Calls Tryz.prog 85 #[.string ⟨#[33, 35, 36, 37, 38, 39, 42, 43, 45, 46, 94, 95, 96, 124, 126]⟩, .int .u8 n] w fun e w' => e = .returned (.int .i64 (Lib.indexByte signsL n.toNat.toUInt8)) ∧ w = w' := by
  go_enter Tryz.func85, Tryz.ntmps85
  go_wp2_with (go_in)
  rw [run_callFunc_extern Tryz.func107 (by kernel_rfl) (by kernel_rfl) (by kernel_rfl) (e := Extern.BytealgIndexByte.indexByte) (by kernel_rfl), Lib.run_indexByteString]
  simp only [Result.andThen]
  rw [Oper.upon_value]
  go_wp2
  go_ret
  exact ⟨rfl, rfl⟩
set_option maxRecDepth 100000 in
set_option maxHeartbeats 1000000 in
theorem isDigit_any (c : UInt8) (w : World) :
    Calls Tryz.prog 69 #[.int .u8 (c.toNat : Int)] w fun e w' => e = .returned (.bool (digB c)) ∧ w = w' := by
  have hP : Hid (digB c = decide (48 ≤ c.toNat ∧ c.toNat ≤ 57)) := Lib.hid rfl
  obtain ⟨n, hn⟩ : ∃ n : Int, n = (c.toNat : Int) := ⟨_, rfl⟩
  rw [← hn]
  have HN := Lib.hid hn
  have hq0 : 0 ≤ n := by omega
  have hq : n ≤ 255 := by have := c.toNat_lt; omega
  clear hn
  by_cases h1 : 48 ≤ n
  · by_cases h2 : n ≤ 57
    · have HR := Lib.hid (show digB c = true by rw [hP.out, decide_eq_true_eq]; have := HN.out; omega)
      clear hP
      go_enter Tryz.func69, Tryz.ntmps69
      go_wp2
      go_ret
      exact ⟨ret_bool' HR.out.symm, rfl⟩
    · have HR := Lib.hid (show digB c = false by rw [hP.out, decide_eq_false_iff_not]; have := HN.out; omega)
      have g2 : decide (n ≤ 57) = false := by simp; omega
      clear hP
      go_enter Tryz.func69, Tryz.ntmps69
      go_wp2
      go_ret
      exact ⟨ret_bool' HR.out.symm, rfl⟩
  · have HR := Lib.hid (show digB c = false by rw [hP.out, decide_eq_false_iff_not]; have := HN.out; omega)
    have g1 : decide (48 ≤ n) = false := by simp; omega
    clear hP
    go_enter Tryz.func69, Tryz.ntmps69
    go_wp2
    go_ret
    exact ⟨ret_bool' HR.out.symm, rfl⟩
set_option maxRecDepth 100000 in
set_option maxHeartbeats 1000000 in
theorem inText_any (c : UInt8) (w : World) :
    Calls Tryz.prog 70 #[.int .u8 (c.toNat : Int)] w fun e w' => e = .returned (.bool (textB' c)) ∧ w = w' := by
  have hP : Hid (textB' c = decide (c.toNat = 9 ∨ (32 ≤ c.toNat ∧ c.toNat ≤ 126) ∨ 128 ≤ c.toNat)) := Lib.hid rfl
  obtain ⟨n, hn⟩ : ∃ n : Int, n = (c.toNat : Int) := ⟨_, rfl⟩
  rw [← hn]
  have HN := Lib.hid hn
  have hq0 : 0 ≤ n := by omega
  have hq : n ≤ 255 := by have := c.toNat_lt; omega
  clear hn
  have hcases : n < 9 ∨ n = 9 ∨ (9 < n ∧ n < 32) ∨ (32 ≤ n ∧ n ≤ 126) ∨ n = 127 ∨ 128 ≤ n := by omega
  rcases hcases with h | h | h | h | h | h
  · have HR := Lib.hid (show textB' c = false by rw [hP.out, decide_eq_false_iff_not]; have := HN.out; omega)
    have g0 : (n == 9) = false := by simp; omega
    have g1 : decide (32 ≤ n) = false := by simp; omega
    have g2 : decide (128 ≤ n) = false := by simp; omega
    clear hP h
    go_enter Tryz.func70, Tryz.ntmps70
    go_wp2
    go_ret
    exact ⟨ret_bool' HR.out.symm, rfl⟩
  · have HR := Lib.hid (show textB' c = true by rw [hP.out, decide_eq_true_eq]; have := HN.out; omega)
    have g0 : n = 9 := h
    clear hP h
    go_enter Tryz.func70, Tryz.ntmps70
    go_wp2
    go_ret
    exact ⟨ret_bool' HR.out.symm, rfl⟩
  · have HR := Lib.hid (show textB' c = false by rw [hP.out, decide_eq_false_iff_not]; have := HN.out; omega)
    have g0 : (n == 9) = false := by simp; omega
    have g1 : decide (32 ≤ n) = false := by simp; omega
    have g2 : decide (128 ≤ n) = false := by simp; omega
    clear hP h
    go_enter Tryz.func70, Tryz.ntmps70
    go_wp2
    go_ret
    exact ⟨ret_bool' HR.out.symm, rfl⟩
  · have HR := Lib.hid (show textB' c = true by rw [hP.out, decide_eq_true_eq]; have := HN.out; omega)
    have g0 : (n == 9) = false := by simp; omega
    have g1 : 32 ≤ n := by omega
    have g2 : n ≤ 126 := by omega
    clear hP h
    go_enter Tryz.func70, Tryz.ntmps70
    go_wp2
    go_ret
    exact ⟨ret_bool' HR.out.symm, rfl⟩
  · have HR := Lib.hid (show textB' c = false by rw [hP.out, decide_eq_false_iff_not]; have := HN.out; omega)
    have g0 : (n == 9) = false := by simp; omega
    have g1 : 32 ≤ n := by omega
    have g2 : decide (n ≤ 126) = false := by simp; omega
    have g3 : decide (128 ≤ n) = false := by simp; omega
    clear hP h
    go_enter Tryz.func70, Tryz.ntmps70
    go_wp2
    go_ret
    exact ⟨ret_bool' HR.out.symm, rfl⟩
  · have HR := Lib.hid (show textB' c = true by rw [hP.out, decide_eq_true_eq]; have := HN.out; omega)
    have g0 : (n == 9) = false := by simp; omega
    have g1 : 32 ≤ n := by omega
    have g2 : decide (n ≤ 126) = false := by simp; omega
    have g3 : 128 ≤ n := by omega
    clear hP h
    go_enter Tryz.func70, Tryz.ntmps70
    go_wp2
    go_ret
    exact ⟨ret_bool' HR.out.symm, rfl⟩
set_option maxRecDepth 100000 in
set_option maxHeartbeats 2000000 in
theorem inName_any (c : UInt8) (w : World) :
    Calls Tryz.prog 71 #[.int .u8 (c.toNat : Int)] w fun e w' => e = .returned (.bool (nameB c)) ∧ w = w' := by
  have HF := Lib.hid (signs_any (c.toNat : Int) w)
  have ec : ((c.toNat : Int)).toNat.toUInt8 = c := by rw [Int.toNat_natCast]; exact UInt8.ofNat_toNat
  rw [ec] at HF
  have HD := Lib.hid (isDigit_any c w)
  have hP : Hid (nameB c = (decide (97 ≤ c.toNat ∧ c.toNat ≤ 122) || decide (65 ≤ c.toNat ∧ c.toNat ≤ 90) || digB c || decide (0 ≤ Lib.indexByte signsL c))) := Lib.hid (by rw [indexByte_mem]; rfl)
  have hG : Hid (digB c = decide (48 ≤ c.toNat ∧ c.toNat ≤ 57)) := Lib.hid rfl
  obtain ⟨n, hn⟩ : ∃ n : Int, n = (c.toNat : Int) := ⟨_, rfl⟩
  rw [← hn] at HF HD ⊢
  have HN := Lib.hid hn
  have hq0 : 0 ≤ n := by omega
  have hq : n ≤ 255 := by have := c.toNat_lt; omega
  clear hn ec
  generalize digB c = dg at HD hP hG
  generalize Lib.indexByte signsL c = i at HF hP
  have hcases : n < 48 ∨ (48 ≤ n ∧ n ≤ 57) ∨ (57 < n ∧ n < 65) ∨ (65 ≤ n ∧ n ≤ 90) ∨ (90 < n ∧ n < 97) ∨ (97 ≤ n ∧ n ≤ 122) ∨ 122 < n := by omega
  rcases hcases with h | h | h | h | h | h | h
  · skip
    have g0 : decide (97 ≤ n) = false := by simp; omega
    have g1 : decide (65 ≤ n) = false := by simp; omega
    obtain rfl : dg = false := by rw [hG.out, decide_eq_false_iff_not]; have := HN.out; omega
    have e1 : decide (97 ≤ c.toNat ∧ c.toNat ≤ 122) = false := by rw [decide_eq_false_iff_not]; have := HN.out; omega
    have e2 : decide (65 ≤ c.toNat ∧ c.toNat ≤ 90) = false := by rw [decide_eq_false_iff_not]; have := HN.out; omega
    have HR := Lib.hid (show nameB c = decide (0 ≤ i) by rw [hP.out, e1, e2]; rfl)
    clear hP hG h e1 e2
    cases hi : decide (0 ≤ i) with
    | true =>
      rw [hi] at HR
      have hi' : 0 ≤ i := by simpa using hi
      clear hi
      go_enter Tryz.func71, Tryz.ntmps71
      go_wp2_with fail
      refine (Hid.out HD).mono ?_
      rintro e w1 ⟨rfl, rfl⟩
      go_wp2_with (refine (Hid.out HF).mono ?_; rintro e w1 ⟨rfl, rfl⟩)
      go_ret
      exact ⟨ret_bool' HR.out.symm, rfl⟩
    | false =>
      rw [hi] at HR
      go_enter Tryz.func71, Tryz.ntmps71
      go_wp2_with fail
      refine (Hid.out HD).mono ?_
      rintro e w1 ⟨rfl, rfl⟩
      go_wp2_with (refine (Hid.out HF).mono ?_; rintro e w1 ⟨rfl, rfl⟩)
      go_ret
      exact ⟨ret_bool' HR.out.symm, rfl⟩
  · skip
    have g0 : decide (97 ≤ n) = false := by simp; omega
    have g1 : decide (65 ≤ n) = false := by simp; omega
    obtain rfl : dg = true := by rw [hG.out, decide_eq_true_eq]; have := HN.out; omega
    have e1 : decide (97 ≤ c.toNat ∧ c.toNat ≤ 122) = false := by rw [decide_eq_false_iff_not]; have := HN.out; omega
    have e2 : decide (65 ≤ c.toNat ∧ c.toNat ≤ 90) = false := by rw [decide_eq_false_iff_not]; have := HN.out; omega
    have HR := Lib.hid (show nameB c = true by rw [hP.out, e1, e2]; simp)
    clear hP HF hG h e1 e2
    go_enter Tryz.func71, Tryz.ntmps71
    go_wp2_with (refine (Hid.out HD).mono ?_; rintro e w1 ⟨rfl, rfl⟩)
    go_ret
    exact ⟨ret_bool' HR.out.symm, rfl⟩
  · skip
    have g0 : decide (97 ≤ n) = false := by simp; omega
    have g1 : decide (65 ≤ n) = false := by simp; omega
    obtain rfl : dg = false := by rw [hG.out, decide_eq_false_iff_not]; have := HN.out; omega
    have e1 : decide (97 ≤ c.toNat ∧ c.toNat ≤ 122) = false := by rw [decide_eq_false_iff_not]; have := HN.out; omega
    have e2 : decide (65 ≤ c.toNat ∧ c.toNat ≤ 90) = false := by rw [decide_eq_false_iff_not]; have := HN.out; omega
    have HR := Lib.hid (show nameB c = decide (0 ≤ i) by rw [hP.out, e1, e2]; rfl)
    clear hP hG h e1 e2
    cases hi : decide (0 ≤ i) with
    | true =>
      rw [hi] at HR
      have hi' : 0 ≤ i := by simpa using hi
      clear hi
      go_enter Tryz.func71, Tryz.ntmps71
      go_wp2_with fail
      refine (Hid.out HD).mono ?_
      rintro e w1 ⟨rfl, rfl⟩
      go_wp2_with (refine (Hid.out HF).mono ?_; rintro e w1 ⟨rfl, rfl⟩)
      go_ret
      exact ⟨ret_bool' HR.out.symm, rfl⟩
    | false =>
      rw [hi] at HR
      go_enter Tryz.func71, Tryz.ntmps71
      go_wp2_with fail
      refine (Hid.out HD).mono ?_
      rintro e w1 ⟨rfl, rfl⟩
      go_wp2_with (refine (Hid.out HF).mono ?_; rintro e w1 ⟨rfl, rfl⟩)
      go_ret
      exact ⟨ret_bool' HR.out.symm, rfl⟩
  · skip
    have g0 : decide (97 ≤ n) = false := by simp; omega
    have g1 : 65 ≤ n := by omega
    have g2 : n ≤ 90 := by omega
    have e1 : decide (97 ≤ c.toNat ∧ c.toNat ≤ 122) = false := by rw [decide_eq_false_iff_not]; have := HN.out; omega
    have e2 : decide (65 ≤ c.toNat ∧ c.toNat ≤ 90) = true := by rw [decide_eq_true_eq]; have := HN.out; omega
    have HR := Lib.hid (show nameB c = true by rw [hP.out, e1, e2]; simp)
    clear hP HF hG h e1 e2
    go_enter Tryz.func71, Tryz.ntmps71
    go_wp2_with (refine (Hid.out HD).mono ?_; rintro e w1 ⟨rfl, rfl⟩)
    go_ret
    exact ⟨ret_bool' HR.out.symm, rfl⟩
  · skip
    have g0 : decide (97 ≤ n) = false := by simp; omega
    have g1 : 65 ≤ n := by omega
    have g2 : decide (n ≤ 90) = false := by simp; omega
    obtain rfl : dg = false := by rw [hG.out, decide_eq_false_iff_not]; have := HN.out; omega
    have e1 : decide (97 ≤ c.toNat ∧ c.toNat ≤ 122) = false := by rw [decide_eq_false_iff_not]; have := HN.out; omega
    have e2 : decide (65 ≤ c.toNat ∧ c.toNat ≤ 90) = false := by rw [decide_eq_false_iff_not]; have := HN.out; omega
    have HR := Lib.hid (show nameB c = decide (0 ≤ i) by rw [hP.out, e1, e2]; rfl)
    clear hP hG h e1 e2
    cases hi : decide (0 ≤ i) with
    | true =>
      rw [hi] at HR
      have hi' : 0 ≤ i := by simpa using hi
      clear hi
      go_enter Tryz.func71, Tryz.ntmps71
      go_wp2_with fail
      refine (Hid.out HD).mono ?_
      rintro e w1 ⟨rfl, rfl⟩
      go_wp2_with (refine (Hid.out HF).mono ?_; rintro e w1 ⟨rfl, rfl⟩)
      go_ret
      exact ⟨ret_bool' HR.out.symm, rfl⟩
    | false =>
      rw [hi] at HR
      go_enter Tryz.func71, Tryz.ntmps71
      go_wp2_with fail
      refine (Hid.out HD).mono ?_
      rintro e w1 ⟨rfl, rfl⟩
      go_wp2_with (refine (Hid.out HF).mono ?_; rintro e w1 ⟨rfl, rfl⟩)
      go_ret
      exact ⟨ret_bool' HR.out.symm, rfl⟩
  · skip
    have g0 : 97 ≤ n := by omega
    have g1 : n ≤ 122 := by omega
    have g2 : 65 ≤ n := by omega
    have g3 : decide (n ≤ 90) = false := by simp; omega
    have e1 : decide (97 ≤ c.toNat ∧ c.toNat ≤ 122) = true := by rw [decide_eq_true_eq]; have := HN.out; omega
    have e2 : decide (65 ≤ c.toNat ∧ c.toNat ≤ 90) = false := by rw [decide_eq_false_iff_not]; have := HN.out; omega
    have HR := Lib.hid (show nameB c = true by rw [hP.out, e1, e2]; simp)
    clear hP HF hG h e1 e2
    go_enter Tryz.func71, Tryz.ntmps71
    go_wp2_with (refine (Hid.out HD).mono ?_; rintro e w1 ⟨rfl, rfl⟩)
    go_ret
    exact ⟨ret_bool' HR.out.symm, rfl⟩
  · skip
    have g0 : 97 ≤ n := by omega
    have g1 : decide (n ≤ 122) = false := by simp; omega
    have g2 : 65 ≤ n := by omega
    have g3 : decide (n ≤ 90) = false := by simp; omega
    obtain rfl : dg = false := by rw [hG.out, decide_eq_false_iff_not]; have := HN.out; omega
    have e1 : decide (97 ≤ c.toNat ∧ c.toNat ≤ 122) = false := by rw [decide_eq_false_iff_not]; have := HN.out; omega
    have e2 : decide (65 ≤ c.toNat ∧ c.toNat ≤ 90) = false := by rw [decide_eq_false_iff_not]; have := HN.out; omega
    have HR := Lib.hid (show nameB c = decide (0 ≤ i) by rw [hP.out, e1, e2]; rfl)
    clear hP hG h e1 e2
    cases hi : decide (0 ≤ i) with
    | true =>
      rw [hi] at HR
      have hi' : 0 ≤ i := by simpa using hi
      clear hi
      go_enter Tryz.func71, Tryz.ntmps71
      go_wp2_with fail
      refine (Hid.out HD).mono ?_
      rintro e w1 ⟨rfl, rfl⟩
      go_wp2_with (refine (Hid.out HF).mono ?_; rintro e w1 ⟨rfl, rfl⟩)
      go_ret
      exact ⟨ret_bool' HR.out.symm, rfl⟩
    | false =>
      rw [hi] at HR
      go_enter Tryz.func71, Tryz.ntmps71
      go_wp2_with fail
      refine (Hid.out HD).mono ?_
      rintro e w1 ⟨rfl, rfl⟩
      go_wp2_with (refine (Hid.out HF).mono ?_; rintro e w1 ⟨rfl, rfl⟩)
      go_ret
      exact ⟨ret_bool' HR.out.symm, rfl⟩
set_option maxRecDepth 100000 in
set_option maxHeartbeats 2000000 in
theorem each_name (s : ByteArray) (w : World) (hs : s.size ≤ 9223372036854775807) :
    Calls Tryz.prog 68 #[.string s, .func (.func 71) #[] #[]] w fun e w' => e = .returned (.bool (allB nameB s.data.toList)) ∧ w = w' := by
  go_enter Tryz.func68, Tryz.ntmps68
  go_wp2
  go_loop [8] (fun i => ∃ k : Nat, k ≤ s.size ∧ i = .int .i64 k ∧ Hid (allB nameB (s.data.toList.take k) = true)) (fun i => s.size - (intOf i).toNat)
  case atStart => exact ⟨0, Nat.zero_le _, rfl, Lib.hid rfl⟩
  case round =>
    obtain ⟨k, hk, rfl, HK⟩ := hrel
    by_cases hlt : k < s.size
    · obtain ⟨c, hc, hcl⟩ := data_at s k hlt
      have HCL := Lib.hid hcl
      clear hcl
      have hlt' : (k : Int) < (s.size : Int) := by omega
      have hq : (c.toNat : Int) ≤ 255 := by have := c.toNat_lt; omega
      cases h1 : nameB c with
      | true =>
        have HC := Lib.hid (show Calls Tryz.prog 71 #[.int .u8 (c.toNat : Int)] w fun e w' => e = .returned (.bool true) ∧ w = w' by rw [← h1]; exact inName_any _ w)
        have HN := Lib.hid (show allB nameB (s.data.toList.take (k + 1)) = true by rw [allB_snoc HCL.out, HK.out, h1]; rfl)
        clear h1
        go_wp2_with (refine (Hid.out HC).mono ?_; rintro e w1 ⟨rfl, rfl⟩)
        go_round
        case rel => exact ⟨k + 1, by omega, by go_num, HN⟩
        case measure => simp [intOf] <;> omega
      | false =>
        have HC := Lib.hid (show Calls Tryz.prog 71 #[.int .u8 (c.toNat : Int)] w fun e w' => e = .returned (.bool false) ∧ w = w' by rw [← h1]; exact inName_any _ w)
        have HN := Lib.hid (allB_false HCL.out h1)
        clear h1
        go_wp2_with (refine (Hid.out HC).mono ?_; rintro e w1 ⟨rfl, rfl⟩)
        go_ret
        exact ⟨ret_bool' HN.out.symm, rfl⟩
    · have hge : decide ((k : Int) < (s.size : Int)) = false := by simp; omega
      have HN := Lib.hid (show allB nameB s.data.toList = true by rw [← HK.out, List.take_of_length_le (by rw [← Lib.size_eq]; omega)])
      go_wp2
      go_ret
      exact ⟨ret_bool' HN.out.symm, rfl⟩
set_option maxRecDepth 100000 in
set_option maxHeartbeats 2000000 in
theorem each_text (s : ByteArray) (w : World) (hs : s.size ≤ 9223372036854775807) :
    Calls Tryz.prog 68 #[.string s, .func (.func 70) #[] #[]] w fun e w' => e = .returned (.bool (allB textB' s.data.toList)) ∧ w = w' := by
  go_enter Tryz.func68, Tryz.ntmps68
  go_wp2
  go_loop [8] (fun i => ∃ k : Nat, k ≤ s.size ∧ i = .int .i64 k ∧ Hid (allB textB' (s.data.toList.take k) = true)) (fun i => s.size - (intOf i).toNat)
  case atStart => exact ⟨0, Nat.zero_le _, rfl, Lib.hid rfl⟩
  case round =>
    obtain ⟨k, hk, rfl, HK⟩ := hrel
    by_cases hlt : k < s.size
    · obtain ⟨c, hc, hcl⟩ := data_at s k hlt
      have HCL := Lib.hid hcl
      clear hcl
      have hlt' : (k : Int) < (s.size : Int) := by omega
      have hq : (c.toNat : Int) ≤ 255 := by have := c.toNat_lt; omega
      cases h1 : textB' c with
      | true =>
        have HC := Lib.hid (show Calls Tryz.prog 70 #[.int .u8 (c.toNat : Int)] w fun e w' => e = .returned (.bool true) ∧ w = w' by rw [← h1]; exact inText_any _ w)
        have HN := Lib.hid (show allB textB' (s.data.toList.take (k + 1)) = true by rw [allB_snoc HCL.out, HK.out, h1]; rfl)
        clear h1
        go_wp2_with (refine (Hid.out HC).mono ?_; rintro e w1 ⟨rfl, rfl⟩)
        go_round
        case rel => exact ⟨k + 1, by omega, by go_num, HN⟩
        case measure => simp [intOf] <;> omega
      | false =>
        have HC := Lib.hid (show Calls Tryz.prog 70 #[.int .u8 (c.toNat : Int)] w fun e w' => e = .returned (.bool false) ∧ w = w' by rw [← h1]; exact inText_any _ w)
        have HN := Lib.hid (allB_false HCL.out h1)
        clear h1
        go_wp2_with (refine (Hid.out HC).mono ?_; rintro e w1 ⟨rfl, rfl⟩)
        go_ret
        exact ⟨ret_bool' HN.out.symm, rfl⟩
    · have hge : decide ((k : Int) < (s.size : Int)) = false := by simp; omega
      have HN := Lib.hid (show allB textB' s.data.toList = true by rw [← HK.out, List.take_of_length_le (by rw [← Lib.size_eq]; omega)])
      go_wp2
      go_ret
      exact ⟨ret_bool' HN.out.symm, rfl⟩
set_option maxRecDepth 100000 in
set_option maxHeartbeats 2000000 in
theorem each_digit (s : ByteArray) (w : World) (hs : s.size ≤ 9223372036854775807) :
    Calls Tryz.prog 68 #[.string s, .func (.func 69) #[] #[]] w fun e w' => e = .returned (.bool (allB digB s.data.toList)) ∧ w = w' := by
  go_enter Tryz.func68, Tryz.ntmps68
  go_wp2
  go_loop [8] (fun i => ∃ k : Nat, k ≤ s.size ∧ i = .int .i64 k ∧ Hid (allB digB (s.data.toList.take k) = true)) (fun i => s.size - (intOf i).toNat)
  case atStart => exact ⟨0, Nat.zero_le _, rfl, Lib.hid rfl⟩
  case round =>
    obtain ⟨k, hk, rfl, HK⟩ := hrel
    by_cases hlt : k < s.size
    · obtain ⟨c, hc, hcl⟩ := data_at s k hlt
      have HCL := Lib.hid hcl
      clear hcl
      have hlt' : (k : Int) < (s.size : Int) := by omega
      have hq : (c.toNat : Int) ≤ 255 := by have := c.toNat_lt; omega
      cases h1 : digB c with
      | true =>
        have HC := Lib.hid (show Calls Tryz.prog 69 #[.int .u8 (c.toNat : Int)] w fun e w' => e = .returned (.bool true) ∧ w = w' by rw [← h1]; exact isDigit_any _ w)
        have HN := Lib.hid (show allB digB (s.data.toList.take (k + 1)) = true by rw [allB_snoc HCL.out, HK.out, h1]; rfl)
        clear h1
        go_wp2_with (refine (Hid.out HC).mono ?_; rintro e w1 ⟨rfl, rfl⟩)
        go_round
        case rel => exact ⟨k + 1, by omega, by go_num, HN⟩
        case measure => simp [intOf] <;> omega
      | false =>
        have HC := Lib.hid (show Calls Tryz.prog 69 #[.int .u8 (c.toNat : Int)] w fun e w' => e = .returned (.bool false) ∧ w = w' by rw [← h1]; exact isDigit_any _ w)
        have HN := Lib.hid (allB_false HCL.out h1)
        clear h1
        go_wp2_with (refine (Hid.out HC).mono ?_; rintro e w1 ⟨rfl, rfl⟩)
        go_ret
        exact ⟨ret_bool' HN.out.symm, rfl⟩
    · have hge : decide ((k : Int) < (s.size : Int)) = false := by simp; omega
      have HN := Lib.hid (show allB digB s.data.toList = true by rw [← HK.out, List.take_of_length_le (by rw [← Lib.size_eq]; omega)])
      go_wp2
      go_ret
      exact ⟨ret_bool' HN.out.symm, rfl⟩
set_option maxRecDepth 100000 in
set_option maxHeartbeats 2000000 in
theorem mayName_any (s : ByteArray) (w : World) (hs : s.size ≤ 9223372036854775807) :
    Calls Tryz.prog 55 #[.string s] w fun e w' => e = .returned (.bool (mayName s.data.toList)) ∧ w = w' := by
  have HE := Lib.hid (each_name s w hs)
  have hz := Lib.size_eq s
  have hem : s.toList.isEmpty = decide (s.size = 0) := by
    rw [Lib.toList_data]
    cases hl : s.data.toList with
    | nil => rw [hl] at hz; simp [hz]
    | cons c l => rw [hl] at hz; simp [hz]
  by_cases h0 : s.size = 0
  · have h1 : s.toList.isEmpty = true := by rw [hem, h0]; rfl
    have HR := Lib.hid (show mayName s.data.toList = false by unfold mayName; rw [← hz, h0]; rfl)
    have h1' : s.toList = [] := by simpa using h1
    clear hem hz h0
    go_enter Tryz.func55, Tryz.ntmps55
    go_wp2
    go_ret
    exact ⟨ret_bool' HR.out.symm, rfl⟩
  · have h1 : s.toList.isEmpty = false := by rw [hem]; simpa using h0
    have HR := Lib.hid (show mayName s.data.toList = allB nameB s.data.toList by unfold mayName; rw [← hz, decide_eq_true (by omega)]; rfl)
    generalize allB nameB s.data.toList = b at HE HR
    clear hem hz h0
    cases b
    all_goals
      go_enter Tryz.func55, Tryz.ntmps55
      go_wp2_with (refine (Hid.out HE).mono ?_; rintro e w1 ⟨rfl, rfl⟩)
      go_ret
      exact ⟨ret_bool' HR.out.symm, rfl⟩
set_option maxRecDepth 100000 in
set_option maxHeartbeats 2000000 in
theorem mayText_any (s : ByteArray) (w : World) (hs : s.size ≤ 9223372036854775807) :
    Calls Tryz.prog 54 #[.string s] w fun e w' => e = .returned (.bool (mayText s.data.toList)) ∧ w = w' := by
  have HE := Lib.hid (each_text s w hs)
  have HR := Lib.hid (show mayText s.data.toList = allB textB' s.data.toList from rfl)
  generalize allB textB' s.data.toList = b at HE HR
  go_enter Tryz.func54, Tryz.ntmps54
  go_wp2_with (refine (Hid.out HE).mono ?_; rintro e w1 ⟨rfl, rfl⟩)
  go_ret
  exact ⟨ret_bool' HR.out.symm, rfl⟩
set_option maxRecDepth 100000 in
set_option maxHeartbeats 2000000 in
theorem isNumber_any (s : ByteArray) (a b : Nat) (w : World) (hs : s.size ≤ 9223372036854775807) (ha : a ≤ 100) (hb : b ≤ 100) :
    Calls Tryz.prog 53 #[.string s, .int .i64 (a : Int), .int .i64 (b : Int)] w fun e w' => e = .returned (.bool (isNum a b s.data.toList)) ∧ w = w' := by
  have HE := Lib.hid (each_digit s w hs)
  have hz := Lib.size_eq s
  by_cases h0 : (a : Int) ≤ (s.size : Int)
  · by_cases h1 : (s.size : Int) ≤ (b : Int)
    · have HR := Lib.hid (show isNum a b s.data.toList = allB digB s.data.toList by unfold isNum; rw [← hz, decide_eq_true (by omega), decide_eq_true (by omega)]; rfl)
      generalize allB digB s.data.toList = c at HE HR
      clear hz
      cases c
      all_goals
        go_enter Tryz.func53, Tryz.ntmps53
        go_wp2_with (refine (Hid.out HE).mono ?_; rintro e w1 ⟨rfl, rfl⟩)
        go_ret
        exact ⟨ret_bool' HR.out.symm, rfl⟩
    · have HR := Lib.hid (show isNum a b s.data.toList = false by unfold isNum; rw [← hz, decide_eq_false (p := s.size ≤ b) (by omega)]; simp)
      have g1 : decide ((s.size : Int) ≤ (b : Int)) = false := by simp; omega
      have g1' : decide (s.size ≤ b) = false := by simp; omega
      clear hz h1
      go_enter Tryz.func53, Tryz.ntmps53
      go_wp2
      go_ret
      exact ⟨ret_bool' HR.out.symm, rfl⟩
  · have HR := Lib.hid (show isNum a b s.data.toList = false by unfold isNum; rw [← hz, decide_eq_false (p := a ≤ s.size) (by omega)]; simp)
    have g1 : decide ((a : Int) ≤ (s.size : Int)) = false := by simp; omega
    have g1' : decide (a ≤ s.size) = false := by simp; omega
    clear hz h0
    go_enter Tryz.func53, Tryz.ntmps53
    go_wp2
    go_ret
    exact ⟨ret_bool' HR.out.symm, rfl⟩
end Go.Proofs.YtlelemjmknbnaaaGreatDoor
