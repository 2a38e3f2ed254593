/- Which bytes may be, beside labels: the program's and the document's. -/
import Derived.Test.YtnbghappfclnjaaLabMetric
import Derived.Test.YtnbghappfclnjaaReqPlain
import Derived.Shelf.Small.Strs
import Derived.BigQuiet
import Derived.Deep.QuietTactic
namespace Go.Proofs.Ytnbghappfclnjaa
open Go.RowKit

theorem all_snoc {p : UInt8 → Bool} {l : List UInt8} {k : Nat} {c : UInt8} (h : l[k]? = some c) : (l.take (k + 1)).all p = ((l.take k).all p && p c) := by
  rw [List.take_add_one, h]
  simp
theorem all_false {p : UInt8 → Bool} {l : List UInt8} {k : Nat} {c : UInt8} (h : l[k]? = some c) (h1 : p c = false) : l.all p = false := by
  rw [List.all_eq_false]
  exact ⟨c, List.mem_of_getElem? h, by simp [h1]⟩

set_option maxRecDepth 100000 in
set_option maxHeartbeats 1000000 in
theorem five_any (n : Int) (w : World) : Calls Try.prog 64 #[.string ⟨#[45, 46, 58, 91, 93]⟩, .int .u8 n] w fun e w' => e = .returned (.int .i64 (Lib.indexByte [45, 46, 58, 91, 93] n.toNat.toUInt8)) ∧ w = w' := by
  go_enter Try.func64, Try.ntmps64
  go_wp2_with (go_in)
  rw [run_callFunc_extern Try.func87 (by kernel_rfl) (by kernel_rfl) (by kernel_rfl) (e := Extern.BytealgIndexByte.indexByte) (by kernel_rfl), Lib.run_indexByteString]
  simp only [Result.andThen]
  rw [Oper.upon_value]
  go_wp2
  go_ret
  exact ⟨rfl, rfl⟩
theorem five_eq (c : UInt8) (h1 : ¬ (97 ≤ c.toNat ∧ c.toNat ≤ 122)) (h2 : ¬ (65 ≤ c.toNat ∧ c.toNat ≤ 90)) (h3 : ¬ (48 ≤ c.toNat ∧ c.toNat ≤ 57)) : decide (0 ≤ Lib.indexByte [45, 46, 58, 91, 93] c) = hostB c := by
  have e : ∀ d : UInt8, (c = d) ↔ c.toNat = d.toNat := fun d => ⟨fun h => by rw [h], fun h => UInt8.toNat_inj.1 h⟩
  have e1 := e 45
  have e2 := e 46
  have e3 := e 58
  have e4 := e 91
  have e5 := e 93
  by_cases k1 : c = 45
  · subst k1; rfl
  by_cases k2 : c = 46
  · subst k2; rfl
  by_cases k3 : c = 58
  · subst k3; rfl
  by_cases k4 : c = 91
  · subst k4; rfl
  by_cases k5 : c = 93
  · subst k5; rfl
  have hN : Lib.indexByte [45, 46, 58, 91, 93] c = -1 := by
    simp [Lib.indexByte, Ne.symm k1, Ne.symm k2, Ne.symm k3, Ne.symm k4, Ne.symm k5]
  rw [hN]
  symm
  unfold hostB
  rw [show decide ((0 : Int) ≤ -1) = false by decide, decide_eq_false_iff_not]
  rw [e1] at k1
  rw [e2] at k2
  rw [e3] at k3
  rw [e4] at k4
  rw [e5] at k5
  change ¬ c.toNat = 45 at k1
  change ¬ c.toNat = 46 at k2
  change ¬ c.toNat = 58 at k3
  change ¬ c.toNat = 91 at k4
  change ¬ c.toNat = 93 at k5
  omega
set_option maxRecDepth 100000 in
set_option maxHeartbeats 2000000 in
theorem inHost_any (c : UInt8) (w : World) :
    Calls Try.prog 51 #[.int .u8 (c.toNat : Int)] w fun e w' => e = .returned (.bool (hostB c)) ∧ w = w' := by
  have HF := Lib.hid (five_any (c.toNat : Int) w)
  have ec : ((c.toNat : Int)).toNat.toUInt8 = c := by rw [Int.toNat_natCast]; exact UInt8.ofNat_toNat
  rw [ec] at HF
  have hE := Lib.hid (five_eq c)
  have hT : Hid ((97 ≤ c.toNat ∧ c.toNat ≤ 122) ∨ (65 ≤ c.toNat ∧ c.toNat ≤ 90) ∨ (48 ≤ c.toNat ∧ c.toNat ≤ 57) → hostB c = true) := Lib.hid (fun h => by unfold hostB; rw [decide_eq_true_eq]; omega)
  obtain ⟨n, hn⟩ : ∃ n : Int, n = (c.toNat : Int) := ⟨_, rfl⟩
  rw [← hn] at HF ⊢
  have HN := Lib.hid hn
  have hq0 : 0 ≤ n := by omega
  have hq : n ≤ 255 := by have := c.toNat_lt; omega
  clear hn ec
  generalize Lib.indexByte [45, 46, 58, 91, 93] c = i at HF hE
  by_cases h1 : 97 ≤ n
  · by_cases h2 : n ≤ 122
    · skip
      have HR := Lib.hid (hT.out (by have := HN.out; omega))
      clear HF hE hT
      go_enter Try.func51, Try.ntmps51
      go_wp2
      go_ret
      exact ⟨ret_bool' HR.out.symm, rfl⟩
    · skip
      have g2 : decide (n ≤ 122) = false := by simp; omega
      have g3 : 65 ≤ n := by omega
      have g4 : decide (n ≤ 90) = false := by simp; omega
      have g5 : 48 ≤ n := by omega
      have g6 : decide (n ≤ 57) = false := by simp; omega
      have HR := Lib.hid (hE.out (by have := HN.out; omega) (by have := HN.out; omega) (by have := HN.out; omega))
      clear hE hT
      cases hi : decide (0 ≤ i) with
      | true =>
        rw [hi] at HR
        have hi' : 0 ≤ i := by simpa using hi
        go_enter Try.func51, Try.ntmps51
        go_wp2_with (refine (Hid.out HF).mono ?_; rintro e w1 ⟨rfl, rfl⟩)
        go_ret
        exact ⟨ret_bool' HR.out, rfl⟩
      | false =>
        rw [hi] at HR
        go_enter Try.func51, Try.ntmps51
        go_wp2_with (refine (Hid.out HF).mono ?_; rintro e w1 ⟨rfl, rfl⟩)
        go_ret
        exact ⟨ret_bool' HR.out, rfl⟩
  · have g1 : decide (97 ≤ n) = false := by simp; omega
    by_cases h3 : 65 ≤ n
    · by_cases h4 : n ≤ 90
      · skip
        have HR := Lib.hid (hT.out (by have := HN.out; omega))
        clear HF hE hT
        go_enter Try.func51, Try.ntmps51
        go_wp2
        go_ret
        exact ⟨ret_bool' HR.out.symm, rfl⟩
      · skip
        have g4 : decide (n ≤ 90) = false := by simp; omega
        have g5 : 48 ≤ n := by omega
        have g6 : decide (n ≤ 57) = false := by simp; omega
        have HR := Lib.hid (hE.out (by have := HN.out; omega) (by have := HN.out; omega) (by have := HN.out; omega))
        clear hE hT
        cases hi : decide (0 ≤ i) with
        | true =>
          rw [hi] at HR
          have hi' : 0 ≤ i := by simpa using hi
          go_enter Try.func51, Try.ntmps51
          go_wp2_with (refine (Hid.out HF).mono ?_; rintro e w1 ⟨rfl, rfl⟩)
          go_ret
          exact ⟨ret_bool' HR.out, rfl⟩
        | false =>
          rw [hi] at HR
          go_enter Try.func51, Try.ntmps51
          go_wp2_with (refine (Hid.out HF).mono ?_; rintro e w1 ⟨rfl, rfl⟩)
          go_ret
          exact ⟨ret_bool' HR.out, rfl⟩
    · have g3 : decide (65 ≤ n) = false := by simp; omega
      by_cases h5 : 48 ≤ n
      · by_cases h6 : n ≤ 57
        · skip
          have HR := Lib.hid (hT.out (by have := HN.out; omega))
          clear HF hE hT
          go_enter Try.func51, Try.ntmps51
          go_wp2
          go_ret
          exact ⟨ret_bool' HR.out.symm, rfl⟩
        · skip
          have g6 : decide (n ≤ 57) = false := by simp; omega
          have HR := Lib.hid (hE.out (by have := HN.out; omega) (by have := HN.out; omega) (by have := HN.out; omega))
          clear hE hT
          cases hi : decide (0 ≤ i) with
          | true =>
            rw [hi] at HR
            have hi' : 0 ≤ i := by simpa using hi
            go_enter Try.func51, Try.ntmps51
            go_wp2_with (refine (Hid.out HF).mono ?_; rintro e w1 ⟨rfl, rfl⟩)
            go_ret
            exact ⟨ret_bool' HR.out, rfl⟩
          | false =>
            rw [hi] at HR
            go_enter Try.func51, Try.ntmps51
            go_wp2_with (refine (Hid.out HF).mono ?_; rintro e w1 ⟨rfl, rfl⟩)
            go_ret
            exact ⟨ret_bool' HR.out, rfl⟩
      · skip
        have g5 : decide (48 ≤ n) = false := by simp; omega
        have HR := Lib.hid (hE.out (by have := HN.out; omega) (by have := HN.out; omega) (by have := HN.out; omega))
        clear hE hT
        cases hi : decide (0 ≤ i) with
        | true =>
          rw [hi] at HR
          have hi' : 0 ≤ i := by simpa using hi
          go_enter Try.func51, Try.ntmps51
          go_wp2_with (refine (Hid.out HF).mono ?_; rintro e w1 ⟨rfl, rfl⟩)
          go_ret
          exact ⟨ret_bool' HR.out, rfl⟩
        | false =>
          rw [hi] at HR
          go_enter Try.func51, Try.ntmps51
          go_wp2_with (refine (Hid.out HF).mono ?_; rintro e w1 ⟨rfl, rfl⟩)
          go_ret
          exact ⟨ret_bool' HR.out, rfl⟩
set_option maxRecDepth 100000 in
set_option maxHeartbeats 1000000 in
theorem inPath_any (c : UInt8) (w : World) :
    Calls Try.prog 53 #[.int .u8 (c.toNat : Int)] w fun e w' => e = .returned (.bool (pathB c)) ∧ w = w' := by
  have hP : Hid (pathB c = decide (33 ≤ c.toNat ∧ c.toNat ≤ 126 ∧ c.toNat ≠ 35)) := Lib.hid rfl
  obtain ⟨n, hn⟩ : ∃ n : Int, n = (c.toNat : Int) := ⟨_, rfl⟩
  rw [← hn]
  have HN := Lib.hid hn
  have hq0 : 0 ≤ n := by omega
  have hq : n ≤ 255 := by have := c.toNat_lt; omega
  clear hn
  by_cases h1 : 33 ≤ n
  · by_cases h2 : n ≤ 126
    · by_cases h3 : n = 35
      · have HR := Lib.hid (show pathB c = false by rw [hP.out, decide_eq_false_iff_not]; have := HN.out; omega)
        have g3 : (n != 35) = false := by simp [h3]
        clear hP
        go_enter Try.func53, Try.ntmps53
        go_wp2
        go_ret
        exact ⟨ret_bool' (by rw [HR.out]), rfl⟩
      · have HR := Lib.hid (show pathB c = true by rw [hP.out, decide_eq_true_eq]; have := HN.out; omega)
        have g3 : (n != 35) = true := by simp [h3]
        clear hP
        go_enter Try.func53, Try.ntmps53
        go_wp2
        go_ret
        exact ⟨ret_bool' (by rw [HR.out]), rfl⟩
    · have HR := Lib.hid (show pathB c = false by rw [hP.out, decide_eq_false_iff_not]; have := HN.out; omega)
      have g2 : decide (n ≤ 126) = false := by simp; omega
      clear hP
      go_enter Try.func53, Try.ntmps53
      go_wp2
      go_ret
      exact ⟨ret_bool' HR.out.symm, rfl⟩
  · have HR := Lib.hid (show pathB c = false by rw [hP.out, decide_eq_false_iff_not]; have := HN.out; omega)
    have g1 : decide (33 ≤ n) = false := by simp; omega
    clear hP
    go_enter Try.func53, Try.ntmps53
    go_wp2
    go_ret
    exact ⟨ret_bool' HR.out.symm, rfl⟩
end Go.Proofs.Ytnbghappfclnjaa
