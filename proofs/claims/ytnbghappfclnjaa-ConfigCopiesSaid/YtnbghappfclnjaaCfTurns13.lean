/- The program's Due and Turns. -/
import Derived.Test.YtnbghappfclnjaaCfPlain
import Derived.Test.YtnbghappfclnjaaCfBox
import Derived.Test.YtnbghappfclnjaaCfNum
import Derived.Deep.RegionHeld3
import Derived.BigQuiet
namespace Go.Proofs.Ytnbghappfclnjaa
open Go.RowKit

def Tg.in1 (t : Tg) : Prop := 1 ≤ t.iv ∧ t.iv ≤ 1073741824
instance (t : Tg) : Decidable t.in1 := inferInstanceAs (Decidable (_ ∧ _))
def clipN (n : Int) : Nat := (min (max n 0) 1125899906842624).toNat
theorem clipN_le (n : Int) : clipN n ≤ 1125899906842624 := by unfold clipN; omega
theorem clipN_eq (n : Int) : ((clipN n : Nat) : Int) = min (max n 0) 1125899906842624 := by unfold clipN; omega
theorem clipN_nat {n : Nat} (h : n ≤ 1125899906842624) : clipN n = n := by unfold clipN; omega
def Tg.offC (t : Tg) : Nat := if t.in1 then t.off else 0
def Tg.dueC (t : Tg) (n : Int) : Nat := if t.in1 then dueN t.iv.toNat t.off (clipN n) else 0
def Tg.turnsC (t : Tg) (a b : Int) : Nat := if t.in1 then (dueN t.iv.toNat t.off (clipN b) - dueN t.iv.toNat t.off (clipN a)) / t.iv.toNat else 0
def OffP : Prop := ∀ (t : Tg) (W : World), t.size ≤ 6000 → Calls Try.prog 7 #[t.val] W fun e w' => e = .returned (.int .i64 (t.offC : Nat)) ∧ Below W.heap.size W w'
def DueP : Prop := ∀ (t : Tg) (n : Int) (W : World), t.size ≤ 6000 → Calls Try.prog 8 #[t.val, .int .i64 n] W fun e w' => e = .returned (.int .i64 (t.dueC n : Nat)) ∧ Below W.heap.size W w'
def TurnsP : Prop := ∀ (t : Tg) (a b : Int) (W : World), t.size ≤ 6000 → Calls Try.prog 9 #[t.val, .int .i64 a, .int .i64 b] W fun e w' => e = .returned (.int .i64 (t.turnsC a b : Nat)) ∧ Below W.heap.size W w'

end Go.Proofs.Ytnbghappfclnjaa

namespace Go.Proofs.Ytnbghappfclnjaa
open Go.RowKit

def aheadT (iv o n : Nat) : Nat := (n + iv - 1 - o) / iv
theorem due_ahead {iv o n : Nat} (ho : o < iv) : dueN iv o n = o + aheadT iv o n * iv := by
  symm
  have h := Nat.div_add_mod (n + iv - 1 - o) iv
  have hm := Nat.mod_lt (n + iv - 1 - o) (show 0 < iv by omega)
  have e : aheadT iv o n * iv = iv * ((n + iv - 1 - o) / iv) := Nat.mul_comm _ _
  refine dueN_only ho ?_ ?_ ?_
  · rw [e]; omega
  · rw [e]; omega
  · rw [e, Nat.add_mul_mod_self_left, Nat.mod_eq_of_lt ho]
theorem turns_ahead {iv o n m : Nat} (ho : o < iv) : (dueN iv o m - dueN iv o n) / iv = aheadT iv o m - aheadT iv o n := by
  rw [due_ahead ho, due_ahead ho, Nat.add_sub_add_left, ← Nat.sub_mul]
  exact Nat.mul_div_cancel _ (by omega)
theorem aheadT_le {iv o n : Nat} (ho : o < iv) (hn : n ≤ 1125899906842624) : aheadT iv o n * iv ≤ 1125900980584448 ∧ aheadT iv o n ≤ 1125900980584448 ∨ 1073741824 < iv := by
  rcases Nat.lt_or_ge 1073741824 iv with h | h
  · exact .inr h
  · refine .inl ⟨?_, ?_⟩
    · have := Nat.div_mul_le_self (n + iv - 1 - o) iv
      unfold aheadT
      omega
    · have := Nat.div_le_self (n + iv - 1 - o) iv
      unfold aheadT
      omega
set_option maxRecDepth 100000 in
set_option maxHeartbeats 1000000 in
theorem ahead_any (o iv : Nat) (n : Int) (w : World) (h2 : iv ≤ 1073741824) (ho : o < iv) :
    Calls Try.prog 22 #[.int .i64 o, .int .i64 iv, .int .i64 n] w fun e w' => e = .returned (.int .i64 (aheadT iv o (clipN n) : Nat)) ∧ w = w' := by
  obtain ⟨c, hc⟩ : ∃ c, c = clipN n := ⟨_, rfl⟩
  have HE := Lib.hid (show min (max n 0) 1125899906842624 = (c : Int) by rw [hc]; exact (clipN_eq n).symm)
  have hcl : c ≤ 1125899906842624 := by rw [hc]; exact clipN_le n
  rw [← hc]
  clear hc
  obtain ⟨m, hm⟩ : ∃ m, m = c + iv - 1 - o := ⟨_, rfl⟩
  have HM := Lib.hid (show (c : Int) - (o : Int) + (iv : Int) - 1 = (m : Int) by omega)
  have HR := Lib.hid (show ((m : Int) / (iv : Int)) = ((aheadT iv o c : Nat) : Int) by unfold aheadT; rw [← hm, Int.natCast_ediv])
  have h0 : 0 ≤ (c : Int) - (o : Int) + (iv : Int) - 1 := by omega
  have b1 : -1073741824 ≤ (c : Int) - (o : Int) := by omega
  have b2 : (c : Int) - (o : Int) ≤ 1125899906842624 := by omega
  have b3 : 0 ≤ (c : Int) - (o : Int) + (iv : Int) := by omega
  have b4 : (c : Int) - (o : Int) + (iv : Int) ≤ 1125900980584448 := by omega
  have b5 : (c : Int) - (o : Int) + (iv : Int) - 1 ≤ 1125900980584448 := by omega
  have hiv0 : (iv : Int) ≠ 0 := by omega
  clear hm
  go_enter Try.func22, Try.ntmps22
  go_upto_region 1 with fail
  go_cut [2] (fun x wx => wx = w ∧ x = .int .i64 (c : Int))
  case first =>
    go_wp2_with fail
    all_goals
      go_meet
      have := HE.out
      exact ⟨rfl, congrArg (Value.int .i64) (by omega)⟩
  case rest =>
  obtain ⟨rfl, rfl⟩ := hcut
  go_wp2_with fail
  go_ret
  exact ⟨by rw [← HR.out, ← HM.out]; rfl, rfl⟩
end Go.Proofs.Ytnbghappfclnjaa

namespace Go.Proofs.Ytnbghappfclnjaa
open Go.RowKit

theorem turnB_in {t : Tg} (h : t.in1) : t.turnB = true := by unfold Tg.turnB; rw [decide_eq_true h.1, decide_eq_true h.2]; rfl
theorem turnB_out {t : Tg} (h : ¬ t.in1) : t.turnB = false := by
  unfold Tg.turnB
  cases h1 : decide (1 ≤ t.iv) with
  | false => rfl
  | true =>
    cases h2 : decide (t.iv ≤ 1073741824) with
    | false => rfl
    | true => exact absurd ⟨of_decide_eq_true h1, of_decide_eq_true h2⟩ h
set_option maxRecDepth 100000 in
set_option maxHeartbeats 1000000 in
theorem off_any : OffP := by
  intro t w hs
  unfold Tg.size at hs
  have HT := Lib.hid (mayTurn_any t)
  have HN := Lib.hid (fun W => number_any (t.job ++ ⟨#[0]⟩ ++ t.host ++ ⟨#[0]⟩ ++ t.path) W (by have e : (⟨#[0]⟩ : ByteArray).size = 1 := rfl; simp only [ByteArray.size_append, e]; omega))
  by_cases hin : t.in1
  · rw [turnB_in hin] at HT
    have HO := Lib.hid (show t.offC = fnvL fnv0 (t.job ++ (⟨#[0]⟩ : ByteArray) ++ t.host ++ ⟨#[0]⟩ ++ t.path).data.toList % t.iv.toNat by
      unfold Tg.offC Tg.off Tg.num
      rw [if_pos hin, tag_join t])
    obtain ⟨n, hn⟩ : ∃ n, n = fnvL fnv0 (t.job ++ (⟨#[0]⟩ : ByteArray) ++ t.host ++ ⟨#[0]⟩ ++ t.path).data.toList := ⟨_, rfl⟩
    have hl : n < 18446744073709551616 := by rw [hn]; exact fnvL_lt (by unfold fnv0; omega) _
    rw [← hn] at HO HN
    clear hn
    obtain ⟨o, ho⟩ : ∃ o, o = t.offC := ⟨_, rfl⟩
    rw [← ho] at HO ⊢
    clear ho
    obtain ⟨j, h, p, iv, tm⟩ := t
    obtain ⟨h1, h2⟩ := hin
    unfold Tg.val at *
    simp only at *
    obtain ⟨iv, rfl⟩ : ∃ n : Nat, iv = n := ⟨iv.toNat, by omega⟩
    simp only [Int.toNat_natCast] at HO
    have hw : IntKind.u64.wrap (iv : Int) = (iv : Int) := by rw [IntKind.wrap_u64]; omega
    have hlt2 := Nat.mod_lt n (show 0 < iv by omega)
    have HR := Lib.hid (show (n : Int) % (iv : Int) = ((n % iv : Nat) : Int) by omega)
    have hr0 : 0 ≤ (n : Int) % (iv : Int) := by rw [HR.out]; omega
    have hr1 : (n : Int) % (iv : Int) ≤ 9223372036854775807 := by rw [HR.out]; omega
    have hr2 : IntKind.i64.wrap ((n : Int) % (iv : Int)) = (n : Int) % (iv : Int) := by
      rw [IntKind.wrap_i64, HR.out]
      omega
    have hiv0 : (iv : Int) ≠ 0 := by omega
    have HQ0 : Hid (Boxed w ⟨j, h, p, iv, tm⟩ (w.alloc (.cells #[.string j, .string h, .string p, .int .i64 iv, .int .i64 tm] 23))) := Lib.hid ⟨TgAt.new w ⟨j, h, p, iv, tm⟩, Below.box (Below.refl _ _), by simp⟩
    clear hlt2 hl
    go_enter Try.func7, Try.ntmps7
    go_wp2_with fail
    refine (HT.out _).mono ?_
    rintro e w1 ⟨rfl, hb⟩
    have HQ1 : Hid (Boxed w ⟨j, h, p, iv, tm⟩ w1) := Lib.hid (HQ0.out.next hb)
    clear hb
    obtain ⟨a0, a1, a2, a3, a4⟩ := HQ1.out.at_
    simp only at a0 a1 a2 a3 a4
    go_wp2_with fail
    go_quiet ((go_at_call 21; exact Calls.quiet_of_same ((HN.out _).mono fun _ _ h => ⟨h.1, h.2.symm⟩)))
    go_wp2
    go_ret
    exact ⟨by rw [HO.out]; exact congrArg (fun x => Ending.returned (.int .i64 x)) HR.out, below_drewN HQ1.out.below _⟩
  · rw [turnB_out hin] at HT
    rw [show t.offC = 0 by unfold Tg.offC; rw [if_neg hin]]
    clear HN hin
    obtain ⟨j, h, p, iv, tm⟩ := t
    unfold Tg.val at *
    go_enter Try.func7, Try.ntmps7
    go_wp2_with fail
    refine (HT.out _).mono ?_
    rintro e w1 ⟨rfl, hb⟩
    have hbel : Below w.heap.size w w1 := Below.box hb
    clear hb
    go_wp2
    go_ret
    exact ⟨rfl, hbel⟩
end Go.Proofs.Ytnbghappfclnjaa

namespace Go.Proofs.Ytnbghappfclnjaa
open Go.RowKit

theorem turns_zero {t : Tg} (h : ¬ t.in1) : t.offC = 0 ∧ (∀ n, t.dueC n = 0) ∧ ∀ a b, t.turnsC a b = 0 := by
  unfold Tg.offC Tg.dueC Tg.turnsC
  rw [if_neg h]
  exact ⟨rfl, fun n => by rw [if_neg h], fun a b => by rw [if_neg h]⟩
set_option maxRecDepth 100000 in
set_option maxHeartbeats 1000000 in
theorem due_any : DueP := by
  intro t n w hs
  have HT := Lib.hid (mayTurn_any t)
  have HO := Lib.hid (fun W => off_any t W hs)
  by_cases hin : t.in1
  · rw [turnB_in hin] at HT
    obtain ⟨o, ho⟩ : ∃ o, o = t.off := ⟨_, rfl⟩
    rw [show t.offC = o by unfold Tg.offC; rw [if_pos hin, ho]] at HO
    have hol : o < t.iv.toNat := by rw [ho]; exact Nat.mod_lt _ (by have := hin.1; omega)
    rw [show t.dueC n = o + aheadT t.iv.toNat o (clipN n) * t.iv.toNat by unfold Tg.dueC; rw [if_pos hin, ← ho, due_ahead hol]]
    clear ho hs
    obtain ⟨j, h, p, iv, tm⟩ := t
    obtain ⟨h1, h2⟩ := hin
    unfold Tg.val at *
    simp only at *
    obtain ⟨iv, rfl⟩ : ∃ n : Nat, iv = n := ⟨iv.toNat, by omega⟩
    simp only [Int.toNat_natCast] at hol ⊢
    have HA := Lib.hid (fun W => ahead_any o iv n W (by omega) hol)
    have hx0 := aheadT_le hol (clipN_le n)
    obtain ⟨a, ha⟩ : ∃ a, a = aheadT iv o (clipN n) := ⟨_, rfl⟩
    rw [← ha] at HA hx0 ⊢
    clear ha
    obtain ⟨x, hx⟩ : ∃ x, x = a * iv := ⟨_, rfl⟩
    rw [← hx] at hx0 ⊢
    have hxe : (a : Int) * (iv : Int) = (x : Int) := by rw [hx]; exact (Int.natCast_mul a iv).symm
    clear hx
    have hxl : (x : Int) ≤ 1125900980584448 := by omega
    have hol2 : (o : Int) ≤ 1073741824 := by omega
    have HF := Lib.hid (show (o : Int) + (x : Int) = ((o + x : Nat) : Int) by omega)
    clear hx0
    have HQ0 : Hid (Boxed w ⟨j, h, p, iv, tm⟩ (w.alloc (.cells #[.string j, .string h, .string p, .int .i64 iv, .int .i64 tm] 23))) := Lib.hid ⟨TgAt.new w ⟨j, h, p, iv, tm⟩, Below.box (Below.refl _ _), by simp⟩
    go_enter Try.func8, Try.ntmps8
    go_wp2_with fail
    refine (HT.out _).mono ?_
    rintro e w1 ⟨rfl, hb⟩
    have HQ1 : Hid (Boxed w ⟨j, h, p, iv, tm⟩ w1) := Lib.hid (HQ0.out.next hb)
    clear hb
    obtain ⟨a0, a1, a2, a3, a4⟩ := HQ1.out.at_
    simp only at a0 a1 a2 a3 a4
    go_wp2_with fail
    refine (HO.out _).mono ?_
    rintro e w2 ⟨rfl, hb⟩
    have HQ2 : Hid (Boxed w ⟨j, h, p, iv, tm⟩ w2) := Lib.hid (HQ1.out.next hb)
    clear hb a0 a1 a2 a3 a4
    obtain ⟨a0, a1, a2, a3, a4⟩ := HQ2.out.at_
    simp only at a0 a1 a2 a3 a4
    go_wp2_with fail
    go_quiet ((go_at_call 22; exact Calls.quiet_of_same ((HA.out _).mono fun _ _ h => ⟨h.1, h.2.symm⟩)))
    go_wp2
    go_ret
    exact ⟨congrArg (fun x => Ending.returned (.int .i64 x)) HF.out, below_drewN HQ2.out.below _⟩
  · rw [turnB_out hin] at HT
    rw [(turns_zero hin).2.1]
    clear HO hin
    obtain ⟨j, h, p, iv, tm⟩ := t
    unfold Tg.val at *
    go_enter Try.func8, Try.ntmps8
    go_wp2_with fail
    refine (HT.out _).mono ?_
    rintro e w1 ⟨rfl, hb⟩
    have hbel : Below w.heap.size w w1 := Below.box hb
    clear hb
    go_wp2
    go_ret
    exact ⟨rfl, hbel⟩
set_option maxRecDepth 100000 in
set_option maxHeartbeats 1000000 in
theorem turns_any : TurnsP := by
  intro t m n w hs
  have HT := Lib.hid (mayTurn_any t)
  have HO := Lib.hid (fun W => off_any t W hs)
  by_cases hin : t.in1
  · rw [turnB_in hin] at HT
    obtain ⟨o, ho⟩ : ∃ o, o = t.off := ⟨_, rfl⟩
    rw [show t.offC = o by unfold Tg.offC; rw [if_pos hin, ho]] at HO
    have hol : o < t.iv.toNat := by rw [ho]; exact Nat.mod_lt _ (by have := hin.1; omega)
    rw [show t.turnsC m n = aheadT t.iv.toNat o (clipN n) - aheadT t.iv.toNat o (clipN m) by unfold Tg.turnsC; rw [if_pos hin, ← ho, turns_ahead hol]]
    clear ho hs
    obtain ⟨j, h, p, iv, tm⟩ := t
    obtain ⟨h1, h2⟩ := hin
    unfold Tg.val at *
    simp only at *
    obtain ⟨iv, rfl⟩ : ∃ n : Nat, iv = n := ⟨iv.toNat, by omega⟩
    simp only [Int.toNat_natCast] at hol ⊢
    have HA := Lib.hid (fun W => ahead_any o iv n W (by omega) hol)
    have HB := Lib.hid (fun W => ahead_any o iv m W (by omega) hol)
    have hx0 := aheadT_le hol (clipN_le n)
    have hy0 := aheadT_le hol (clipN_le m)
    obtain ⟨a, ha⟩ : ∃ a, a = aheadT iv o (clipN n) := ⟨_, rfl⟩
    rw [← ha] at HA hx0 ⊢
    clear ha
    obtain ⟨b, hb⟩ : ∃ b, b = aheadT iv o (clipN m) := ⟨_, rfl⟩
    rw [← hb] at HB hy0 ⊢
    clear hb
    have hal : (a : Int) ≤ 1125900980584448 := by omega
    have hbl : (b : Int) ≤ 1125900980584448 := by omega
    clear hx0 hy0
    have HQ0 : Hid (Boxed w ⟨j, h, p, iv, tm⟩ (w.alloc (.cells #[.string j, .string h, .string p, .int .i64 iv, .int .i64 tm] 23))) := Lib.hid ⟨TgAt.new w ⟨j, h, p, iv, tm⟩, Below.box (Below.refl _ _), by simp⟩
    go_enter Try.func9, Try.ntmps9
    go_wp2_with fail
    refine (HT.out _).mono ?_
    rintro e w1 ⟨rfl, hb⟩
    have HQ1 : Hid (Boxed w ⟨j, h, p, iv, tm⟩ w1) := Lib.hid (HQ0.out.next hb)
    clear hb
    obtain ⟨a0, a1, a2, a3, a4⟩ := HQ1.out.at_
    simp only at a0 a1 a2 a3 a4
    go_wp2_with fail
    refine (HO.out _).mono ?_
    rintro e w2 ⟨rfl, hb⟩
    have HQ2 : Hid (Boxed w ⟨j, h, p, iv, tm⟩ w2) := Lib.hid (HQ1.out.next hb)
    clear hb a0 a1 a2 a3 a4
    obtain ⟨a0, a1, a2, a3, a4⟩ := HQ2.out.at_
    simp only at a0 a1 a2 a3 a4
    go_wp2_with fail
    go_quiet ((first | (go_at_call_of 22 (Value.int .i64 n); exact Calls.quiet_of_same ((HA.out _).mono fun _ _ h => ⟨h.1, h.2.symm⟩)) | (go_at_call 22; exact Calls.quiet_of_same ((HB.out _).mono fun _ _ h => ⟨h.1, h.2.symm⟩))))
    go_wp2
    all_goals
      go_ret
      exact ⟨congrArg (fun x => Ending.returned (.int .i64 x)) (by omega), below_drewN HQ2.out.below _⟩
  · rw [turnB_out hin] at HT
    rw [(turns_zero hin).2.2]
    clear HO hin
    obtain ⟨j, h, p, iv, tm⟩ := t
    unfold Tg.val at *
    go_enter Try.func9, Try.ntmps9
    go_wp2_with fail
    refine (HT.out _).mono ?_
    rintro e w1 ⟨rfl, hb⟩
    have hbel : Below w.heap.size w w1 := Below.box hb
    clear hb
    go_wp2
    go_ret
    exact ⟨rfl, hbel⟩
end Go.Proofs.Ytnbghappfclnjaa
