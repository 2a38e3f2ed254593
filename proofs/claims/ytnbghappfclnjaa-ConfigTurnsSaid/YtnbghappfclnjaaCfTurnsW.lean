/- ConfigTurns' walk, over what the program's Offset, Due, Turns and the law's known answer. -/
import Derived.Test.YtnbghappfclnjaaCfTurnsP
import Derived.Test.YtnbghappfclnjaaCfROff
import Derived.Deep.RegionHeld3
namespace Go.Proofs.Ytnbghappfclnjaa
open Go.RowKit

set_option maxRecDepth 100000 in
set_option maxHeartbeats 1000000 in
theorem turns_early (HK : Known13) (t : Tg) (a b : Int) (w : World) (h : 6000 < (t.size : Int)) (hj : (t.job.size : Int) ≤ 281474976710656) (hh : (t.host.size : Int) ≤ 281474976710656) (hp : (t.path.size : Int) ≤ 281474976710656) :
    Calls Try.prog 3 #[t.val, .int .i64 a, .int .i64 b] w (Fin w) := by
  have HK1 := Lib.hid HK
  clear HK
  unfold Tg.val
  have h1 : 6000 < (t.job.size : Int) + (t.host.size : Int) + (t.path.size : Int) := by unfold Tg.size at h; omega
  have h2 : (t.job.size : Int) + (t.host.size : Int) ≤ 562949953421312 := by omega
  have h3 : (t.job.size : Int) + (t.host.size : Int) + (t.path.size : Int) ≤ 844424930131968 := by omega
  clear h
  go_enter Try.func3, Try.ntmps3
  go_wp2_with fail
  refine (HK1.out _).mono ?_
  rintro e w1 ⟨rfl, hb⟩
  have hbel : Below w.heap.size w w1 := ((Below.refl w.heap.size w).alloc (Nat.le_refl _) _).trans (hb.mono (by simp))
  clear hb
  go_wp2
  go_ret
  exact ⟨rfl, hbel⟩
set_option maxRecDepth 100000 in
set_option maxHeartbeats 1000000 in
theorem turns_out (HO : OffP) (HD : DueP) (HT : TurnsP) (HK : Known13) (t : Tg) (a b : Int) (w : World) (h : t.size ≤ 6000) (hin : ¬ t.in1) :
    Calls Try.prog 3 #[t.val, .int .i64 a, .int .i64 b] w (Fin w) := by
  have HK1 := Lib.hid HK
  have HO1 := Lib.hid (fun W => HO t W h)
  have HD1 := Lib.hid (fun W => HD t a W h)
  have HT1 := Lib.hid (fun W => HT t a b W h)
  have h1 : (t.job.size : Int) + (t.host.size : Int) + (t.path.size : Int) ≤ 6000 := by unfold Tg.size at h; omega
  have h1' : decide (6000 < (t.job.size : Int) + (t.host.size : Int) + (t.path.size : Int)) = false := by rw [decide_eq_false_iff_not]; omega
  have h2 : (t.job.size : Int) + (t.host.size : Int) ≤ 6000 := by omega
  rw [show t.offC = 0 from if_neg hin] at HO1
  rw [show t.dueC a = 0 from if_neg hin] at HD1
  rw [show t.turnsC a b = 0 from if_neg hin] at HT1
  clear HK HO HD HT h
  obtain ⟨j, h, p, iv, tm⟩ := t
  unfold Tg.val at *
  unfold Tg.in1 at hin
  simp only at *
  rcases (show iv < 1 ∨ (1 ≤ iv ∧ 1073741824 < iv) by omega) with hc | ⟨hc, hc2⟩
  · have hA := TgAt.new w ⟨j, h, p, iv, tm⟩
    go_enter Try.func3, Try.ntmps3
    go_wp2_with fail
    refine (HO1.out _).mono ?_
    rintro e w1 ⟨rfl, hb1⟩
    have hbel := Below.box hb1
    have hA1 := hA.keep hb1 (by simp)
    have HS1 := Lib.hid (show w.heap.size < w1.heap.size from Nat.lt_of_lt_of_le (by simp) hb1.size)
    clear hb1 hA
    have HA1 := Lib.hid hA1
    obtain ⟨a0, a1, a2, a3, a4⟩ := hA1
    simp only at a0 a1 a2 a3 a4
    go_wp2_with fail
    refine (HD1.out _).mono ?_
    rintro e w2 ⟨rfl, hb2⟩
    have hbel2 := hbel.trans (hb2.mono (Nat.le_of_lt HS1.out))
    have hA2 := HA1.out.keep hb2 HS1.out
    have HS2 := Lib.hid (show w.heap.size < w2.heap.size from Nat.lt_of_lt_of_le HS1.out hb2.size)
    clear hb2 hbel a0 a1 a2 a3 a4
    have HA2 := Lib.hid hA2
    obtain ⟨a0, a1, a2, a3, a4⟩ := hA2
    simp only at a0 a1 a2 a3 a4
    go_wp2_with fail
    refine (HT1.out _).mono ?_
    rintro e w3 ⟨rfl, hb3⟩
    have hbel3 := hbel2.trans (hb3.mono (Nat.le_of_lt HS2.out))
    have HS3 := Lib.hid (show w.heap.size < w3.heap.size from Nat.lt_of_lt_of_le HS2.out hb3.size)
    clear hb3 hbel2 a0 a1 a2 a3 a4
    go_wp2_with fail
    refine (HK1.out _).mono ?_
    rintro e w4 ⟨rfl, hb4⟩
    have hbel4 := hbel3.trans (hb4.mono (Nat.le_of_lt HS3.out))
    clear hb4 hbel3
    go_wp2
    go_ret
    exact ⟨rfl, hbel4⟩
  · have hA := TgAt.new w ⟨j, h, p, iv, tm⟩
    have hc0 : decide (iv < 1) = false := by rw [decide_eq_false_iff_not]; omega
    go_enter Try.func3, Try.ntmps3
    go_wp2_with fail
    refine (HO1.out _).mono ?_
    rintro e w1 ⟨rfl, hb1⟩
    have hbel := Below.box hb1
    have hA1 := hA.keep hb1 (by simp)
    have HS1 := Lib.hid (show w.heap.size < w1.heap.size from Nat.lt_of_lt_of_le (by simp) hb1.size)
    clear hb1 hA
    have HA1 := Lib.hid hA1
    obtain ⟨a0, a1, a2, a3, a4⟩ := hA1
    simp only at a0 a1 a2 a3 a4
    go_wp2_with fail
    refine (HD1.out _).mono ?_
    rintro e w2 ⟨rfl, hb2⟩
    have hbel2 := hbel.trans (hb2.mono (Nat.le_of_lt HS1.out))
    have hA2 := HA1.out.keep hb2 HS1.out
    have HS2 := Lib.hid (show w.heap.size < w2.heap.size from Nat.lt_of_lt_of_le HS1.out hb2.size)
    clear hb2 hbel a0 a1 a2 a3 a4
    have HA2 := Lib.hid hA2
    obtain ⟨a0, a1, a2, a3, a4⟩ := hA2
    simp only at a0 a1 a2 a3 a4
    go_wp2_with fail
    refine (HT1.out _).mono ?_
    rintro e w3 ⟨rfl, hb3⟩
    have hbel3 := hbel2.trans (hb3.mono (Nat.le_of_lt HS2.out))
    have HS3 := Lib.hid (show w.heap.size < w3.heap.size from Nat.lt_of_lt_of_le HS2.out hb3.size)
    clear hb3 hbel2 a0 a1 a2 a3 a4
    go_wp2_with fail
    refine (HK1.out _).mono ?_
    rintro e w4 ⟨rfl, hb4⟩
    have hbel4 := hbel3.trans (hb4.mono (Nat.le_of_lt HS3.out))
    clear hb4 hbel3
    go_wp2
    go_ret
    exact ⟨rfl, hbel4⟩
set_option maxRecDepth 100000 in
set_option maxHeartbeats 4000000 in
theorem turns_in (HO : OffP) (HD : DueP) (HT : TurnsP) (HK : Known13) (t : Tg) (a b : Int) (w : World) (h : t.size ≤ 6000) (hin : t.in1) :
    Calls Try.prog 3 #[t.val, .int .i64 a, .int .i64 b] w (Fin w) := by
  have HK1 := Lib.hid HK
  have h1 : (t.job.size : Int) + (t.host.size : Int) + (t.path.size : Int) ≤ 6000 := by unfold Tg.size at h; omega
  have h1' : decide (6000 < (t.job.size : Int) + (t.host.size : Int) + (t.path.size : Int)) = false := by rw [decide_eq_false_iff_not]; omega
  have h2 : (t.job.size : Int) + (t.host.size : Int) ≤ 6000 := by omega
  obtain ⟨o, ho⟩ : ∃ o, o = t.off := ⟨_, rfl⟩
  obtain ⟨iv, hiv⟩ : ∃ n : Nat, t.iv = n := ⟨t.iv.toNat, by have := hin.1; omega⟩
  have hiv2 : t.iv.toNat = iv := by omega
  have hol : o < iv := by rw [ho, ← hiv2]; exact Nat.mod_lt _ (by have := hin.1; omega)
  obtain ⟨na, hna⟩ : ∃ n, n = clipN a := ⟨_, rfl⟩
  obtain ⟨nb, hnb⟩ : ∃ n, n = clipN b := ⟨_, rfl⟩
  have la : na ≤ 1125899906842624 := by rw [hna]; exact clipN_le a
  have lb : nb ≤ 1125899906842624 := by rw [hnb]; exact clipN_le b
  have ea : min (max a 0) 1125899906842624 = (na : Int) := by rw [hna]; exact (clipN_eq a).symm
  have eb : min (max b 0) 1125899906842624 = (nb : Int) := by rw [hnb]; exact (clipN_eq b).symm
  obtain ⟨d, hd⟩ : ∃ d, d = dueN iv o na := ⟨_, rfl⟩
  obtain ⟨e, he⟩ : ∃ e, e = dueN iv o nb := ⟨_, rfl⟩
  have ld := dueN_ge (n := na) hol
  have le := dueN_ge (n := nb) hol
  obtain ⟨m, hm⟩ : ∃ m : Nat, m = min d 1125899906842624 := ⟨_, rfl⟩
  have em : min (d : Int) 1125899906842624 = (m : Int) := by omega
  have lm : m ≤ 1125899906842624 := by omega
  obtain ⟨f, hf⟩ : ∃ f, f = dueN iv o m := ⟨_, rfl⟩
  have hs : t.job.size + t.host.size + t.path.size ≤ 6000 := h
  have HO1 := Lib.hid (fun W => HO t W h)
  have HO2 := Lib.hid (fun W => roff_any t W hs hin.1 hin.2)
  have HD1 := Lib.hid (fun W => HD t a W h)
  have HD2 : Hid (∀ x : Int, x = (m : Int) → ∀ W, Calls Try.prog 8 #[t.val, .int .i64 x] W fun e w' => e = .returned (.int .i64 (f : Nat)) ∧ Below W.heap.size W w') := Lib.hid (fun x hx W => by have := HD t x W h; rwa [show t.dueC x = f by rw [hx]; unfold Tg.dueC; rw [if_pos hin, hiv2, ← ho, clipN_nat lm, hf]] at this)
  have HR1 := Lib.hid (fun W => rdue_any t na W hs hin.1 hin.2 (by omega))
  have HR2 := Lib.hid (fun W => rdue_any t nb W hs hin.1 hin.2 (by omega))
  have HR3 : Hid (∀ x : Int, x = (m : Int) → ∀ W, Calls Try.prog 10 #[t.val, .int .i64 x] W fun e w' => e = .returned (.int .i64 (f : Nat)) ∧ Below W.heap.size W w') := Lib.hid (fun x hx W => by rw [hx, hf, ho, ← hiv2]; exact rdue_any t m W hs hin.1 hin.2 (by omega))
  have HT1 := Lib.hid (fun W => HT t a b W h)
  rw [show t.offC = o by unfold Tg.offC; rw [if_pos hin, ho]] at HO1
  rw [← ho] at HO2
  rw [show t.dueC a = d by unfold Tg.dueC; rw [if_pos hin, hiv2, ← ho, ← hna, hd]] at HD1
  rw [hiv2, ← ho, ← hd] at HR1
  rw [hiv2, ← ho, ← he] at HR2
  rw [show t.turnsC a b = (e - d) / iv by unfold Tg.turnsC; rw [if_pos hin, hiv2, ← ho, ← hna, ← hnb, ← hd, ← he]] at HT1
  have HM := Lib.hid (fun hh : na ≤ nb => show d ≤ e by rw [hd, he]; exact dueN_mono hol hh)
  have HM2 := Lib.hid (fun hh : nb ≤ na => show e ≤ d by rw [hd, he]; exact dueN_mono hol hh)
  have hb1 : 1 ≤ (iv : Int) := by have := hin.1; omega
  have hb2 : (iv : Int) ≤ 1073741824 := by have := hin.2; omega
  have hdl : (d : Int) ≤ 1125900980584448 := by rw [hd]; omega
  have hel : (e : Int) ≤ 1125900980584448 := by rw [he]; omega
  clear HK HO HD HT h hin hs hna hnb hm hd he hf ho hiv2 ld le
  obtain ⟨j, h, p, iv', tm⟩ := t
  simp only at hiv h1 h1' h2
  subst hiv
  unfold Tg.val at *
  simp only at *
  have hA : TgAt (w.alloc (.cells #[.string j, .string h, .string p, .int .i64 (iv : Int), .int .i64 tm] 23)) w.heap.size ⟨j, h, p, iv, tm⟩ := TgAt.new w ⟨j, h, p, iv, tm⟩
  have hc0 : decide ((iv : Int) < 1) = false := by rw [decide_eq_false_iff_not]; omega
  have hc1 : decide (1073741824 < (iv : Int)) = false := by rw [decide_eq_false_iff_not]; omega
  go_enter Try.func3, Try.ntmps3
  go_upto_region 5 with fail
  have HEA := Lib.hid (And.intro ea eb)
  clear ea eb
  obtain ⟨w0, hw0⟩ : ∃ w0, w0 = w.alloc (.cells #[.string j, .string h, .string p, .int .i64 (iv : Int), .int .i64 tm] 23) := ⟨_, rfl⟩
  have hbel0 := Below.refl (w.alloc (.cells #[.string j, .string h, .string p, .int .i64 (iv : Int), .int .i64 tm] 23)).heap.size (w.alloc (.cells #[.string j, .string h, .string p, .int .i64 (iv : Int), .int .i64 tm] 23))
  have hbelw := Below.box hbel0
  have HS0 := Lib.hid (show w.heap.size < w0.heap.size by rw [hw0]; simp)
  rw [← hw0] at hA hbelw ⊢
  clear hbel0 hw0
  have HA0 := Lib.hid hA
  obtain ⟨a0, a1, a2, a3, a4⟩ := hA
  simp only at a0 a1 a2 a3 a4
  go_cut [7, 8] (fun x y wx => wx = w0 ∧ x = .int .i64 (na : Int) ∧ y = .int .i64 (nb : Int))
  case first =>
    go_wp2_with fail
    all_goals
      go_meet
      have := HEA.out
      exact ⟨rfl, congrArg (Value.int .i64) (by omega), congrArg (Value.int .i64) (by omega)⟩
  case rest =>
  obtain ⟨rfl, rfl, rfl⟩ := hcut
  go_wp2_with fail
  have HQ0 : Hid (Boxed w ⟨j, h, p, (iv : Int), tm⟩ wc) := Lib.hid ⟨HA0.out, hbelw, HS0.out⟩
  have HO1 := Lib.hid (Boxed.call (w := w) (t := ⟨j, h, p, (iv : Int), tm⟩) HO1.out)
  have HO2 := Lib.hid (Boxed.call (w := w) (t := ⟨j, h, p, (iv : Int), tm⟩) HO2.out)
  have HD1 := Lib.hid (Boxed.call (w := w) (t := ⟨j, h, p, (iv : Int), tm⟩) HD1.out)
  have HD2 := Lib.hid (fun x hx => Boxed.call (w := w) (t := ⟨j, h, p, (iv : Int), tm⟩) (HD2.out x hx))
  have HR1 := Lib.hid (Boxed.call (w := w) (t := ⟨j, h, p, (iv : Int), tm⟩) HR1.out)
  have HR2 := Lib.hid (Boxed.call (w := w) (t := ⟨j, h, p, (iv : Int), tm⟩) HR2.out)
  have HR3 := Lib.hid (fun x hx => Boxed.call (w := w) (t := ⟨j, h, p, (iv : Int), tm⟩) (HR3.out x hx))
  have HT1 := Lib.hid (Boxed.call (w := w) (t := ⟨j, h, p, (iv : Int), tm⟩) HT1.out)
  have HK1 := Lib.hid (Boxed.call (w := w) (t := ⟨j, h, p, (iv : Int), tm⟩) HK1.out)
  have HSK := Lib.hid (fun (w' : World) (hq : Hid (Boxed w ⟨j, h, p, (iv : Int), tm⟩ w')) => show w'.cell? ⟨w.heap.size, 0, none⟩ = some (.string j) ∧ w'.cell? ⟨w.heap.size, 1, none⟩ = some (.string h) ∧ w'.cell? ⟨w.heap.size, 2, none⟩ = some (.string p) ∧ w'.cell? ⟨w.heap.size, 3, none⟩ = some (.int .i64 (iv : Int)) ∧ w'.cell? ⟨w.heap.size, 4, none⟩ = some (.int .i64 tm) ∧ Hid (Boxed w ⟨j, h, p, (iv : Int), tm⟩ w') from ⟨hq.out.at_.1, hq.out.at_.2.1, hq.out.at_.2.2.1, hq.out.at_.2.2.2.1, hq.out.at_.2.2.2.2, hq⟩)
  clear hbelw
  refine (HR1.out _ HQ0).mono ?_
  rintro e w1 ⟨rfl, HQ1⟩
  clear a0 a1 a2 a3 a4
  obtain ⟨a0, a1, a2, a3, a4, -⟩ := HSK.out _ HQ1
  have HQ1d : Hid (Boxed w ⟨j, h, p, (iv : Int), tm⟩ w1.drew) := Lib.hid HQ1.out.drew
  go_wp2_with fail
  have HEM := Lib.hid em
  clear em
  go_cut [82] (fun c wx => c = .bool false ∧ Hid (Boxed w ⟨j, h, p, (iv : Int), tm⟩ wx))
  case first =>
    rcases (show (d : Int) ≤ 1125899906842624 ∨ 1125899906842624 < (d : Int) by omega) with hdm | hdm
    · have hdn : decide ((1125899906842624 : Int) < (d : Int)) = false := by rw [decide_eq_false_iff_not]; omega
      have hdn2 : ¬ (1125899906842624 : Int) < (d : Int) := by omega
      have HX := Lib.hid (show (d : Int) = (m : Int) by have := HEM.out; omega)
      have HIF := Lib.hid (show (if (1125899906842624 : Int) < (d : Int) then 1125899906842624 else (d : Int)) = (m : Int) by rw [if_neg hdn2]; exact HX.out)
      refine wp_region_noPanic ?_
      first | go_region_held (fun w' => w'.cell? ⟨w.heap.size, 0, none⟩ = some (.string j) ∧ w'.cell? ⟨w.heap.size, 1, none⟩ = some (.string h) ∧ w'.cell? ⟨w.heap.size, 2, none⟩ = some (.string p) ∧ w'.cell? ⟨w.heap.size, 3, none⟩ = some (.int .i64 (iv : Int)) ∧ w'.cell? ⟨w.heap.size, 4, none⟩ = some (.int .i64 tm) ∧ Hid (Boxed w ⟨j, h, p, (iv : Int), tm⟩ w')) (first | exact HSK.out _ HQ1d | (refine HSK.out _ ?_; assumption) | (refine HSK.out _ ?_; go_split_ands; assumption)) ((first | (go_at_call 7; refine (HO1.out _ (by go_split_ands; assumption)).mono ?_; rintro e w2 ⟨rfl, hq2⟩) | (go_at_call 11; refine (HO2.out _ (by go_split_ands; assumption)).mono ?_; rintro e w3 ⟨rfl, hq3⟩) | (go_at_call_of 8 (Value.int .i64 a); refine (HD1.out _ (by go_split_ands; assumption)).mono ?_; rintro e w4 ⟨rfl, hq4⟩) | (go_at_call 8; refine (HD2.out _ (by first | exact HX.out | exact HIF.out) _ (by go_split_ands; assumption)).mono ?_; rintro e w5 ⟨rfl, hq5⟩) | (go_at_call 10; refine (HR3.out _ (by first | exact HX.out | exact HIF.out) _ (by go_split_ands; assumption)).mono ?_; rintro e w6 ⟨rfl, hq6⟩))) | fail "region"
      all_goals
        refine NoPanic.normal ?_
        go_wp2
        go_meet
        exact ⟨rfl, by assumption⟩
    · have HX := Lib.hid (show (1125899906842624 : Int) = (m : Int) by have := HEM.out; omega)
      have HIF := Lib.hid (show (if (1125899906842624 : Int) < (d : Int) then 1125899906842624 else (d : Int)) = (m : Int) by rw [if_pos hdm]; exact HX.out)
      refine wp_region_noPanic ?_
      first | go_region_held (fun w' => w'.cell? ⟨w.heap.size, 0, none⟩ = some (.string j) ∧ w'.cell? ⟨w.heap.size, 1, none⟩ = some (.string h) ∧ w'.cell? ⟨w.heap.size, 2, none⟩ = some (.string p) ∧ w'.cell? ⟨w.heap.size, 3, none⟩ = some (.int .i64 (iv : Int)) ∧ w'.cell? ⟨w.heap.size, 4, none⟩ = some (.int .i64 tm) ∧ Hid (Boxed w ⟨j, h, p, (iv : Int), tm⟩ w')) (first | exact HSK.out _ HQ1d | (refine HSK.out _ ?_; assumption) | (refine HSK.out _ ?_; go_split_ands; assumption)) ((first | (go_at_call 7; refine (HO1.out _ (by go_split_ands; assumption)).mono ?_; rintro e w2 ⟨rfl, hq2⟩) | (go_at_call 11; refine (HO2.out _ (by go_split_ands; assumption)).mono ?_; rintro e w3 ⟨rfl, hq3⟩) | (go_at_call_of 8 (Value.int .i64 a); refine (HD1.out _ (by go_split_ands; assumption)).mono ?_; rintro e w4 ⟨rfl, hq4⟩) | (go_at_call 8; refine (HD2.out _ (by first | exact HX.out | exact HIF.out) _ (by go_split_ands; assumption)).mono ?_; rintro e w5 ⟨rfl, hq5⟩) | (go_at_call 10; refine (HR3.out _ (by first | exact HX.out | exact HIF.out) _ (by go_split_ands; assumption)).mono ?_; rintro e w6 ⟨rfl, hq6⟩))) | fail "region"
      all_goals
        refine NoPanic.normal ?_
        go_wp2
        go_meet
        exact ⟨rfl, by assumption⟩
  case rest =>
  obtain ⟨rfl, HQ2⟩ := hcut
  clear a0 a1 a2 a3 a4
  by_cases hlt : na < nb
  · have hlt' : (na : Int) < (nb : Int) := by omega
    have HDE := Lib.hid (HM.out (Nat.le_of_lt hlt))
    have hs1 : (e : Int) - (d : Int) ≤ 1125900980584448 := by omega
    have hs2 : 0 ≤ (e : Int) - (d : Int) := by have := HDE.out; omega
    have hiv0 : (iv : Int) ≠ 0 := by omega
    have HQ2d : Hid (Boxed w ⟨j, h, p, (iv : Int), tm⟩ wc.drew) := Lib.hid HQ2.out.drew
    go_wp2_with fail
    refine wp_region_noPanic ?_
    first | go_region_held (fun w' => w'.cell? ⟨w.heap.size, 0, none⟩ = some (.string j) ∧ w'.cell? ⟨w.heap.size, 1, none⟩ = some (.string h) ∧ w'.cell? ⟨w.heap.size, 2, none⟩ = some (.string p) ∧ w'.cell? ⟨w.heap.size, 3, none⟩ = some (.int .i64 (iv : Int)) ∧ w'.cell? ⟨w.heap.size, 4, none⟩ = some (.int .i64 tm) ∧ Hid (Boxed w ⟨j, h, p, (iv : Int), tm⟩ w')) (first | exact HSK.out _ HQ2d | (refine HSK.out _ ?_; assumption) | (refine HSK.out _ ?_; go_split_ands; assumption)) ((go_at_call 10; refine (HR2.out _ (by go_split_ands; assumption)).mono ?_; rintro e w6 ⟨rfl, hq6⟩)) | fail "region"
    all_goals
      refine NoPanic.normal ?_
      have HT2 := Lib.hid (fun W hq => show Calls Try.prog 9 #[(⟨j, h, p, (iv : Int), tm⟩ : Tg).val, .int .i64 a, .int .i64 b] W (fun e' w' => e' = .returned (.int .i64 (((e : Int) - (d : Int)) / (iv : Int))) ∧ Hid (Boxed w ⟨j, h, p, (iv : Int), tm⟩ w')) by
        have h1 := HT1.out W hq
        rw [show (((e - d) / iv : Nat) : Int) = ((e : Int) - (d : Int)) / (iv : Int) by rw [Int.natCast_ediv, Int.ofNat_sub HDE.out]] at h1
        exact h1)
      unfold Tg.val at HT2
      obtain ⟨a0, a1, a2, a3, a4, -⟩ := HSK.out _ hq6
      have HQ6 := Lib.hid hq6.out
      clear hq6 hs1 hs2
      generalize ((e : Int) - (d : Int)) / (iv : Int) = q at HT2 ⊢
      go_wp2_with fail
      refine (HT2.out _ HQ6).mono ?_
      rintro e w3 ⟨rfl, HQ3⟩
      go_wp2_with fail
      refine (HK1.out _ HQ3).mono ?_
      rintro e w4 ⟨rfl, HQ4⟩
      go_wp2
      go_ret
      exact ⟨rfl, HQ4.out.below⟩
  · have hlt' : decide ((na : Int) < (nb : Int)) = false := by rw [decide_eq_false_iff_not]; omega
    have HZ := Lib.hid (show (e - d) / iv = 0 by have := HM2.out (by omega); rw [show e - d = 0 by omega]; simp)
    have HT2 := Lib.hid (fun W hq => show Calls Try.prog 9 #[(⟨j, h, p, (iv : Int), tm⟩ : Tg).val, .int .i64 a, .int .i64 b] W (fun e w' => e = .returned (.int .i64 0) ∧ Hid (Boxed w ⟨j, h, p, (iv : Int), tm⟩ w')) by have := HT1.out W hq; rw [HZ.out] at this; exact this)
    unfold Tg.val at HT2
    obtain ⟨a0, a1, a2, a3, a4, -⟩ := HSK.out _ HQ2
    go_wp2_with fail
    refine (HT2.out _ HQ2).mono ?_
    rintro e w3 ⟨rfl, HQ3⟩
    go_wp2_with fail
    refine (HK1.out _ HQ3).mono ?_
    rintro e w4 ⟨rfl, HQ4⟩
    go_wp2
    go_ret
    exact ⟨rfl, HQ4.out.below⟩
end Go.Proofs.Ytnbghappfclnjaa
