/- slices.Equal over targets, and over words. -/
import Derived.Test.YtnbghappfclnjaaCfRSame
namespace Go.Proofs.Ytnbghappfclnjaa
open Go.RowKit

noncomputable def eqTB (l m : List Tg) : Bool := @decide (l = m) (Classical.propDecidable _)
theorem eqTB_yes {l m : List Tg} (h : l = m) : eqTB l m = true := @decide_eq_true _ (Classical.propDecidable _) h
theorem eqTB_no {l m : List Tg} (h : ¬ l = m) : eqTB l m = false := @decide_eq_false _ (Classical.propDecidable _) h
set_option maxRecDepth 100000 in
set_option maxHeartbeats 4000000 in
theorem eqT_any (A B : Option Addr) (l m : List Tg) (cl cm : Nat) (w : World) (hr : tK.Reads w w.heap.size A l) (hs : tK.Reads w w.heap.size B m) (ll : l.length ≤ 1000) (lm : m.length ≤ 1000) :
    Calls Try.prog 26 #[.slice A l.length cl, .slice B m.length cm] w fun e w' => e = .returned (.bool (eqTB l m)) ∧ Below w.heap.size w w' := by
  have HR := Lib.hid hr
  have HS := Lib.hid hs
  clear hr hs
  obtain ⟨n, hn⟩ : ∃ n, n = l.length := ⟨_, rfl⟩
  obtain ⟨p, hp⟩ : ∃ p, p = m.length := ⟨_, rfl⟩
  rw [← hn] at ll ⊢
  rw [← hp] at lm ⊢
  have HN := Lib.hid hn
  have HP := Lib.hid hp
  have HB0 := Lib.hid (Below.refl w.heap.size w)
  clear hn hp
  by_cases q : n = p
  · subst q
    go_enter Try.func26, Try.ntmps26
    go_wp2_with fail
    go_loopw [13] (fun i wr => ∃ k : Nat, k ≤ n ∧ i = .int .i64 k ∧ Hid (Below w.heap.size w wr) ∧ Hid (l.take k = m.take k)) (fun i _ => n - (intOf i).toNat)
    case atStart => exact ⟨0, Nat.zero_le _, rfl, HB0, Lib.hid rfl⟩
    case round =>
      obtain ⟨k, hk, rfl, HB, HE⟩ := hrel
      by_cases hlt : k < n
      · obtain ⟨t, ht⟩ : ∃ t, l[k]? = some t := ⟨_, List.getElem?_eq_getElem (by rw [← HN.out]; exact hlt)⟩
        obtain ⟨u, hu⟩ : ∃ u, m[k]? = some u := ⟨_, List.getElem?_eq_getElem (by rw [← HP.out]; exact hlt)⟩
        obtain ⟨b1, o1, hA1, hb1, hc1⟩ := (HR.out.below HB.out).at tOk (by rw [← HN.out]; omega)
        obtain ⟨b2, o2, hA2, hb2, hc2⟩ := (HS.out.below HB.out).at tOk (by rw [← HP.out]; omega)
        have c0 := hc1 k t ht 0 _ rfl
        have c1 := hc1 k t ht 1 _ rfl
        have c2 := hc1 k t ht 2 _ rfl
        have c3 := hc1 k t ht 3 _ rfl
        have c4 := hc1 k t ht 4 _ rfl
        have d0 := hc2 k u hu 0 _ rfl
        have d1 := hc2 k u hu 1 _ rfl
        have d2 := hc2 k u hu 2 _ rfl
        have d3 := hc2 k u hu 3 _ rfl
        have d4 := hc2 k u hu 4 _ rfl
        simp only [tK, Nat.add_zero] at c0 c1 c2 c3 c4 d0 d1 d2 d3 d4
        rw [← Nat.add_assoc] at c1 c2 c3 c4 d1 d2 d3 d4
        have hne := fun W => tg_neq t u W
        unfold Tg.val at hne
        have hgt := tg_guard
        subst hA1 hA2
        have HT2 := Lib.hid (And.intro ht hu)
        have hlt' : (k : Int) < (n : Int) := by omega
        have hk0 : (0 : Int) ≤ (k : Int) := by omega
        clear hc1 hc2 ht hu hb1 hb2
        cases hE : tgE t u with
        | true =>
          rw [hE] at hne
          have HX := Lib.hid (show l.take (k + 1) = m.take (k + 1) from take_next HE.out HT2.out.1 (by rw [tgE_iff.1 hE]; exact HT2.out.2))
          go_wp2_with fail
          go_quiet (fail)
          go_wp2
          go_roundw
          case rel => exact ⟨k + 1, by omega, by go_num, Lib.hid (below_drewN HB.out _), HX⟩
          case measure => simp [intOf] <;> omega
        | false =>
          rw [hE] at hne
          have HM := Lib.hid (eqTB_no (l := l) (m := m) (fun h => by
            have e1 := HT2.out.1
            rw [h, HT2.out.2] at e1
            cases e1
            rw [tgE_iff.2 rfl] at hE
            cases hE))
          go_wp2_with fail
          go_quiet (fail)
          go_wp2
          go_ret
          exact ⟨by rw [HM.out]; rfl, below_drewN HB.out _⟩
      · have hge : decide ((k : Int) < (n : Int)) = false := by rw [decide_eq_false_iff_not]; omega
        have HM := Lib.hid (eqTB_yes (l := l) (m := m) (by
          have := HE.out
          rwa [List.take_of_length_le (by rw [← HN.out]; omega), List.take_of_length_le (by rw [← HP.out]; omega)] at this))
        go_wp2_with fail
        go_ret
        exact ⟨by rw [HM.out]; rfl, HB.out⟩
  · have q' : ((n : Int) == (p : Int)) = false := by rw [beq_eq_false_iff_ne]; omega
    have HM := Lib.hid (eqTB_no (l := l) (m := m) (fun h => q (by rw [HN.out, HP.out, h])))
    clear q
    go_enter Try.func26, Try.ntmps26
    go_wp2_with fail
    go_ret
    exact ⟨by rw [HM.out]; rfl, HB0.out⟩
noncomputable def eqSB (l m : List ByteArray) : Bool := @decide (l = m) (Classical.propDecidable _)
theorem eqSB_yes {l m : List ByteArray} (h : l = m) : eqSB l m = true := @decide_eq_true _ (Classical.propDecidable _) h
theorem eqSB_no {l m : List ByteArray} (h : ¬ l = m) : eqSB l m = false := @decide_eq_false _ (Classical.propDecidable _) h
set_option maxRecDepth 100000 in
set_option maxHeartbeats 4000000 in
theorem eqS_any (A B : Option Addr) (l m : List ByteArray) (cl cm : Nat) (w : World) (hr : bK.Reads w w.heap.size A l) (hs : bK.Reads w w.heap.size B m) (ll : l.length ≤ 1000) (lm : m.length ≤ 1000) :
    Calls Try.prog 27 #[.slice A l.length cl, .slice B m.length cm] w fun e w' => e = .returned (.bool (eqSB l m)) ∧ Below w.heap.size w w' := by
  have HR := Lib.hid hr
  have HS := Lib.hid hs
  clear hr hs
  obtain ⟨n, hn⟩ : ∃ n, n = l.length := ⟨_, rfl⟩
  obtain ⟨p, hp⟩ : ∃ p, p = m.length := ⟨_, rfl⟩
  rw [← hn] at ll ⊢
  rw [← hp] at lm ⊢
  have HN := Lib.hid hn
  have HP := Lib.hid hp
  have HB0 := Lib.hid (Below.refl w.heap.size w)
  clear hn hp
  by_cases q : n = p
  · subst q
    go_enter Try.func27, Try.ntmps27
    go_wp2_with fail
    go_loopw [13] (fun i wr => ∃ k : Nat, k ≤ n ∧ i = .int .i64 k ∧ Hid (Below w.heap.size w wr) ∧ Hid (l.take k = m.take k)) (fun i _ => n - (intOf i).toNat)
    case atStart => exact ⟨0, Nat.zero_le _, rfl, HB0, Lib.hid rfl⟩
    case round =>
      obtain ⟨k, hk, rfl, HB, HE⟩ := hrel
      by_cases hlt : k < n
      · obtain ⟨t, ht⟩ : ∃ t, l[k]? = some t := ⟨_, List.getElem?_eq_getElem (by rw [← HN.out]; exact hlt)⟩
        obtain ⟨u, hu⟩ : ∃ u, m[k]? = some u := ⟨_, List.getElem?_eq_getElem (by rw [← HP.out]; exact hlt)⟩
        obtain ⟨b1, o1, hA1, hb1, hc1⟩ := (HR.out.below HB.out).at bOk (by rw [← HN.out]; omega)
        obtain ⟨b2, o2, hA2, hb2, hc2⟩ := (HS.out.below HB.out).at bOk (by rw [← HP.out]; omega)
        have c0 := hc1 k t ht 0 _ rfl
        have d0 := hc2 k u hu 0 _ rfl
        simp only [bK, Nat.add_zero, Nat.mul_one] at c0 d0
        subst hA1 hA2
        have HT2 := Lib.hid (And.intro ht hu)
        have hlt' : (k : Int) < (n : Int) := by omega
        have hk0 : (0 : Int) ≤ (k : Int) := by omega
        clear hc1 hc2 ht hu hb1 hb2
        cases hE : (t.toList == u.toList) with
        | true =>
          have HX := Lib.hid (show l.take (k + 1) = m.take (k + 1) from take_next HE.out HT2.out.1 (by rw [toList_inj (beq_iff_eq.1 hE)]; exact HT2.out.2))
          go_wp2_with fail
          go_quiet (fail)
          go_wp2
          go_roundw
          case rel => exact ⟨k + 1, by omega, by go_num, Lib.hid (below_drewN HB.out _), HX⟩
          case measure => simp [intOf] <;> omega
        | false =>
          have HM := Lib.hid (eqSB_no (l := l) (m := m) (fun h => by
            have e1 := HT2.out.1
            rw [h, HT2.out.2] at e1
            cases e1
            simp at hE))
          go_wp2_with fail
          go_quiet (fail)
          go_wp2
          go_ret
          exact ⟨by rw [HM.out]; rfl, below_drewN HB.out _⟩
      · have hge : decide ((k : Int) < (n : Int)) = false := by rw [decide_eq_false_iff_not]; omega
        have HM := Lib.hid (eqSB_yes (l := l) (m := m) (by
          have := HE.out
          rwa [List.take_of_length_le (by rw [← HN.out]; omega), List.take_of_length_le (by rw [← HP.out]; omega)] at this))
        go_wp2_with fail
        go_ret
        exact ⟨by rw [HM.out]; rfl, HB.out⟩
  · have q' : ((n : Int) == (p : Int)) = false := by rw [beq_eq_false_iff_ne]; omega
    have HM := Lib.hid (eqSB_no (l := l) (m := m) (fun h => q (by rw [HN.out, HP.out, h])))
    clear q
    go_enter Try.func27, Try.ntmps27
    go_wp2_with fail
    go_ret
    exact ⟨by rw [HM.out]; rfl, HB0.out⟩
end Go.Proofs.Ytnbghappfclnjaa
