/- The document's Alike. -/
import Derived.Test.YtcjmieofmogeiaaStEqO
import Derived.Test.YtcjmieofmogeiaaStRSame
namespace Go.Proofs.Ytcjmieofmogeiaa
open Go.RowKit

set_option maxRecDepth 100000 in
set_option maxHeartbeats 8000000 in
theorem ralike_any {B1 B2 : Nat} {w : World} {r1 r2 : Nat} {v1 v2 : Value} {most1 most2 : Nat} {L1 L2 : List One} (h1 : RefS B1 w r1 v1 most1 L1) (h2 : RefS B2 w r2 v2 most2 L2) (hl : L1.length ≤ 90000) (hl2 : L2.length ≤ 90000) :
    Calls Try.prog 35 #[.pointer (some ⟨r1, 0, none⟩), .pointer (some ⟨r2, 0, none⟩)] w fun e w' => e = .returned (.bool (decide (most1 = most2 ∧ L1 = L2))) ∧ Turns [] w w' := by
  obtain ⟨A1, c1, hv1, _, _, _⟩ := h1.form
  obtain ⟨A2, c2, hv2, _, _, _⟩ := h2.form
  have HC : Hid (∀ X, Turns [] w X → X.cell? ⟨r1, 0, none⟩ = some (.slice A1 L1.length c1) ∧ X.cell? ⟨r1, 1, none⟩ = some (.int .i64 most1) ∧ X.cell? ⟨r2, 0, none⟩ = some (.slice A2 L2.length c2) ∧ X.cell? ⟨r2, 1, none⟩ = some (.int .i64 most2)) := Lib.hid (fun X ht => by
    obtain ⟨a0, a1, _⟩ := (h1.pre ht).cells
    obtain ⟨b0, b1, _⟩ := (h2.pre ht).cells
    rw [hv1] at a0
    rw [hv2] at b0
    exact ⟨a0, a1, b0, b1⟩)
  have H1 := Lib.hid h1
  have H2 := Lib.hid h2
  have HV1 := Lib.hid hv1
  have HV2 := Lib.hid hv2
  obtain ⟨a0, a1, b0, b1⟩ := HC.out w (Turns.refl _ _)
  have HT0 := Lib.hid (fun n : Nat => (Turns.refl [] w).drewN0 n)
  clear h1 h2 hv1 hv2
  by_cases hmo : most1 = most2
  · subst hmo
    have f0 : decide ((most1 : Int) = (most1 : Int)) = true := by simp
    by_cases hne : L1.length = L2.length
    · rw [← hne] at b0 HC
      have HNE := Lib.hid hne
      have hgd := one_guard
      have hnq := one_neq
      have f1 : (L1.length : Int) ≤ 90000 := by omega
      clear hne hl hl2
      go_enter Try.func35, Try.ntmps35
      go_wp2_with fail
      go_quiet (fail)
      go_wp2_with fail
      go_loopw [5] (fun i wr => ∃ k : Nat, i = .int .i64 (k : Int) ∧ k ≤ L1.length ∧ Hid (L1.take k = L2.take k ∧ Turns [] w wr)) (fun i _ => L1.length - (intOf i).toNat)
      case atStart => exact ⟨0, rfl, Nat.zero_le _, Lib.hid ⟨rfl, HT0.out _⟩⟩
      case round =>
        obtain ⟨k, rfl, hk, HQ⟩ := hrel
        have HTD := Lib.hid (fun n : Nat => HQ.out.2.drewN0 n)
        clear a0 a1 b0 b1
        obtain ⟨a0, a1, b0, b1⟩ := HC.out wr HQ.out.2
        by_cases hlt : k < L1.length
        · have f2 : (k : Int) < (L1.length : Int) := by omega
          have f3 : (0 : Int) ≤ (k : Int) := by omega
          obtain ⟨x, hx⟩ : ∃ x, L1[k]? = some x := ⟨_, List.getElem?_eq_getElem hlt⟩
          obtain ⟨y, hy⟩ : ∃ y, L2[k]? = some y := ⟨_, List.getElem?_eq_getElem (by have := HNE.out; omega)⟩
          obtain ⟨g1, d1, e1, _, _, _, hc1⟩ := (H1.out.pre HQ.out.2).at_ hx
          obtain ⟨g2, d2, e2, _, _, _, hc2⟩ := (H2.out.pre HQ.out.2).at_ hy
          rw [HV1.out] at e1
          rw [HV2.out] at e2
          injection e1 with e1 _ e3
          subst e1 e3
          injection e2 with e2 _ e4
          subst e2 e4
          have k0 : wr.cell? ⟨g1, k * 7, none⟩ = some (.string x.name) := hc1 0 _ rfl
          have k1 : wr.cell? ⟨g1, k * 7 + 1, none⟩ = some (.string x.l.s.name) := hc1 1 _ rfl
          have k2 : wr.cell? ⟨g1, k * 7 + 2, none⟩ = some (.int .i64 x.l.s.val) := hc1 2 _ rfl
          have k3 : wr.cell? ⟨g1, k * 7 + 3, none⟩ = some (.int .i64 x.l.s.tm) := hc1 3 _ rfl
          have k4 : wr.cell? ⟨g1, k * 7 + 4, none⟩ = some (.bool x.l.s.cnt) := hc1 4 _ rfl
          have k5 : wr.cell? ⟨g1, k * 7 + 5, none⟩ = some (.bool x.l.live) := hc1 5 _ rfl
          have k6 : wr.cell? ⟨g1, k * 7 + 6, none⟩ = some (.int .i64 x.l.own) := hc1 6 _ rfl
          have m0 : wr.cell? ⟨g2, k * 7, none⟩ = some (.string y.name) := hc2 0 _ rfl
          have m1 : wr.cell? ⟨g2, k * 7 + 1, none⟩ = some (.string y.l.s.name) := hc2 1 _ rfl
          have m2 : wr.cell? ⟨g2, k * 7 + 2, none⟩ = some (.int .i64 y.l.s.val) := hc2 2 _ rfl
          have m3 : wr.cell? ⟨g2, k * 7 + 3, none⟩ = some (.int .i64 y.l.s.tm) := hc2 3 _ rfl
          have m4 : wr.cell? ⟨g2, k * 7 + 4, none⟩ = some (.bool y.l.s.cnt) := hc2 4 _ rfl
          have m5 : wr.cell? ⟨g2, k * 7 + 5, none⟩ = some (.bool y.l.live) := hc2 5 _ rfl
          have m6 : wr.cell? ⟨g2, k * 7 + 6, none⟩ = some (.int .i64 y.l.own) := hc2 6 _ rfl
          have HX := Lib.hid hx
          have HY := Lib.hid hy
          have HJL := Lib.hid hlt
          clear hc1 hc2 hx hy
          have hnn := hnq x y
          have HXY : Hid (oneE x y = true ↔ x = y) := Lib.hid oneE_iff
          clear hnq
          cases hb : oneE x y with
          | true =>
            rw [hb] at hnn
            go_wp2_with fail
            go_quiet (fail)
            go_wp2_with fail
            go_roundw
            case rel =>
              refine ⟨k + 1, by go_num, HJL.out, Lib.hid ⟨?_, HTD.out _⟩⟩
              rw [List.take_add_one, List.take_add_one, HX.out, HY.out, HQ.out.1, HXY.out.1 hb]
            case measure => simp [intOf] <;> omega
          | false =>
            rw [hb] at hnn
            have HD : Hid (decide (most1 = most1 ∧ L1 = L2) = false) := Lib.hid (by
              simp
              intro e
              have h1 := HX.out
              rw [e, HY.out] at h1
              cases h1
              rw [HXY.out.2 rfl] at hb
              cases hb)
            go_wp2_with fail
            go_quiet (fail)
            go_wp2
            go_ret
            exact ⟨by rw [HD.out]; rfl, HTD.out _⟩
        · have hge : decide ((k : Int) < (L1.length : Int)) = false := by simp; omega
          have HD : Hid (decide (L1 = L2) = true) := Lib.hid (by
            have h1 := HQ.out.1
            rw [List.take_of_length_le (by omega), List.take_of_length_le (by have := HNE.out; omega)] at h1
            simpa using h1)
          go_wp2
          go_ret
          exact ⟨by simp only [true_and]; rw [HD.out]; rfl, HQ.out.2⟩
    · have hb : ((L1.length : Int) != (L2.length : Int)) = true := by simp; omega
      have hb2 : ¬ (L1.length : Int) = (L2.length : Int) := by omega
      have HD : Hid (decide (most1 = most1 ∧ L1 = L2) = false) := Lib.hid (by simp; exact fun e => hne (by rw [e]))
      clear hne hl hl2
      go_enter Try.func35, Try.ntmps35
      go_wp2_with fail
      go_quiet (fail)
      go_wp2
      go_ret
      exact ⟨by rw [HD.out]; rfl, HT0.out _⟩
  · have hb : ((most1 : Int) != (most2 : Int)) = true := by simp; omega
    have hb2 : ¬ (most1 : Int) = (most2 : Int) := by omega
    have HD : Hid (decide (most1 = most2 ∧ L1 = L2) = false) := Lib.hid (by simp [hmo])
    clear hmo hl hl2
    go_enter Try.func35, Try.ntmps35
    go_wp2_with fail
    go_quiet (fail)
    go_wp2
    go_ret
    exact ⟨by rw [HD.out]; rfl, HT0.out _⟩
end Go.Proofs.Ytcjmieofmogeiaa
