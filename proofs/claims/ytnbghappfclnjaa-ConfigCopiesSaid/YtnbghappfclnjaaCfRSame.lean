/- The document's Same of two configs. -/
import Derived.Test.YtnbghappfclnjaaCfEq
import Derived.Deep.CutBlock
namespace Go.Proofs.Ytnbghappfclnjaa
open Go.RowKit

def SameC (a b : Cf) : Prop := a.ts = b.ts ∧ a.by' = b.by' ∧ a.B.isNone = b.B.isNone ∧ a.win = b.win ∧ a.lat = b.lat ∧ a.ser = b.ser ∧ a.wins = b.wins ∧ a.que = b.que ∧ a.con = b.con ∧ a.bod = b.bod ∧ a.base = b.base ∧ a.most = b.most
noncomputable def sameB (a b : Cf) : Bool := @decide (SameC a b) (Classical.propDecidable _)
theorem sameB_yes {a b : Cf} (h : SameC a b) : sameB a b = true := @decide_eq_true _ (Classical.propDecidable _) h
theorem sameB_no {a b : Cf} (h : ¬ SameC a b) : sameB a b = false := @decide_eq_false _ (Classical.propDecidable _) h
theorem sameB_symm (a b : Cf) : sameB b a = sameB a b := by
  by_cases h : SameC a b
  · rw [sameB_yes h, sameB_yes]
    obtain ⟨h1, h2, h3, h4, h5, h6, h7, h8, h9, h10, h11, h12⟩ := h
    exact ⟨h1.symm, h2.symm, h3.symm, h4.symm, h5.symm, h6.symm, h7.symm, h8.symm, h9.symm, h10.symm, h11.symm, h12.symm⟩
  · rw [sameB_no h, sameB_no]
    intro hh
    obtain ⟨h1, h2, h3, h4, h5, h6, h7, h8, h9, h10, h11, h12⟩ := hh
    exact h ⟨h1.symm, h2.symm, h3.symm, h4.symm, h5.symm, h6.symm, h7.symm, h8.symm, h9.symm, h10.symm, h11.symm, h12.symm⟩
theorem take_next {α : Type} {l m : List α} {k : Nat} {x : α} (h : l.take k = m.take k) (h1 : l[k]? = some x) (h2 : m[k]? = some x) : l.take (k + 1) = m.take (k + 1) := by
  rw [List.take_add_one, List.take_add_one, h, h1, h2]
set_option maxRecDepth 100000 in
set_option maxHeartbeats 2000000 in
theorem rsame13_any (a b : Cf) (w : World) (hr : a.Reads w w.heap.size) (hs : b.Reads w w.heap.size) :
    Calls Try.prog 17 #[a.val, b.val] w fun e w' => e = .returned (.bool (sameB a b)) ∧ Below w.heap.size w w' := by
  have HR := Lib.hid hr
  have HS := Lib.hid hs
  have l1 : (a.ts.length : Int) ≤ 9223372036854775807 := by have := hr.tlen; omega
  have l2 : (a.by'.length : Int) ≤ 9223372036854775807 := by have := hr.blen; omega
  have l3 : (b.ts.length : Int) ≤ 9223372036854775807 := by have := hs.tlen; omega
  have l4 : (b.by'.length : Int) ≤ 9223372036854775807 := by have := hs.blen; omega
  have na := fun W => nil_eql a.B a.by'.length a.cb W (fun h => ⟨by rw [(hr.nil h).1]; rfl, (hr.nil h).2⟩)
  have nb := fun W => nil_eql b.B b.by'.length b.cb W (fun h => ⟨by rw [(hs.nil h).1]; rfl, (hs.nil h).2⟩)
  clear hr hs
  have hgs := sl_guard
  have hgt := tg_guard
  have hA := CfAt.new w a
  have hB := CfAt.new (w.alloc a.obj) b
  have hA2 := hA.keep (w' := (w.alloc a.obj).alloc b.obj) (fun p hp => World.cell?_alloc_lt _ _ p (by rw [hp]; simp))
  have hbel := ((Below.refl w.heap.size w).alloc (Nat.le_refl _) a.obj).alloc (by simp) b.obj
  have hlt : w.heap.size + 1 < ((w.alloc a.obj).alloc b.obj).heap.size := by simp
  rw [show (w.alloc a.obj).heap.size = w.heap.size + 1 by simp] at hB
  clear hA
  unfold Cf.obj at hA2 hB hbel hlt
  unfold Cf.val
  go_enter Try.func17, Try.ntmps17
  go_upto_region 1 with fail
  generalize (w.alloc (.cells #[.slice a.A a.ts.length a.cap, .int .i64 a.win, .int .i64 a.lat, .slice a.B a.by'.length a.cb, .int .i64 a.ser, .int .i64 a.wins, .int .i64 a.que, .int .i64 a.con, .int .i64 a.bod, .int .i64 a.base, .int .i64 a.most] 38)).alloc (.cells #[.slice b.A b.ts.length b.cap, .int .i64 b.win, .int .i64 b.lat, .slice b.B b.by'.length b.cb, .int .i64 b.ser, .int .i64 b.wins, .int .i64 b.que, .int .i64 b.con, .int .i64 b.bod, .int .i64 b.base, .int .i64 b.most] 38) = w0 at hA2 hB hbel hlt ⊢
  have HT := Lib.hid (fun (wr : World) (h : Below w0.heap.size w0 wr) => show CfAt wr w.heap.size a ∧ CfAt wr (w.heap.size + 1) b ∧ Below w.heap.size w wr from ⟨hA2.below h (by omega), hB.below h hlt, hbel.trans (h.mono (by omega))⟩)
  clear hA2 hB hbel hlt
  obtain ⟨hx, hy, hz⟩ := HT.out w0 (Below.refl _ _)
  have HB0 := Lib.hid hz
  obtain ⟨a0, a1, a2, a3, a4, a5, a6, a7, a8, a9, a10⟩ := hx
  obtain ⟨b0, b1, b2, b3, b4, b5, b6, b7, b8, b9, b10⟩ := hy
  clear hz
  by_cases q1 : a.ts.length = b.ts.length
  · have q1' : ((a.ts.length : Int) == (b.ts.length : Int)) = true := by simp; omega
    have q1e : (a.ts.length : Int) = (b.ts.length : Int) := by omega
    have HQ1 := Lib.hid q1
    clear q1
    by_cases q2 : a.by'.length = b.by'.length
    · have q2' : ((a.by'.length : Int) == (b.by'.length : Int)) = true := by simp; omega
      have q2e : (a.by'.length : Int) = (b.by'.length : Int) := by omega
      have HQ2 := Lib.hid q2
      clear q2
      by_cases q3 : a.B.isNone = b.B.isNone
      · obtain ⟨z, hz⟩ : ∃ z, z = b.B.isNone := ⟨_, rfl⟩
        rw [q3, ← hz] at na
        rw [← hz] at nb
        have HZ := Lib.hid (show a.B.isNone = b.B.isNone from q3)
        clear q3 hz
        have hzz : (z != z) = false := by cases z <;> rfl
        have hzy : (z == z) = true := by cases z <;> rfl
        go_wp2_with fail
        clear a0 a1 a2 a3 a4 a5 a6 a7 a8 a9 a10 b0 b1 b2 b3 b4 b5 b6 b7 b8 b9 b10 q1e q2e q1' q2' na nb hzz hzy
        go_loopw [5] (fun i wr => ∃ k : Nat, k ≤ a.ts.length ∧ i = .int .i64 k ∧ Hid (a.ts.take k = b.ts.take k) ∧ Hid (Below w0.heap.size w0 wr)) (fun i _ => a.ts.length - (intOf i).toNat)
        case atStart => exact ⟨0, by omega, rfl, Lib.hid rfl, Lib.hid (Below.refl _ _)⟩
        case round =>
          obtain ⟨k, hk, rfl, HE, HB⟩ := hrel
          obtain ⟨hx, hy, hz⟩ := HT.out _ HB.out
          have HBW := Lib.hid hz
          obtain ⟨a0, a1, a2, a3, a4, a5, a6, a7, a8, a9, a10⟩ := hx
          obtain ⟨b0, b1, b2, b3, b4, b5, b6, b7, b8, b9, b10⟩ := hy
          by_cases hlt : k < a.ts.length
          · obtain ⟨t, ht⟩ : ∃ t, a.ts[k]? = some t := ⟨_, List.getElem?_eq_getElem hlt⟩
            obtain ⟨u, hu⟩ : ∃ u, b.ts[k]? = some u := ⟨_, List.getElem?_eq_getElem (by have := HQ1.out; omega)⟩
            obtain ⟨b1', o1, hA1, hb1, hc1⟩ := (HR.out.ts.below hz).at tOk (by omega)
            obtain ⟨b2', o2, hA2, hb2, hc2⟩ := (HS.out.ts.below hz).at tOk (by have := HQ1.out; omega)
            have c0 := hc1 k t ht 0 _ rfl
            have c1 := hc1 k t ht 1 _ rfl
            have c2 := hc1 k t ht 2 _ rfl
            have c3 := hc1 k t ht 3 _ rfl
            have c4 := hc1 k t ht 4 _ rfl
            have d0 := hc2 k u hu 0 _ rfl
            have d1 := hc2 k u hu 1 _ rfl
            have d2 := hc2 k u hu 2 _ rfl
            have d3 := hc2 k u hu 3 _ rfl
            have d4 := hc2 k u hu 4 _ rfl
            simp only [tK, Nat.add_zero] at c0 c1 c2 c3 c4 d0 d1 d2 d3 d4
            rw [← Nat.add_assoc] at c1 c2 c3 c4 d1 d2 d3 d4
            rw [hA1] at a0
            rw [hA2] at b0
            have HT2 := Lib.hid (And.intro ht hu)
            have hlt' : (k : Int) < (a.ts.length : Int) := by omega
            have hlt2 : (k : Int) < (b.ts.length : Int) := by have := HQ1.out; omega
            have hk0 : (0 : Int) ≤ (k : Int) := by omega
            have hne := fun W => tg_neq t u W
            unfold Tg.val at hne
            clear hc1 hc2 ht hu hz
            cases hE : tgE t u with
            | true =>
              rw [hE] at hne
              have HN := Lib.hid (show a.ts.take (k + 1) = b.ts.take (k + 1) from take_next HE.out HT2.out.1 (by rw [tgE_iff.1 hE]; exact HT2.out.2))
              go_wp2_with fail
              go_quiet (fail)
              go_wp2
              go_roundw
              case rel => exact ⟨k + 1, by omega, by go_num, HN, Lib.hid (below_drewN HB.out _)⟩
              case measure => simp [intOf] <;> omega
            | false =>
              rw [hE] at hne
              have HM := Lib.hid (sameB_no (a := a) (b := b) (fun h => by
                have e1 := HT2.out.1
                rw [h.1, HT2.out.2] at e1
                cases e1
                rw [tgE_iff.2 rfl] at hE
                cases hE))
              go_wp2_with fail
              go_quiet (fail)
              go_wp2
              go_ret
              exact ⟨by rw [HM.out]; rfl, below_drewN HBW.out _⟩
          · have hge : decide ((k : Int) < (a.ts.length : Int)) = false := by rw [decide_eq_false_iff_not]; omega
            have HTS := Lib.hid (show a.ts = b.ts by
              have := HE.out
              rwa [List.take_of_length_le (by omega), List.take_of_length_le (by have := HQ1.out; omega)] at this)
            clear hz
            have hge2 : ¬ ((k : Int) < (a.ts.length : Int)) := by omega
            go_wp2_with fail
            clear hlt hge2 a0 a1 a2 a3 a4 a5 a6 a7 a8 a9 a10 b0 b1 b2 b3 b4 b5 b6 b7 b8 b9 b10 hge
            go_loopw [6] (fun i wq => ∃ k : Nat, k ≤ a.by'.length ∧ i = .int .i64 k ∧ Hid (a.by'.take k = b.by'.take k) ∧ Hid (Below w0.heap.size w0 wq)) (fun i _ => a.by'.length - (intOf i).toNat)
            case atStart => exact ⟨0, by omega, rfl, Lib.hid rfl, HB⟩
            case round =>
              obtain ⟨m, hm, rfl, HE2, HB2⟩ := hrel
              obtain ⟨hx, hy, hz⟩ := HT.out _ HB2.out
              have HBW2 := Lib.hid hz
              obtain ⟨a0, a1, a2, a3, a4, a5, a6, a7, a8, a9, a10⟩ := hx
              obtain ⟨b0, b1, b2, b3, b4, b5, b6, b7, b8, b9, b10⟩ := hy
              by_cases hlt : m < a.by'.length
              · obtain ⟨t, ht⟩ : ∃ t, a.by'[m]? = some t := ⟨_, List.getElem?_eq_getElem hlt⟩
                obtain ⟨u, hu⟩ : ∃ u, b.by'[m]? = some u := ⟨_, List.getElem?_eq_getElem (by have := HQ2.out; omega)⟩
                obtain ⟨b1', o1, hA1, hb1, hc1⟩ := (HR.out.by'.below hz).at bOk (by omega)
                obtain ⟨b2', o2, hA2, hb2, hc2⟩ := (HS.out.by'.below hz).at bOk (by have := HQ2.out; omega)
                have c0 := hc1 m t ht 0 _ rfl
                have d0 := hc2 m u hu 0 _ rfl
                simp only [bK, Nat.add_zero, Nat.mul_one] at c0 d0
                rw [hA1] at a3
                rw [hA2] at b3
                have HT2 := Lib.hid (And.intro ht hu)
                have hlt' : (m : Int) < (a.by'.length : Int) := by omega
                have hlt2 : (m : Int) < (b.by'.length : Int) := by have := HQ2.out; omega
                have hk0 : (0 : Int) ≤ (m : Int) := by omega
                clear hc1 hc2 ht hu hz
                cases hE : (t.toList == u.toList) with
                | true =>
                  have HN := Lib.hid (show a.by'.take (m + 1) = b.by'.take (m + 1) from take_next HE2.out HT2.out.1 (by rw [toList_inj (beq_iff_eq.1 hE)]; exact HT2.out.2))
                  go_wp2_with fail
                  go_quiet (fail)
                  go_wp2
                  go_roundw
                  case rel => exact ⟨m + 1, by omega, by go_num, HN, Lib.hid (below_drewN HB2.out _)⟩
                  case measure => simp [intOf] <;> omega
                | false =>
                  have HM := Lib.hid (sameB_no (a := a) (b := b) (fun h => by
                    have e1 := HT2.out.1
                    rw [h.2.1, HT2.out.2] at e1
                    cases e1
                    simp at hE))
                  go_wp2_with fail
                  go_quiet (fail)
                  go_wp2
                  go_ret
                  exact ⟨by rw [HM.out]; rfl, below_drewN HBW2.out _⟩
              · have hge : decide ((m : Int) < (a.by'.length : Int)) = false := by rw [decide_eq_false_iff_not]; omega
                have HBY := Lib.hid (show a.by' = b.by' by
                  have := HE2.out
                  rwa [List.take_of_length_le (by omega), List.take_of_length_le (by have := HQ2.out; omega)] at this)
                have hge2 : ¬ ((m : Int) < (a.by'.length : Int)) := by omega
                clear hz
                by_cases e0 : a.win = b.win
                · by_cases e1 : a.lat = b.lat
                  · by_cases e2 : a.ser = b.ser
                    · by_cases e3 : a.wins = b.wins
                      · by_cases e4 : a.que = b.que
                        · by_cases e5 : a.con = b.con
                          · by_cases e6 : a.bod = b.bod
                            · by_cases e7 : a.base = b.base
                              · by_cases e8 : a.most = b.most
                                · have HM := Lib.hid (sameB_yes (a := a) (b := b) ⟨HTS.out, HBY.out, HZ.out, e0, e1, e2, e3, e4, e5, e6, e7, e8⟩)
                                  go_wp2
                                  all_goals
                                    go_ret
                                    exact ⟨by rw [HM.out]; rfl, HBW2.out⟩
                                · have HM := Lib.hid (sameB_no (a := a) (b := b) (fun h => e8 h.2.2.2.2.2.2.2.2.2.2.2))
                                  have e9 : (a.most == b.most) = false := by simpa using e8
                                  go_wp2
                                  all_goals
                                    go_ret
                                    exact ⟨by rw [HM.out]; rfl, HBW2.out⟩
                              · have HM := Lib.hid (sameB_no (a := a) (b := b) (fun h => e7 h.2.2.2.2.2.2.2.2.2.2.1))
                                have e9 : (a.base == b.base) = false := by simpa using e7
                                go_wp2
                                all_goals
                                  go_ret
                                  exact ⟨by rw [HM.out]; rfl, HBW2.out⟩
                            · have HM := Lib.hid (sameB_no (a := a) (b := b) (fun h => e6 h.2.2.2.2.2.2.2.2.2.1))
                              have e9 : (a.bod == b.bod) = false := by simpa using e6
                              go_wp2
                              all_goals
                                go_ret
                                exact ⟨by rw [HM.out]; rfl, HBW2.out⟩
                          · have HM := Lib.hid (sameB_no (a := a) (b := b) (fun h => e5 h.2.2.2.2.2.2.2.2.1))
                            have e9 : (a.con == b.con) = false := by simpa using e5
                            go_wp2
                            all_goals
                              go_ret
                              exact ⟨by rw [HM.out]; rfl, HBW2.out⟩
                        · have HM := Lib.hid (sameB_no (a := a) (b := b) (fun h => e4 h.2.2.2.2.2.2.2.1))
                          have e9 : (a.que == b.que) = false := by simpa using e4
                          go_wp2
                          all_goals
                            go_ret
                            exact ⟨by rw [HM.out]; rfl, HBW2.out⟩
                      · have HM := Lib.hid (sameB_no (a := a) (b := b) (fun h => e3 h.2.2.2.2.2.2.1))
                        have e9 : (a.wins == b.wins) = false := by simpa using e3
                        go_wp2
                        all_goals
                          go_ret
                          exact ⟨by rw [HM.out]; rfl, HBW2.out⟩
                    · have HM := Lib.hid (sameB_no (a := a) (b := b) (fun h => e2 h.2.2.2.2.2.1))
                      have e9 : (a.ser == b.ser) = false := by simpa using e2
                      go_wp2
                      all_goals
                        go_ret
                        exact ⟨by rw [HM.out]; rfl, HBW2.out⟩
                  · have HM := Lib.hid (sameB_no (a := a) (b := b) (fun h => e1 h.2.2.2.2.1))
                    have e9 : (a.lat == b.lat) = false := by simpa using e1
                    go_wp2
                    all_goals
                      go_ret
                      exact ⟨by rw [HM.out]; rfl, HBW2.out⟩
                · have HM := Lib.hid (sameB_no (a := a) (b := b) (fun h => e0 h.2.2.2.1))
                  have e9 : (a.win == b.win) = false := by simpa using e0
                  go_wp2
                  all_goals
                    go_ret
                    exact ⟨by rw [HM.out]; rfl, HBW2.out⟩
      · have HM := Lib.hid (sameB_no (a := a) (b := b) (fun h => q3 h.2.2.1))
        cases h1 : a.B.isNone <;> cases h2 : b.B.isNone
        · exact absurd (h1.trans h2.symm) q3
        · rw [h1] at na
          rw [h2] at nb
          go_wp2
          all_goals
            go_ret
            exact ⟨by rw [HM.out]; rfl, HB0.out⟩
        · rw [h1] at na
          rw [h2] at nb
          go_wp2
          all_goals
            go_ret
            exact ⟨by rw [HM.out]; rfl, HB0.out⟩
        · exact absurd (h1.trans h2.symm) q3
    · have q2' : ((a.by'.length : Int) == (b.by'.length : Int)) = false := by simp; omega
      have HM := Lib.hid (sameB_no (a := a) (b := b) (fun h => q2 (by rw [h.2.1])))
      go_wp2
      all_goals
        go_ret
        exact ⟨by rw [HM.out]; rfl, HB0.out⟩
  · have q1' : ((a.ts.length : Int) == (b.ts.length : Int)) = false := by simp; omega
    have HM := Lib.hid (sameB_no (a := a) (b := b) (fun h => q1 (by rw [h.1])))
    go_wp2
    all_goals
      go_ret
      exact ⟨by rw [HM.out]; rfl, HB0.out⟩
end Go.Proofs.Ytnbghappfclnjaa
