/- The program's Same of two configs. -/
import Derived.Test.YtnbghappfclnjaaCfEqual13
import Derived.Test.YtnbghappfclnjaaCfCpP
namespace Go.Proofs.Ytnbghappfclnjaa
open Go.RowKit

set_option maxRecDepth 100000 in
set_option maxHeartbeats 8000000 in
theorem same13_any : SameP := by
  intro a b w hr hs hf hg
  have HE1 := Lib.hid (DBox.call (w := w) (a := a) (b := b) (fun W h => eqT_any a.A b.A a.ts b.ts a.cap b.cap W (h.reads hr).ts (h.reads hs).ts (by have := hf.ts; omega) (by have := hg.ts; omega)))
  have HE2 := Lib.hid (DBox.call (w := w) (a := a) (b := b) (fun W h => eqS_any a.B b.B a.by' b.by' a.cb b.cb W (h.reads hr).by' (h.reads hs).by' (by have := hf.by'; omega) (by have := hg.by'; omega)))
  have na := fun W => nil_eql a.B a.by'.length a.cb W (fun h => ⟨by rw [(hr.nil h).1]; rfl, (hr.nil h).2⟩)
  have nb := fun W => nil_eql b.B b.by'.length b.cb W (fun h => ⟨by rw [(hs.nil h).1]; rfl, (hs.nil h).2⟩)
  have hgs := sl_guard
  have hn := DBox.new w a b
  clear hr hs hf hg
  unfold Cf.obj at hn
  obtain ⟨x, hx⟩ : ∃ x, x = eqTB a.ts b.ts := ⟨_, rfl⟩
  rw [← hx] at HE1
  obtain ⟨y, hy⟩ : ∃ y, y = eqSB a.by' b.by' := ⟨_, rfl⟩
  rw [← hy] at HE2
  have HX1 := Lib.hid (fun h : x = true => show a.ts = b.ts by
    rcases Classical.em (a.ts = b.ts) with e | e
    · exact e
    · rw [hx, eqTB_no e] at h; cases h)
  have HX2 := Lib.hid (fun h : x = false => show ¬ a.ts = b.ts from fun e => by rw [hx, eqTB_yes e] at h; cases h)
  have HY1 := Lib.hid (fun h : y = true => show a.by' = b.by' by
    rcases Classical.em (a.by' = b.by') with e | e
    · exact e
    · rw [hy, eqSB_no e] at h; cases h)
  have HY2 := Lib.hid (fun h : y = false => show ¬ a.by' = b.by' from fun e => by rw [hy, eqSB_yes e] at h; cases h)
  clear hx hy
  have HSK := Lib.hid (fun (W : World) (h : Hid (DBox w a b W)) => And.intro h.out.fst h.out.snd)
  unfold Cf.val
  have HQ0 := Lib.hid hn
  clear hn
  go_enter Try.func16, Try.ntmps16
  go_wp2_with fail
  refine (HE1.out _ HQ0).mono ?_
  rintro e w1 ⟨rfl, HQ1⟩
  obtain ⟨⟨a0, a1, a2, a3, a4, a5, a6, a7, a8, a9, a10⟩, b0, b1, b2, b3, b4, b5, b6, b7, b8, b9, b10⟩ := HSK.out _ HQ1
  cases x with
  | false =>
    have HM := Lib.hid (sameB_no (a := a) (b := b) (fun h => HX2.out rfl h.1))
    go_wp2_with fail
    go_ret
    exact ⟨by rw [HM.out]; rfl, HQ1.out.below⟩
  | true =>
    go_wp2_with fail
    refine (HE2.out _ HQ1).mono ?_
    rintro e w2 ⟨rfl, HQ2⟩
    clear a0 a1 a2 a3 a4 a5 a6 a7 a8 a9 a10 b0 b1 b2 b3 b4 b5 b6 b7 b8 b9 b10
    obtain ⟨⟨a0, a1, a2, a3, a4, a5, a6, a7, a8, a9, a10⟩, b0, b1, b2, b3, b4, b5, b6, b7, b8, b9, b10⟩ := HSK.out _ HQ2
    cases y with
    | false =>
      have HM := Lib.hid (sameB_no (a := a) (b := b) (fun h => HY2.out rfl h.2.1))
      go_wp2_with fail
      go_ret
      exact ⟨by rw [HM.out]; rfl, HQ2.out.below⟩
    | true =>
      obtain ⟨z, hz⟩ : ∃ z, z = a.B.isNone := ⟨_, rfl⟩
      obtain ⟨v, hv⟩ : ∃ v, v = b.B.isNone := ⟨_, rfl⟩
      rw [← hz] at na
      rw [← hv] at nb
      have HZ := Lib.hid (show a.B.isNone = b.B.isNone ↔ z = v by rw [hz, hv])
      clear hz hv
      by_cases q : z = v
      · subst q
        have hzz : (z == z) = true := by cases z <;> rfl
        by_cases e0 : a.win = b.win
        · by_cases e1 : a.lat = b.lat
          · by_cases e2 : a.ser = b.ser
            · by_cases e3 : a.wins = b.wins
              · by_cases e4 : a.que = b.que
                · by_cases e5 : a.con = b.con
                  · by_cases e6 : a.bod = b.bod
                    · by_cases e7 : a.base = b.base
                      · by_cases e8 : a.most = b.most
                        · have HM := Lib.hid (sameB_yes (a := a) (b := b) ⟨HX1.out (by first | rfl | trivial), HY1.out (by first | rfl | trivial), HZ.out.2 (by first | rfl | trivial), e0, e1, e2, e3, e4, e5, e6, e7, e8⟩)
                          go_wp2
                          all_goals
                            go_ret
                            exact ⟨by rw [HM.out]; rfl, HQ2.out.below⟩
                        · have HM := Lib.hid (sameB_no (a := a) (b := b) (fun h => e8 h.2.2.2.2.2.2.2.2.2.2.2))
                          have e9 : (a.most == b.most) = false := by simpa using e8
                          go_wp2
                          all_goals
                            go_ret
                            exact ⟨by rw [HM.out]; rfl, HQ2.out.below⟩
                      · have HM := Lib.hid (sameB_no (a := a) (b := b) (fun h => e7 h.2.2.2.2.2.2.2.2.2.2.1))
                        have e9 : (a.base == b.base) = false := by simpa using e7
                        go_wp2
                        all_goals
                          go_ret
                          exact ⟨by rw [HM.out]; rfl, HQ2.out.below⟩
                    · have HM := Lib.hid (sameB_no (a := a) (b := b) (fun h => e6 h.2.2.2.2.2.2.2.2.2.1))
                      have e9 : (a.bod == b.bod) = false := by simpa using e6
                      go_wp2
                      all_goals
                        go_ret
                        exact ⟨by rw [HM.out]; rfl, HQ2.out.below⟩
                  · have HM := Lib.hid (sameB_no (a := a) (b := b) (fun h => e5 h.2.2.2.2.2.2.2.2.1))
                    have e9 : (a.con == b.con) = false := by simpa using e5
                    go_wp2
                    all_goals
                      go_ret
                      exact ⟨by rw [HM.out]; rfl, HQ2.out.below⟩
                · have HM := Lib.hid (sameB_no (a := a) (b := b) (fun h => e4 h.2.2.2.2.2.2.2.1))
                  have e9 : (a.que == b.que) = false := by simpa using e4
                  go_wp2
                  all_goals
                    go_ret
                    exact ⟨by rw [HM.out]; rfl, HQ2.out.below⟩
              · have HM := Lib.hid (sameB_no (a := a) (b := b) (fun h => e3 h.2.2.2.2.2.2.1))
                have e9 : (a.wins == b.wins) = false := by simpa using e3
                go_wp2
                all_goals
                  go_ret
                  exact ⟨by rw [HM.out]; rfl, HQ2.out.below⟩
            · have HM := Lib.hid (sameB_no (a := a) (b := b) (fun h => e2 h.2.2.2.2.2.1))
              have e9 : (a.ser == b.ser) = false := by simpa using e2
              go_wp2
              all_goals
                go_ret
                exact ⟨by rw [HM.out]; rfl, HQ2.out.below⟩
          · have HM := Lib.hid (sameB_no (a := a) (b := b) (fun h => e1 h.2.2.2.2.1))
            have e9 : (a.lat == b.lat) = false := by simpa using e1
            go_wp2
            all_goals
              go_ret
              exact ⟨by rw [HM.out]; rfl, HQ2.out.below⟩
        · have HM := Lib.hid (sameB_no (a := a) (b := b) (fun h => e0 h.2.2.2.1))
          have e9 : (a.win == b.win) = false := by simpa using e0
          go_wp2
          all_goals
            go_ret
            exact ⟨by rw [HM.out]; rfl, HQ2.out.below⟩
      · have hzz : (z == v) = false := by cases z <;> cases v <;> first | rfl | exact absurd rfl q
        have HM := Lib.hid (sameB_no (a := a) (b := b) (fun h => q (HZ.out.1 h.2.2.1)))
        clear q
        go_wp2
        all_goals
          go_ret
          exact ⟨by rw [HM.out]; rfl, HQ2.out.below⟩
end Go.Proofs.Ytnbghappfclnjaa
