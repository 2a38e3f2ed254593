/- WheelCopies, walked. -/
import Derived.Test.YtaepgcicgmbbeaaWhBoth
namespace Go.Proofs.Ytaepgcicgmbbeaa
open Go.RowKit

set_option maxRecDepth 100000 in
set_option maxHeartbeats 4000000 in
theorem copies_early (A0 A1 A2 : Option Addr) (c0 c1 c2 n0 n1 n2 : Nat) (w : World) (h : 40 < n0 ∨ 20 < n1 ∨ 20 < n2) :
    Calls Try.prog 4 #[.slice A0 n0 c0, .slice A1 n1 c1, .slice A2 n2 c2] w (Fin w) := by
  have HK := Lib.hid (known_any w)
  by_cases h0 : 40 < n0
  · have e1 : decide ((40 : Int) < (n0 : Int)) = true := by simp; omega
    clear h h0
    go_enter Try.func4, Try.ntmps4
    go_wp2_with fail
    refine (Hid.out HK).mono ?_
    rintro e w1 ⟨rfl, t1⟩
    have HT := Lib.hid t1
    clear t1
    go_wp2
    go_ret
    exact ⟨rfl, HT.out⟩
  · have e1 : decide ((40 : Int) < (n0 : Int)) = false := by simp; omega
    by_cases h1 : 20 < n1
    · have e2 : decide ((20 : Int) < (n1 : Int)) = true := by simp; omega
      clear h h0 h1
      go_enter Try.func4, Try.ntmps4
      go_wp2_with fail
      refine (Hid.out HK).mono ?_
      rintro e w1 ⟨rfl, t1⟩
      have HT := Lib.hid t1
      clear t1
      go_wp2
      go_ret
      exact ⟨rfl, HT.out⟩
    · have e2 : decide ((20 : Int) < (n1 : Int)) = false := by simp; omega
      have e3 : decide ((20 : Int) < (n2 : Int)) = true := by simp; omega
      clear h h0 h1
      go_enter Try.func4, Try.ntmps4
      go_wp2_with fail
      refine (Hid.out HK).mono ?_
      rintro e w1 ⟨rfl, t1⟩
      have HT := Lib.hid t1
      clear t1
      go_wp2
      go_ret
      exact ⟨rfl, HT.out⟩
/-- An act of a list, as it lies in any later world. -/
theorem act_at {w : World} {A : Option Addr} {l : List Ac} (hr : aK.Reads w w.heap.size A l) {k : Nat} {x : Ac} (hx : l[k]? = some x) :
    ∃ b o, A = some ⟨b, o, none⟩ ∧ ∀ Y, Turns [] w Y → Y.cell? ⟨b, o + k * 3, none⟩ = some (.int .i64 x.1) ∧ Y.cell? ⟨b, o + k * 3 + 1, none⟩ = some (.int .i64 x.2.1) ∧ Y.cell? ⟨b, o + k * 3 + 2, none⟩ = some (.int .i64 x.2.2) := by
  obtain ⟨b, o, e, hb, hcl⟩ := hr.at aOk (by have := (List.getElem?_eq_some_iff.1 hx).1; omega)
  exact ⟨b, o, e, fun Y ht => ⟨(ht.cell hb (by simp) _).trans (hcl k x hx 0 _ rfl), (ht.cell hb (by simp) _).trans (hcl k x hx 1 _ rfl), (ht.cell hb (by simp) _).trans (hcl k x hx 2 _ rfl)⟩⟩
set_option maxRecDepth 100000 in
set_option maxHeartbeats 16000000 in
theorem copies_main (A0 A1 A2 : Option Addr) (c0 c1 c2 : Nat) (l m o : List Ac) (w : World) (hl : l.length ≤ 40) (hm : m.length ≤ 20) (ho : o.length ≤ 20) (hr : aK.Reads w w.heap.size A0 l) (hr1 : aK.Reads w w.heap.size A1 m) (hr2 : aK.Reads w w.heap.size A2 o) (ha : Acts l) (ha1 : Acts m) (ha2 : Acts o) :
    Calls Try.prog 4 #[.slice A0 l.length c0, .slice A1 m.length c1, .slice A2 o.length c2] w (Fin w) := by
  have e1 : decide ((40 : Int) < (l.length : Int)) = false := by simp; omega
  have e2 : decide ((20 : Int) < (m.length : Int)) = false := by simp; omega
  have e3 : decide ((20 : Int) < (o.length : Int)) = false := by simp; omega
  have HN := Lib.hid (lone_new (w := w) (W := w) 0 (Turns.refl _ _))
  have HR := Lib.hid (And.intro hr (And.intro hr1 hr2))
  have HA := Lib.hid (And.intro ha (And.intro ha1 ha2))
  have HLE := Lib.hid (And.intro hl (And.intro hm ho))
  clear hl hm ho hr hr1 hr2 ha ha1 ha2
  go_enter Try.func4, Try.ntmps4
  go_wp2_with fail
  refine (Hid.out HN).mono ?_
  rintro e W1 ⟨rfl, h1⟩
  have HP0 := Lib.hid (pair_start h1)
  clear h1 HN e1 e2 e3
  go_wp2
  go_loopw [9] (fun u wr => ∃ k : Nat, u = .int .i64 (k : Int) ∧ k ≤ l.length ∧ Hid (∃ T' L, PairW (.plain w) wr w.heap.size W1.heap.size T' L ∧ WOk T' L ∧ L.length ≤ k)) (fun u _ => l.length - (intOf u).toNat)
  case atStart => exact ⟨0, rfl, Nat.zero_le _, Lib.hid ⟨0, [], HP0.out, w0, Nat.le_refl _⟩⟩
  case round =>
    obtain ⟨k, rfl, hk, HQ⟩ := hrel
    obtain ⟨T', L, q1, q2, q3⟩ := HQ.out
    by_cases hlt : k < l.length
    · obtain ⟨x, hx⟩ : ∃ x, l[k]? = some x := ⟨_, List.getElem?_eq_getElem hlt⟩
      obtain ⟨b, off, rfl, hcx⟩ := act_at HR.out.1 hx
      obtain ⟨d0, d1, d2⟩ := hcx wr q1.turns
      have hax := HA.out.1 x (List.mem_of_getElem? hx)
      have HDO := Lib.hid (do_any q1 q2 (by have := HLE.out.1; omega) x hax)
      have HWK := Lib.hid (wrapS (i := k) (by have := HLE.out.1; omega))
      have HKL := Lib.hid hlt
      have HQ3 := Lib.hid q3
      have f2 : (k : Int) < (l.length : Int) := by omega
      have f3 : (0 : Int) ≤ (k : Int) := by omega
      clear hx hax q1 q2 q3 hlt HQ hcx HP0
      go_wp2_with fail
      refine (Hid.out HDO).mono ?_
      rintro e Y ⟨rfl, T2, L2, p1, p2, p3⟩
      have HP1 := Lib.hid (And.intro p1 (And.intro p2 p3))
      clear p1 p2 p3 d0 d1 d2 HDO
      go_wp2
      go_roundw
      case rel => exact ⟨k + 1, congrArg (Value.int .i64) HWK.out, HKL.out, Lib.hid ⟨T2, L2, HP1.out.1, HP1.out.2.1, by have := HP1.out.2.2; have := HQ3.out; omega⟩⟩
      case measure => exact measS HKL.out HWK.out
    · have hge : decide ((k : Int) < (l.length : Int)) = false := by simp; omega
      have HC := Lib.hid (pair_copy q1 q2 (by have := HLE.out.1; omega))
      have HOK := Lib.hid q2
      have HL := Lib.hid (show L.length ≤ 40 by have := HLE.out.1; omega)
      clear q1 q2 q3 HQ HP0
      go_wp2_with fail
      refine (Hid.out HC).mono ?_
      rintro e W2 ⟨b2, rfl, hmid⟩
      clear hge hlt hk
      have HM := Lib.hid (mid_copy hmid (by have := HL.out; omega))
      clear hmid HC
      go_wp2_with fail
      refine (Hid.out HM).mono ?_
      rintro e W3 ⟨v2, rfl, hb⟩
      have HB := Lib.hid hb
      have HS1 := Lib.hid (both_same hb HOK.out HOK.out (by have := HL.out; omega))
      rw [decide_eq_true (show T' = T' ∧ L = L from ⟨rfl, rfl⟩)] at HS1
      clear hb HM
      go_wp2_with fail
      refine (Hid.out HS1).mono ?_
      rintro e W4 ⟨rfl, t4⟩
      have HB4 := Lib.hid (HB.out.pre t4)
      have HS2 := Lib.hid (both_same (HB.out.pre t4).swap HOK.out HOK.out (by have := HL.out; omega))
      rw [decide_eq_true (show T' = T' ∧ L = L from ⟨rfl, rfl⟩)] at HS2
      clear t4 HS1 HB
      go_wp2_with fail
      refine (Hid.out HS2).mono ?_
      rintro e W5 ⟨rfl, t5⟩
      have HB5 := Lib.hid (HB4.out.pre t5)
      clear t5 HS2 HB4
      have HL0 := Lib.hid (show l.length ≤ 40 from HLE.out.1)
      generalize l.length = nn at *
      go_wp2
      go_loopw [12] (fun u wr => ∃ k : Nat, u = .int .i64 (k : Int) ∧ k ≤ m.length ∧ Hid (∃ T1 L1, BothW w wr w.heap.size W1.heap.size T1 L1 b2 v2 T' L ∧ WOk T1 L1 ∧ L1.length ≤ 40 + k)) (fun u _ => m.length - (intOf u).toNat)
      case atStart => exact ⟨0, rfl, Nat.zero_le _, Lib.hid ⟨T', L, HB5.out, HOK.out, HL.out⟩⟩
      case round =>
        obtain ⟨k, rfl, hk, HQ⟩ := hrel
        obtain ⟨T1, L1, q1, q2, q3⟩ := HQ.out
        by_cases hlt : k < m.length
        · obtain ⟨x, hx⟩ : ∃ x, m[k]? = some x := ⟨_, List.getElem?_eq_getElem hlt⟩
          obtain ⟨b, off, rfl, hcx⟩ := act_at HR.out.2.1 hx
          obtain ⟨d0, d1, d2⟩ := hcx wr q1.turns
          have hax := HA.out.2.1 x (List.mem_of_getElem? hx)
          have HDO := Lib.hid (both_do q1 q2 (by have := HLE.out.2.1; omega) x hax)
          have HWK := Lib.hid (wrapS (i := k) (by have := HLE.out.2.1; omega))
          have HKL := Lib.hid hlt
          have HQ3 := Lib.hid q3
          have f2 : (k : Int) < (m.length : Int) := by omega
          have f3 : (0 : Int) ≤ (k : Int) := by omega
          clear hx hax q1 q2 q3 hlt HQ hcx
          go_wp2_with fail
          refine (Hid.out HDO).mono ?_
          rintro e Y ⟨rfl, T2, L2, p1, p2, p3⟩
          have HP1 := Lib.hid (And.intro p1 (And.intro p2 p3))
          clear p1 p2 p3 d0 d1 d2 HDO
          go_wp2
          go_roundw
          case rel => exact ⟨k + 1, congrArg (Value.int .i64) HWK.out, HKL.out, Lib.hid ⟨T2, L2, HP1.out.1, HP1.out.2.1, by have := HP1.out.2.2; have := HQ3.out; omega⟩⟩
          case measure => exact measS HKL.out HWK.out
        · have hge : decide ((k : Int) < (m.length : Int)) = false := by simp; omega
          have HB1 := Lib.hid q1
          have HOK1 := Lib.hid q2
          have HL1 := Lib.hid (show L1.length ≤ 60 by have := HLE.out.2.1; omega)
          have HLM := Lib.hid (show m.length ≤ 20 from HLE.out.2.1)
          clear q1 q2 q3 HQ HB5
          go_wp2
          clear hge hlt hk
          generalize m.length = mm at *
          go_loopw [13] (fun u wr => ∃ k : Nat, u = .int .i64 (k : Int) ∧ k ≤ o.length ∧ Hid (∃ T2 L2, BothW w wr w.heap.size W1.heap.size T1 L1 b2 v2 T2 L2 ∧ WOk T2 L2 ∧ L2.length ≤ 40 + k)) (fun u _ => o.length - (intOf u).toNat)
          case atStart => exact ⟨0, rfl, Nat.zero_le _, Lib.hid ⟨T', L, HB1.out, HOK.out, HL.out⟩⟩
          case round =>
            obtain ⟨k, rfl, hk, HQ⟩ := hrel
            obtain ⟨T2, L2, q1, q2, q3⟩ := HQ.out
            by_cases hlt : k < o.length
            · obtain ⟨x, hx⟩ : ∃ x, o[k]? = some x := ⟨_, List.getElem?_eq_getElem hlt⟩
              obtain ⟨b, off, rfl, hcx⟩ := act_at HR.out.2.2 hx
              obtain ⟨d0, d1, d2⟩ := hcx wr q1.turns
              have hax := HA.out.2.2 x (List.mem_of_getElem? hx)
              have HDO := Lib.hid (both_do q1.swap q2 (by have := HLE.out.2.2; omega) x hax)
              have HWK := Lib.hid (wrapS (i := k) (by have := HLE.out.2.2; omega))
              have HKL := Lib.hid hlt
              have HQ3 := Lib.hid q3
              have f2 : (k : Int) < (o.length : Int) := by omega
              have f3 : (0 : Int) ≤ (k : Int) := by omega
              clear hx hax q1 q2 q3 hlt HQ hcx
              go_wp2_with fail
              refine (Hid.out HDO).mono ?_
              rintro e Y ⟨rfl, T3, L3, p1, p2, p3⟩
              have HP1 := Lib.hid (And.intro p1.swap (And.intro p2 p3))
              clear p1 p2 p3 d0 d1 d2 HDO
              go_wp2
              go_roundw
              case rel => exact ⟨k + 1, congrArg (Value.int .i64) HWK.out, HKL.out, Lib.hid ⟨T3, L3, HP1.out.1, HP1.out.2.1, by have := HP1.out.2.2; have := HQ3.out; omega⟩⟩
              case measure => exact measS HKL.out HWK.out
            · have hge : decide ((k : Int) < (o.length : Int)) = false := by simp; omega
              have HB2 := Lib.hid q1
              have HOK2 := Lib.hid q2
              have HL2 := Lib.hid (show L2.length ≤ 60 by have := HLE.out.2.2; omega)
              clear q1 q2 q3 HQ HB1 HR HA HLE
              obtain ⟨al, B1, B2, n1, n2, d1, d2, hcs, hrs, hno, hs1, hs2⟩ := both_alike HB2.out HOK1.out HOK2.out (by have := HL1.out; omega) (by have := HL2.out; omega)
              have HLK1 := Lib.hid (fun Y (ht : Turns [] wr Y) => look_any (HB2.out.pre ht).pair HOK1.out (by have := HL1.out; omega) 1 (by omega))
              have HLK2 := Lib.hid (fun Y (ht : Turns [] wr Y) => look_any (HB2.out.pre ht).swap.pair HOK2.out (by have := HL2.out; omega) 1 (by omega))
              have HCS := Lib.hid hcs
              have HSA1 := Lib.hid hs1
              have HSA2 := Lib.hid hs2
              have HTT := Lib.hid HB2.out.turns
              by_cases hT : T1 = T2
              · have ht : (T1 == T2) = true := by simpa using hT
                have HRS := Lib.hid (hrs hT)
                clear hcs hrs hno hs1 hs2 hT
                go_wp2_with fail
                clear hge hlt hk
                obtain ⟨r0, r1, r2, r3⟩ := HCS.out wr (Turns.refl _ _)
                go_quiet ((go_at_call 14; exact Calls.quiet_of (HRS.out _ ((Turns.refl [] wr).drewN _))))
                have HT2 := Lib.hid ((Turns.refl [] wr).drewN nq)
                clear r0 r1 r2 r3
                go_wp2_with fail
                refine (HLK1.out _ HT2.out).mono ?_
                rintro e X3 ⟨rfl, t3⟩
                have HT3 := Lib.hid (HT2.out.then t3)
                clear t3
                go_wp2_with fail
                refine (HLK2.out _ HT3.out).mono ?_
                rintro e X4 ⟨rfl, t4⟩
                have HT4 := Lib.hid (HT3.out.then t4)
                clear t4
                go_wp2_with fail
                refine (HSA1.out _ HT4.out).mono ?_
                rintro e X5 ⟨rfl, t5⟩
                have HT5 := Lib.hid (HT4.out.then t5)
                clear t5
                go_wp2_with fail
                refine (HSA2.out _ HT5.out).mono ?_
                rintro e X6 ⟨rfl, t6⟩
                have HT6 := Lib.hid (HT5.out.then t6)
                have HK := Lib.hid (known_any X6)
                clear t6
                go_wp2_with fail
                refine (Hid.out HK).mono ?_
                rintro e X7 ⟨rfl, t7⟩
                have HT7 := Lib.hid (HT6.out.then t7)
                clear t7
                go_wp2
                go_ret
                exact ⟨by first | rfl | simp, HTT.out.then HT7.out⟩
              · have ht : (T1 == T2) = false := by simpa using hT
                have hal := hno hT
                subst hal
                clear hcs hrs hno hs1 hs2 hT
                go_wp2_with fail
                clear hge hlt hk
                obtain ⟨r0, r1, r2, r3⟩ := HCS.out wr (Turns.refl _ _)
                go_quiet (fail)
                have HT2 := Lib.hid ((Turns.refl [] wr).drewN nq)
                clear r0 r1 r2 r3
                go_wp2_with fail
                refine (HLK1.out _ HT2.out).mono ?_
                rintro e X3 ⟨rfl, t3⟩
                have HT3 := Lib.hid (HT2.out.then t3)
                clear t3
                go_wp2_with fail
                refine (HLK2.out _ HT3.out).mono ?_
                rintro e X4 ⟨rfl, t4⟩
                have HT4 := Lib.hid (HT3.out.then t4)
                clear t4
                go_wp2_with fail
                refine (HSA1.out _ HT4.out).mono ?_
                rintro e X5 ⟨rfl, t5⟩
                have HT5 := Lib.hid (HT4.out.then t5)
                clear t5
                go_wp2_with fail
                refine (HSA2.out _ HT5.out).mono ?_
                rintro e X6 ⟨rfl, t6⟩
                have HT6 := Lib.hid (HT5.out.then t6)
                have HK := Lib.hid (known_any X6)
                clear t6
                go_wp2_with fail
                refine (Hid.out HK).mono ?_
                rintro e X7 ⟨rfl, t7⟩
                have HT7 := Lib.hid (HT6.out.then t7)
                clear t7
                go_wp2
                go_ret
                exact ⟨by first | rfl | simp, HTT.out.then HT7.out⟩
end Go.Proofs.Ytaepgcicgmbbeaa
