/- ConfigCopies' walk, over what the program's Same and the law's known answer. -/
import Derived.Test.YtnbghappfclnjaaCfCst
import Derived.Deep.RegionHeld3
namespace Go.Proofs.Ytnbghappfclnjaa
open Go.RowKit

set_option maxRecDepth 100000 in
set_option maxHeartbeats 8000000 in
theorem copies_law (HS0 : SameP) (HK0 : Known13) (a b : Cf) (w : World) (hr : a.Reads w w.heap.size) (hs : b.Reads w w.heap.size) (hf : a.Fits) (hg : b.Fits) :
    Calls Try.prog 5 #[a.val, b.val] w (Fin w) := by
  have HR := Lib.hid hr
  have HS := Lib.hid hs
  have HMA := Lib.hid (DBox.call (w := w) (a := a) (b := b) (fun W h => much13_any a W (h.reads hr) hf))
  have HMB := Lib.hid (DBox.call (w := w) (a := a) (b := b) (fun W h => much13_any b W (h.reads hs) hg))
  have HK1 := Lib.hid (DBox.call (w := w) (a := a) (b := b) (fun W _ => HK0 W))
  have HS1 := Lib.hid (fun (ha : a.Few) (hb : b.Few) => DBox.call (w := w) (a := a) (b := b) (fun W h => HS0 a b W (h.reads hr) (h.reads hs) ha hb))
  have HS2 := Lib.hid (fun (ha : a.Few) (hb : b.Few) => DBox.call (w := w) (a := a) (b := b) (fun W h => HS0 b a W (h.reads hs) (h.reads hr) hb ha))
  have HRS := Lib.hid (DBox.call (w := w) (a := a) (b := b) (fun W h => rsame13_any a b W (h.reads hr) (h.reads hs)))
  have HSM := Lib.hid HS0
  have HKK := Lib.hid HK0
  have HFA := Lib.hid (fun h : a.much = false => Cf.few' h)
  have HFB := Lib.hid (fun h : b.much = false => Cf.few' h)
  have hn := DBox.new w a b
  clear HS0 HK0 hr hs hf hg
  obtain ⟨ma, hma⟩ : ∃ x, x = a.much := ⟨_, rfl⟩
  obtain ⟨mb, hmb⟩ : ∃ x, x = b.much := ⟨_, rfl⟩
  obtain ⟨z, hz⟩ : ∃ x, x = sameB a b := ⟨_, rfl⟩
  rw [← hma] at HMA HFA
  rw [← hmb] at HMB HFB
  rw [← hz] at HS1 HRS
  rw [sameB_symm a b, ← hz] at HS2
  have hzn : (z != z) = false := by cases z <;> rfl
  clear hma hmb hz
  unfold Cf.val at HMA HMB HS1 HS2 HRS ⊢
  unfold Cf.obj at hn
  go_enter Try.func5, Try.ntmps5
  go_upto_region 1 with fail
  generalize (w.alloc (.cells #[.slice a.A a.ts.length a.cap, .int .i64 a.win, .int .i64 a.lat, .slice a.B a.by'.length a.cb, .int .i64 a.ser, .int .i64 a.wins, .int .i64 a.que, .int .i64 a.con, .int .i64 a.bod, .int .i64 a.base, .int .i64 a.most] 38)).alloc (.cells #[.slice b.A b.ts.length b.cap, .int .i64 b.win, .int .i64 b.lat, .slice b.B b.by'.length b.cb, .int .i64 b.ser, .int .i64 b.wins, .int .i64 b.que, .int .i64 b.con, .int .i64 b.bod, .int .i64 b.base, .int .i64 b.most] 38) = w0 at hn ⊢
  have HQ0 := Lib.hid hn
  obtain ⟨a0, a1, a2, a3, a4, a5, a6, a7, a8, a9, a10⟩ := hn.fst
  obtain ⟨b0, b1, b2, b3, b4, b5, b6, b7, b8, b9, b10⟩ := hn.snd
  clear hn
  have HSK := Lib.hid (fun (w' : World) (hq : Hid (DBox w a b w')) => show w'.cell? ⟨w.heap.size, 0, none⟩ = some (.slice a.A a.ts.length a.cap) ∧ w'.cell? ⟨w.heap.size, 1, none⟩ = some (.int .i64 a.win) ∧ w'.cell? ⟨w.heap.size, 2, none⟩ = some (.int .i64 a.lat) ∧ w'.cell? ⟨w.heap.size, 3, none⟩ = some (.slice a.B a.by'.length a.cb) ∧ w'.cell? ⟨w.heap.size, 4, none⟩ = some (.int .i64 a.ser) ∧ w'.cell? ⟨w.heap.size, 5, none⟩ = some (.int .i64 a.wins) ∧ w'.cell? ⟨w.heap.size, 6, none⟩ = some (.int .i64 a.que) ∧ w'.cell? ⟨w.heap.size, 7, none⟩ = some (.int .i64 a.con) ∧ w'.cell? ⟨w.heap.size, 8, none⟩ = some (.int .i64 a.bod) ∧ w'.cell? ⟨w.heap.size, 9, none⟩ = some (.int .i64 a.base) ∧ w'.cell? ⟨w.heap.size, 10, none⟩ = some (.int .i64 a.most) ∧ w'.cell? ⟨w.heap.size + 1, 0, none⟩ = some (.slice b.A b.ts.length b.cap) ∧ w'.cell? ⟨w.heap.size + 1, 1, none⟩ = some (.int .i64 b.win) ∧ w'.cell? ⟨w.heap.size + 1, 2, none⟩ = some (.int .i64 b.lat) ∧ w'.cell? ⟨w.heap.size + 1, 3, none⟩ = some (.slice b.B b.by'.length b.cb) ∧ w'.cell? ⟨w.heap.size + 1, 4, none⟩ = some (.int .i64 b.ser) ∧ w'.cell? ⟨w.heap.size + 1, 5, none⟩ = some (.int .i64 b.wins) ∧ w'.cell? ⟨w.heap.size + 1, 6, none⟩ = some (.int .i64 b.que) ∧ w'.cell? ⟨w.heap.size + 1, 7, none⟩ = some (.int .i64 b.con) ∧ w'.cell? ⟨w.heap.size + 1, 8, none⟩ = some (.int .i64 b.bod) ∧ w'.cell? ⟨w.heap.size + 1, 9, none⟩ = some (.int .i64 b.base) ∧ w'.cell? ⟨w.heap.size + 1, 10, none⟩ = some (.int .i64 b.most) ∧ Hid (DBox w a b w') from ⟨hq.out.fst.1, hq.out.fst.2.1, hq.out.fst.2.2.1, hq.out.fst.2.2.2.1, hq.out.fst.2.2.2.2.1, hq.out.fst.2.2.2.2.2.1, hq.out.fst.2.2.2.2.2.2.1, hq.out.fst.2.2.2.2.2.2.2.1, hq.out.fst.2.2.2.2.2.2.2.2.1, hq.out.fst.2.2.2.2.2.2.2.2.2.1, hq.out.fst.2.2.2.2.2.2.2.2.2.2, hq.out.snd.1, hq.out.snd.2.1, hq.out.snd.2.2.1, hq.out.snd.2.2.2.1, hq.out.snd.2.2.2.2.1, hq.out.snd.2.2.2.2.2.1, hq.out.snd.2.2.2.2.2.2.1, hq.out.snd.2.2.2.2.2.2.2.1, hq.out.snd.2.2.2.2.2.2.2.2.1, hq.out.snd.2.2.2.2.2.2.2.2.2.1, hq.out.snd.2.2.2.2.2.2.2.2.2.2, hq⟩)
  go_wp2_with fail
  refine (HMA.out _ HQ0).mono ?_
  rintro e w1 ⟨rfl, HQ1⟩
  clear a0 a1 a2 a3 a4 a5 a6 a7 a8 a9 a10 b0 b1 b2 b3 b4 b5 b6 b7 b8 b9 b10
  cases ma with
  | true =>
    go_wp2_with fail
    refine (HK1.out _ HQ1).mono ?_
    rintro e w2 ⟨rfl, HQ2⟩
    go_wp2
    go_ret
    exact ⟨rfl, HQ2.out.below⟩
  | false =>
    obtain ⟨b0, b1, b2, b3, b4, b5, b6, b7, b8, b9, b10⟩ := HQ1.out.snd
    go_wp2_with fail
    refine (HMB.out _ HQ1).mono ?_
    rintro e w2 ⟨rfl, HQ2⟩
    clear b0 b1 b2 b3 b4 b5 b6 b7 b8 b9 b10
    cases mb with
    | true =>
      go_wp2_with fail
      refine (HK1.out _ HQ2).mono ?_
      rintro e w3 ⟨rfl, HQ3⟩
      go_wp2
      go_ret
      exact ⟨rfl, HQ3.out.below⟩
    | false =>
      have HA := Lib.hid (HFA.out (by trivial))
      have HB := Lib.hid (HFB.out (by trivial))
      have HC1 := Lib.hid (HS1.out HA.out HB.out)
      have HC2 := Lib.hid (HS2.out HA.out HB.out)
      have HCX : Hid (∀ u v : Value, (u = (.agg #[.slice a.A a.ts.length a.cap, .int .i64 a.win, .int .i64 a.lat, .slice a.B a.by'.length a.cb, .int .i64 a.ser, .int .i64 a.wins, .int .i64 a.que, .int .i64 a.con, .int .i64 a.bod, .int .i64 a.base, .int .i64 a.most] : Value) ∧ v = (.agg #[.slice b.A b.ts.length b.cap, .int .i64 b.win, .int .i64 b.lat, .slice b.B b.by'.length b.cb, .int .i64 b.ser, .int .i64 b.wins, .int .i64 b.que, .int .i64 b.con, .int .i64 b.bod, .int .i64 b.base, .int .i64 b.most] : Value)) ∨ (u = (.agg #[.slice b.A b.ts.length b.cap, .int .i64 b.win, .int .i64 b.lat, .slice b.B b.by'.length b.cb, .int .i64 b.ser, .int .i64 b.wins, .int .i64 b.que, .int .i64 b.con, .int .i64 b.bod, .int .i64 b.base, .int .i64 b.most] : Value) ∧ v = (.agg #[.slice a.A a.ts.length a.cap, .int .i64 a.win, .int .i64 a.lat, .slice a.B a.by'.length a.cb, .int .i64 a.ser, .int .i64 a.wins, .int .i64 a.que, .int .i64 a.con, .int .i64 a.bod, .int .i64 a.base, .int .i64 a.most] : Value)) → ∀ W, Hid (DBox w a b W) → Calls Try.prog 16 #[u, v] W fun e w' => e = .returned (.bool z) ∧ Hid (DBox w a b w')) := Lib.hid (fun u v huv W hq => by
        rcases huv with ⟨rfl, rfl⟩ | ⟨rfl, rfl⟩
        · exact HC1.out W hq
        · exact HC2.out W hq)
      have HQd : Hid (DBox w a b w2.drew) := Lib.hid HQ2.out.drew
      obtain ⟨a0, a1, a2, a3, a4, a5, a6, a7, a8, a9, a10, b0, b1, b2, b3, b4, b5, b6, b7, b8, b9, b10, -⟩ := HSK.out _ HQ2
      go_wp2_with fail
      go_cut [31] (fun c wx => c = .bool false ∧ Hid (DBox w a b wx))
      case first =>
        refine wp_region_noPanic ?_
        first | go_region_held (fun w' => w'.cell? ⟨w.heap.size, 0, none⟩ = some (.slice a.A a.ts.length a.cap) ∧ w'.cell? ⟨w.heap.size, 1, none⟩ = some (.int .i64 a.win) ∧ w'.cell? ⟨w.heap.size, 2, none⟩ = some (.int .i64 a.lat) ∧ w'.cell? ⟨w.heap.size, 3, none⟩ = some (.slice a.B a.by'.length a.cb) ∧ w'.cell? ⟨w.heap.size, 4, none⟩ = some (.int .i64 a.ser) ∧ w'.cell? ⟨w.heap.size, 5, none⟩ = some (.int .i64 a.wins) ∧ w'.cell? ⟨w.heap.size, 6, none⟩ = some (.int .i64 a.que) ∧ w'.cell? ⟨w.heap.size, 7, none⟩ = some (.int .i64 a.con) ∧ w'.cell? ⟨w.heap.size, 8, none⟩ = some (.int .i64 a.bod) ∧ w'.cell? ⟨w.heap.size, 9, none⟩ = some (.int .i64 a.base) ∧ w'.cell? ⟨w.heap.size, 10, none⟩ = some (.int .i64 a.most) ∧ w'.cell? ⟨w.heap.size + 1, 0, none⟩ = some (.slice b.A b.ts.length b.cap) ∧ w'.cell? ⟨w.heap.size + 1, 1, none⟩ = some (.int .i64 b.win) ∧ w'.cell? ⟨w.heap.size + 1, 2, none⟩ = some (.int .i64 b.lat) ∧ w'.cell? ⟨w.heap.size + 1, 3, none⟩ = some (.slice b.B b.by'.length b.cb) ∧ w'.cell? ⟨w.heap.size + 1, 4, none⟩ = some (.int .i64 b.ser) ∧ w'.cell? ⟨w.heap.size + 1, 5, none⟩ = some (.int .i64 b.wins) ∧ w'.cell? ⟨w.heap.size + 1, 6, none⟩ = some (.int .i64 b.que) ∧ w'.cell? ⟨w.heap.size + 1, 7, none⟩ = some (.int .i64 b.con) ∧ w'.cell? ⟨w.heap.size + 1, 8, none⟩ = some (.int .i64 b.bod) ∧ w'.cell? ⟨w.heap.size + 1, 9, none⟩ = some (.int .i64 b.base) ∧ w'.cell? ⟨w.heap.size + 1, 10, none⟩ = some (.int .i64 b.most) ∧ Hid (DBox w a b w')) (first | exact HSK.out _ HQd | (refine HSK.out _ ?_; assumption) | (refine HSK.out _ ?_; go_split_ands; assumption)) ((first | (go_at_call 17; refine (HRS.out _ (by go_split_ands; assumption)).mono ?_; rintro e w3 ⟨rfl, hq3⟩) | (go_at_call 16; refine (HCX.out _ _ (by first | exact .inl ⟨rfl, rfl⟩ | exact .inr ⟨rfl, rfl⟩) _ (by go_split_ands; assumption)).mono ?_; rintro e w4 ⟨rfl, hq4⟩))) | fail "region"
        all_goals
          refine NoPanic.normal ?_
          go_wp2
          go_meet
          exact ⟨by first | rfl | simp, by assumption⟩
      case rest =>
      obtain ⟨rfl, HQ3⟩ := hcut
      clear a0 a1 a2 a3 a4 a5 a6 a7 a8 a9 a10 b0 b1 b2 b3 b4 b5 b6 b7 b8 b9 b10
      obtain ⟨a0, a1, a2, a3, a4, a5, a6, a7, a8, a9, a10, b0, b1, b2, b3, b4, b5, b6, b7, b8, b9, b10, -⟩ := HSK.out _ HQ3
      go_wp2_with fail
      clear a0 a1 a2 a3 a4 a5 a6 a7 a8 a9 a10 b0 b1 b2 b3 b4 b5 b6 b7 b8 b9 b10
      go_upto_region 5 with fail
      refine region5_any w a b HR.out HA.out _ _ _ _ _ _ _ _ _ _ _ _ _ _ _ _ _ _ _ _ _ _ _ _ _ _ _ _ _ _ _ _ _ _ _ _ _ _ _ _ _ _ _ _ _ _ _ _ _ _ _ _ _ _ _ _ _ _ _ _ _ _ _ _ _ _ _ _ _ _ _ _ _ _ _ _ _ _ _ _ _ _ _ _ _ HQ3.out (fun c d n1 m1 n2 m2 p5 p6 X hR => ?_)
      have HR5 := Lib.hid hR
      clear hR
      have HSC := Lib.hid (show SameC c a from (HR5.out.r1 rfl).1.same)
      have HSD := Lib.hid (show SameC d a from (HR5.out.r3 rfl).2.1.same)
      have HC0 := Lib.hid (fun X' (hb : Below X.heap.size X X') => ((Cst.of HR5.out HA.out).next hb))
      have HRC := Lib.hid (fun X' (hb : Below X.heap.size X X') => ((HR5.out.r1 rfl).1.turns (Turns.of_below hb (Nat.le_refl _)) (by simp)).reads (Nat.le_trans (HR5.out.r1 rfl).2.2.2 hb.size))
      have HFC := Lib.hid (show c.Few from ⟨by rw [HSC.out.1]; exact HA.out.ts, by rw [HSC.out.2.1]; exact HA.out.by', by rw [HSC.out.1]; exact HA.out.sz, by rw [HSC.out.2.1]; exact HA.out.szb⟩)
      have HX0 := Lib.hid (HC0.out X (Below.refl _ _))
      have HT1 := Lib.hid (rsame13_any c a X (HRC.out X (Below.refl _ _)) (HX0.out.box.reads HR.out))
      have HT2 := Lib.hid (fun X' (hb : Below X.heap.size X X') => HSM.out c a X' (HRC.out X' hb) ((HC0.out X' hb).box.reads HR.out) HFC.out HA.out)
      rw [sameB_yes HSC.out] at HT1 HT2
      unfold Cf.val at HT1 HT2
      obtain ⟨a0, a1, a2, a3, a4, a5, a6, a7, a8, a9, a10⟩ := HX0.out.box.fst
      obtain ⟨e0, e1, e2, e3, e4, e5, e6, e7, e8, e9, e10⟩ := HX0.out.f5.at'
      unfold Cf.val
      go_wp2_with fail
      refine HT1.out.mono ?_
      rintro e w1 ⟨rfl, hb1⟩
      have HX1 := Lib.hid (HC0.out w1 hb1)
      have HT3 := Lib.hid (HT2.out w1 hb1)
      clear hb1 a0 a1 a2 a3 a4 a5 a6 a7 a8 a9 a10 e0 e1 e2 e3 e4 e5 e6 e7 e8 e9 e10
      obtain ⟨a0, a1, a2, a3, a4, a5, a6, a7, a8, a9, a10⟩ := HX1.out.box.fst
      obtain ⟨e0, e1, e2, e3, e4, e5, e6, e7, e8, e9, e10⟩ := HX1.out.f5.at'
      go_wp2_with fail
      refine HT3.out.mono ?_
      rintro e w2 ⟨rfl, hb2⟩
      have HX2 := Lib.hid (HX1.out.next hb2)
      clear hb2 a0 a1 a2 a3 a4 a5 a6 a7 a8 a9 a10 e0 e1 e2 e3 e4 e5 e6 e7 e8 e9 e10 hzn
      go_wp2_with fail
      go_loopw [7] (fun i wr => ∃ k : Nat, k ≤ c.ts.length ∧ i = .int .i64 k ∧ Hid (Cst w a b c d n1 m1 n2 m2 p5 p6 0 wr)) (fun i _ => c.ts.length - (intOf i).toNat)
      case atStart => exact ⟨0, Nat.zero_le _, rfl, HX2⟩
      case round =>
        obtain ⟨k, hk, rfl, HX⟩ := hrel
        obtain ⟨e0, e1, e2, e3, e4, e5, e6, e7, e8, e9, e10⟩ := HX.out.f5.at'
        have l1 : (c.ts.length : Int) ≤ 1000 := by have := HX.out.few.1; have := HX.out.few.2.1; omega
        by_cases hlt : k < c.ts.length
        · obtain ⟨ad, hA⟩ : ∃ ad, c.A = some ad := by
            cases e : c.A with
            | none => rw [HX.out.nA e] at hlt; simp at hlt
            | some ad => exact ⟨ad, rfl⟩
          obtain ⟨g, l', rfl, g1, g2, hl, hF⟩ := HX.out.ct ad hA
          obtain ⟨t, ht⟩ : ∃ t, l'[k]? = some t := ⟨_, List.getElem?_eq_getElem (by omega)⟩
          have q3 := hF.cell (EK.flat_at tOk ht 3 _ rfl)
          simp only [tK] at q3
          have qf := hF.frozen
          have HS := Lib.hid (fun x => HX.out.setT hA ⟨g1, g2⟩ hl hF ht x)
          rw [hA] at e0
          have hlt' : (k : Int) < (c.ts.length : Int) := by omega
          have hk0 : (0 : Int) ≤ (k : Int) := by omega
          clear hA g1 g2 hl hF ht
          go_wp2_with fail
          go_roundw
          case rel => exact ⟨k + 1, by omega, by go_num, Lib.hid (HS.out _)⟩
          case measure => simp [intOf] <;> omega
        · have hge : decide ((k : Int) < (c.ts.length : Int)) = false := by rw [decide_eq_false_iff_not]; omega
          have hge2 : ¬ ((k : Int) < (c.ts.length : Int)) := by omega
          go_wp2_with fail
          clear hlt hge hge2 e0 e1 e2 e3 e4 e5 e6 e7 e8 e9 e10
          go_loopw [8] (fun i wq => ∃ k : Nat, k ≤ c.by'.length ∧ i = .int .i64 k ∧ Hid (Cst w a b c d n1 m1 n2 m2 p5 p6 k wq)) (fun i _ => c.by'.length - (intOf i).toNat)
          case atStart => exact ⟨0, Nat.zero_le _, rfl, HX⟩
          case round =>
            obtain ⟨m, hm, rfl, HY⟩ := hrel
            obtain ⟨e0, e1, e2, e3, e4, e5, e6, e7, e8, e9, e10⟩ := HY.out.f5.at'
            have l2 : (c.by'.length : Int) ≤ 1000 := by have := HY.out.few.2.2.1; have := HY.out.few.2.2.2; omega
            by_cases hlt : m < c.by'.length
            · obtain ⟨ad, hA⟩ : ∃ ad, c.B = some ad := by
                cases e : c.B with
                | none => rw [HY.out.nB e] at hlt; simp at hlt
                | some ad => exact ⟨ad, rfl⟩
              obtain ⟨g, l', rfl, g1, g2, hl, hF, hs⟩ := HY.out.cb ad hA
              obtain ⟨u, hu⟩ : ∃ u, l'[m]? = some u := ⟨_, List.getElem?_eq_getElem (by omega)⟩
              have q3 := hF.cell (EK.flat_at bOk hu 0 _ rfl)
              simp only [bK, Nat.add_zero, Nat.mul_one] at q3
              have qf := hF.frozen
              have hus := hs m u (Nat.le_refl _) hu
              have hsum : u.size + 1 ≤ 9223372036854775807 := by omega
              have HS := Lib.hid (HY.out.setB hA ⟨g1, g2⟩ hl hF hs (u ++ ⟨#[120]⟩))
              have HSd := Lib.hid (show Cst w a b c d n1 m1 n2 m2 p5 p6 (m + 1) (wr.drew.setCell ⟨g, m, none⟩ (.string (u ++ ⟨#[120]⟩))) from (HY.out.next ((Below.refl _ _).drew)).setB hA ⟨g1, g2⟩ hl hF hs (u ++ ⟨#[120]⟩))
              rw [hA] at e3
              have hlt' : (m : Int) < (c.by'.length : Int) := by omega
              have hk0 : (0 : Int) ≤ (m : Int) := by omega
              clear hA g1 g2 hl hF hs hu
              go_wp2_with fail
              go_region
              go_wp2
              go_roundw
              case rel => exact ⟨m + 1, by omega, by go_num, HSd⟩
              case measure => simp [intOf] <;> omega
            · have hge : decide ((m : Int) < (c.by'.length : Int)) = false := by rw [decide_eq_false_iff_not]; omega
              have hge2 : ¬ ((m : Int) < (c.by'.length : Int)) := by omega
              have HD := Lib.hid (rsame13_any d a wr (HY.out.rd.reads HY.out.num.2.2) (HY.out.box.reads HR.out))
              rw [sameB_yes HSD.out] at HD
              unfold Cf.val at HD
              clear hlt e0 e1 e2 e3 e4 e5 e6 e7 e8 e9 e10
              obtain ⟨e0, e1, e2, e3, e4, e5, e6, e7, e8, e9, e10⟩ := HY.out.f5.at'
              obtain ⟨a0, a1, a2, a3, a4, a5, a6, a7, a8, a9, a10⟩ := HY.out.box.fst
              obtain ⟨d0, d1, d2, d3, d4, d5, d6, d7, d8, d9, d10⟩ := HY.out.f6.at'
              go_wp2_with fail
              refine HD.out.mono ?_
              rintro e w4 ⟨rfl, hb4⟩
              have HB4 := Lib.hid (HY.out.box.next hb4)
              clear hb4 hge hge2 a0 a1 a2 a3 a4 a5 a6 a7 a8 a9 a10 e0 e1 e2 e3 e4 e5 e6 e7 e8 e9 e10 d0 d1 d2 d3 d4 d5 d6 d7 d8 d9 d10
              go_wp2_with fail
              refine (HK1.out _ HB4).mono ?_
              rintro e w5 ⟨rfl, HB5⟩
              go_wp2
              go_ret
              exact ⟨rfl, HB5.out.below⟩
end Go.Proofs.Ytnbghappfclnjaa
