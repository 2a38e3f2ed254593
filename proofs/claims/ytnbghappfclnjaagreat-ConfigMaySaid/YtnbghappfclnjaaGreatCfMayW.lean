/- ConfigMay's walk, over what the program's May, MayTarget and the law's known answer. -/
import Derived.Test.YtnbghappfclnjaaGreatCfRMay
import Derived.Test.YtnbghappfclnjaaGreatCfMuch
import Derived.Deep.RegionHeld3
namespace Go.Proofs.YtnbghappfclnjaaGreat
open Go.RowKit

structure Cf.Few (c : Cf) : Prop where
  ts : c.ts.length ≤ 20
  by' : c.by'.length ≤ 20
  sz : ∀ t ∈ c.ts, t.size ≤ 6000
  szb : ∀ s ∈ c.by', s.size ≤ 6000
def MayTP : Prop := ∀ (t : Tg) (W : World), t.size ≤ 6000 → Calls Tryz.prog 6 #[t.val] W fun e w' => e = .returned (.bool t.may) ∧ Below W.heap.size W w'
def MayP : Prop := ∀ (c : Cf) (W : World), c.Reads W W.heap.size → c.Few → Calls Tryz.prog 8 #[c.val] W fun e w' => e = .returned (.int .i64 (mayC c)) ∧ Below W.heap.size W w'
/-- A config's box is there, and all ahead of it is as it was. -/
structure CBox (w : World) (c : Cf) (w' : World) : Prop where
  at_ : CfAt w' w.heap.size c
  below : Below w.heap.size w w'
  more : w.heap.size < w'.heap.size
theorem CBox.next {w W W' : World} {c : Cf} (h : CBox w c W) (hb : Below W.heap.size W W') : CBox w c W' :=
  ⟨h.at_.below hb h.more, h.below.trans (hb.mono (Nat.le_of_lt h.more)), Nat.lt_of_lt_of_le h.more hb.size⟩
theorem CBox.drew {w W : World} {c : Cf} (h : CBox w c W) : CBox w c W.drew := ⟨h.at_, h.below.drew, h.more⟩
theorem CBox.call {w : World} {c : Cf} {f : Nat} {args : Array Value} {v : Ending} (h : ∀ W, Calls Tryz.prog f args W fun e w' => e = v ∧ Below W.heap.size W w') (W : World) (hq : Hid (CBox w c W)) : Calls Tryz.prog f args W fun e w' => e = v ∧ Hid (CBox w c w') :=
  (h W).mono fun _ _ ⟨h1, h2⟩ => ⟨h1, hq.out.next h2⟩
theorem CBox.callR {w : World} {c : Cf} {f : Nat} {args : Array Value} {v : Ending} (hr : c.Reads w w.heap.size) (h : ∀ W, c.Reads W W.heap.size → Calls Tryz.prog f args W fun e w' => e = v ∧ Below W.heap.size W w') (W : World) (hq : Hid (CBox w c W)) : Calls Tryz.prog f args W fun e w' => e = v ∧ Hid (CBox w c w') :=
  (h W ((hr.below hq.out.below).more (Nat.le_of_lt hq.out.more))).mono fun _ _ ⟨h1, h2⟩ => ⟨h1, hq.out.next h2⟩
theorem CBox.new (w : World) (c : Cf) : CBox w c (w.alloc c.obj) := ⟨CfAt.new w c, (Below.refl w.heap.size w).alloc (Nat.le_refl _) c.obj, by simp⟩
/-- .. and one of its targets. -/
theorem CBox.one {w W : World} {c : Cf} (hr : c.Reads w w.heap.size) (h : CBox w c W) {k : Nat} {t : Tg} (ht : c.ts[k]? = some t) {b off : Nat} (hA : c.A = some ⟨b, off, none⟩) :
    W.cell? ⟨b, off + k * 5, none⟩ = some (.string t.job) ∧ W.cell? ⟨b, off + k * 5 + 1, none⟩ = some (.string t.host) ∧ W.cell? ⟨b, off + k * 5 + 2, none⟩ = some (.string t.path) ∧ W.cell? ⟨b, off + k * 5 + 3, none⟩ = some (.int .i64 t.iv) ∧ W.cell? ⟨b, off + k * 5 + 4, none⟩ = some (.int .i64 t.tm) := by
  have hl := (List.getElem?_eq_some_iff.1 ht).1
  obtain ⟨b', off', hA', hb, hc⟩ := (hr.ts.below h.below).at tOk (by omega)
  rw [hA] at hA'
  cases hA'
  have c0 := hc k t ht 0 _ rfl
  have c1 := hc k t ht 1 _ rfl
  have c2 := hc k t ht 2 _ rfl
  have c3 := hc k t ht 3 _ rfl
  have c4 := hc k t ht 4 _ rfl
  simp only [tK, Nat.add_zero] at c0 c1 c2 c3 c4
  rw [← Nat.add_assoc] at c1 c2 c3 c4
  exact ⟨c0, c1, c2, c3, c4⟩
set_option maxRecDepth 100000 in
set_option maxHeartbeats 4000000 in
theorem may_law (HT0 : MayTP) (HM0 : MayP) (HK0 : Known13) (c : Cf) (w : World) (hr : c.Reads w w.heap.size) (hf : c.Fits) :
    Calls Tryz.prog 3 #[c.val] w (Fin w) := by
  have HR := Lib.hid hr
  have HMU := Lib.hid (CBox.callR (w := w) hr (fun W h => much13_any c W h hf))
  have HK1 := Lib.hid (CBox.call (w := w) (c := c) HK0)
  have HMT := Lib.hid HT0
  have HMC := Lib.hid (fun hfew : c.Few => CBox.callR (w := w) hr (fun W h => HM0 c W h hfew))
  have HRC := Lib.hid (fun hfew : c.Few => CBox.callR (w := w) hr (fun W h => rmay13_any c W h hfew.ts hfew.by' hfew.sz hfew.szb))
  have HFW := Lib.hid (fun h : c.much = false => show c.Few from ⟨(Cf.few h).1, (Cf.few h).2.1, (Cf.few h).2.2.1, (Cf.few h).2.2.2⟩)
  have hn := CBox.new w c
  have l1 : (c.ts.length : Int) ≤ 9223372036854775807 := by have := hr.tlen; omega
  clear HT0 HM0 HK0 hr hf
  obtain ⟨mu, hmu⟩ : ∃ b, b = c.much := ⟨_, rfl⟩
  rw [← hmu] at HMU HFW
  clear hmu
  unfold Cf.val at *
  unfold Cf.obj at hn
  go_enter Tryz.func3, Tryz.ntmps3
  go_upto_region 1 with fail
  generalize w.alloc (.cells #[.slice c.A c.ts.length c.cap, .int .i64 c.win, .int .i64 c.lat, .slice c.B c.by'.length c.cb, .int .i64 c.ser, .int .i64 c.wins, .int .i64 c.que, .int .i64 c.con, .int .i64 c.bod, .int .i64 c.base, .int .i64 c.most] 25) = w0 at hn ⊢
  have HQ0 := Lib.hid hn
  obtain ⟨a0, a1, a2, a3, a4, a5, a6, a7, a8, a9, a10⟩ := hn.at_
  clear hn
  go_wp2_with fail
  refine (HMU.out _ HQ0).mono ?_
  rintro e w1 ⟨rfl, HQ1⟩
  clear a0 a1 a2 a3 a4 a5 a6 a7 a8 a9 a10
  cases mu with
  | true =>
    go_wp2_with fail
    refine (HK1.out _ HQ1).mono ?_
    rintro e w2 ⟨rfl, HQ2⟩
    go_wp2
    go_ret
    exact ⟨rfl, HQ2.out.below⟩
  | false =>
    have HF := Lib.hid (HFW.out rfl)
    go_wp2_with fail
    go_loopw [3] (fun i wr => ∃ k : Nat, k ≤ c.ts.length ∧ i = .int .i64 k ∧ Hid (CBox w c wr)) (fun i _ => c.ts.length - (intOf i).toNat)
    case atStart => exact ⟨0, by omega, rfl, HQ1⟩
    case round =>
      obtain ⟨k, hk, rfl, HQ⟩ := hrel
      obtain ⟨a0, a1, a2, a3, a4, a5, a6, a7, a8, a9, a10⟩ := HQ.out.at_
      by_cases hlt : k < c.ts.length
      · obtain ⟨t, ht⟩ : ∃ t, c.ts[k]? = some t := ⟨_, List.getElem?_eq_getElem hlt⟩
        obtain ⟨b, off, hA, hb, hc⟩ := (HR.out.ts).at tOk (by omega)
        clear hc hb
        have HAA := Lib.hid hA
        rw [hA] at a0
        have HSK := Lib.hid (fun (w' : World) (hq : Hid (CBox w c w')) => show w'.cell? ⟨w.heap.size, 0, none⟩ = some (.slice (some ⟨b, off, none⟩) c.ts.length c.cap) ∧ w'.cell? ⟨b, off + k * 5, none⟩ = some (.string t.job) ∧ w'.cell? ⟨b, off + k * 5 + 1, none⟩ = some (.string t.host) ∧ w'.cell? ⟨b, off + k * 5 + 2, none⟩ = some (.string t.path) ∧ w'.cell? ⟨b, off + k * 5 + 3, none⟩ = some (.int .i64 t.iv) ∧ w'.cell? ⟨b, off + k * 5 + 4, none⟩ = some (.int .i64 t.tm) ∧ Hid (CBox w c w') from
          have h5 := hq.out.one HR.out ht HAA.out
          ⟨by rw [← HAA.out]; exact hq.out.at_.1, h5.1, h5.2.1, h5.2.2.1, h5.2.2.2.1, h5.2.2.2.2, hq⟩)
        have HTS := HF.out.sz t (List.mem_of_getElem? ht)
        have HC1 := Lib.hid (CBox.call (w := w) (c := c) (fun W => HMT.out t W HTS))
        have HC2 := Lib.hid (CBox.call (w := w) (c := c) (fun W => rmayT_any t W (by omega)))
        obtain ⟨z, hzz⟩ : ∃ z, z = t.may := ⟨_, rfl⟩
        rw [← hzz] at HC1 HC2
        unfold Tg.val at HC1 HC2
        have hlt' : (k : Int) < (c.ts.length : Int) := by omega
        have hk0 : (0 : Int) ≤ (k : Int) := by omega
        have hzn : (z != z) = false := by cases z <;> rfl
        clear hzz HTS ht hA a0
        have HQd : Hid (CBox w c wr.drew) := Lib.hid HQ.out.drew
        obtain ⟨a0, c0, c1, c2, c3, c4, -⟩ := HSK.out _ HQ
        go_wp2_with fail
        refine wp_region_noPanic ?_
        first | go_region_held (fun w' => w'.cell? ⟨w.heap.size, 0, none⟩ = some (.slice (some ⟨b, off, none⟩) c.ts.length c.cap) ∧ w'.cell? ⟨b, off + k * 5, none⟩ = some (.string t.job) ∧ w'.cell? ⟨b, off + k * 5 + 1, none⟩ = some (.string t.host) ∧ w'.cell? ⟨b, off + k * 5 + 2, none⟩ = some (.string t.path) ∧ w'.cell? ⟨b, off + k * 5 + 3, none⟩ = some (.int .i64 t.iv) ∧ w'.cell? ⟨b, off + k * 5 + 4, none⟩ = some (.int .i64 t.tm) ∧ Hid (CBox w c w')) (first | exact HSK.out _ HQd | (refine HSK.out _ ?_; assumption) | (refine HSK.out _ ?_; go_split_ands; assumption)) ((first | (go_at_call 6; refine (HC1.out _ (by go_split_ands; assumption)).mono ?_; rintro e w2 ⟨rfl, hq2⟩) | (go_at_call 7; refine (HC2.out _ (by go_split_ands; assumption)).mono ?_; rintro e w3 ⟨rfl, hq3⟩))) | fail "region"
        all_goals
          refine NoPanic.normal ?_
          rename_i hHeld
          clear hHeld a0 c0 c1 c2 c3 c4
          go_wp2
          go_roundw
          case rel => exact ⟨k + 1, by omega, by go_num, hq3⟩
          case measure => simp [intOf] <;> omega
      · have hge : decide ((k : Int) < (c.ts.length : Int)) = false := by rw [decide_eq_false_iff_not]; omega
        have hge2 : ¬ ((k : Int) < (c.ts.length : Int)) := by omega
        have HC1 := Lib.hid (HMC.out HF.out)
        have HC2 := Lib.hid (HRC.out HF.out)
        obtain ⟨z, hzz⟩ : ∃ z, z = mayC c := ⟨_, rfl⟩
        rw [← hzz] at HC1 HC2
        clear hzz
        have HQd : Hid (CBox w c wr.drew) := Lib.hid HQ.out.drew
        have HSK := Lib.hid (fun (w' : World) (hq : Hid (CBox w c w')) => show w'.cell? ⟨w.heap.size, 0, none⟩ = some (.slice c.A c.ts.length c.cap) ∧ w'.cell? ⟨w.heap.size, 1, none⟩ = some (.int .i64 c.win) ∧ w'.cell? ⟨w.heap.size, 2, none⟩ = some (.int .i64 c.lat) ∧ w'.cell? ⟨w.heap.size, 3, none⟩ = some (.slice c.B c.by'.length c.cb) ∧ w'.cell? ⟨w.heap.size, 4, none⟩ = some (.int .i64 c.ser) ∧ w'.cell? ⟨w.heap.size, 5, none⟩ = some (.int .i64 c.wins) ∧ w'.cell? ⟨w.heap.size, 6, none⟩ = some (.int .i64 c.que) ∧ w'.cell? ⟨w.heap.size, 7, none⟩ = some (.int .i64 c.con) ∧ w'.cell? ⟨w.heap.size, 8, none⟩ = some (.int .i64 c.bod) ∧ w'.cell? ⟨w.heap.size, 9, none⟩ = some (.int .i64 c.base) ∧ w'.cell? ⟨w.heap.size, 10, none⟩ = some (.int .i64 c.most) ∧ Hid (CBox w c w') from ⟨hq.out.at_.1, hq.out.at_.2.1, hq.out.at_.2.2.1, hq.out.at_.2.2.2.1, hq.out.at_.2.2.2.2.1, hq.out.at_.2.2.2.2.2.1, hq.out.at_.2.2.2.2.2.2.1, hq.out.at_.2.2.2.2.2.2.2.1, hq.out.at_.2.2.2.2.2.2.2.2.1, hq.out.at_.2.2.2.2.2.2.2.2.2.1, hq.out.at_.2.2.2.2.2.2.2.2.2.2, hq⟩)
        go_wp2_with fail
        refine wp_region_noPanic ?_
        first | go_region_held (fun w' => w'.cell? ⟨w.heap.size, 0, none⟩ = some (.slice c.A c.ts.length c.cap) ∧ w'.cell? ⟨w.heap.size, 1, none⟩ = some (.int .i64 c.win) ∧ w'.cell? ⟨w.heap.size, 2, none⟩ = some (.int .i64 c.lat) ∧ w'.cell? ⟨w.heap.size, 3, none⟩ = some (.slice c.B c.by'.length c.cb) ∧ w'.cell? ⟨w.heap.size, 4, none⟩ = some (.int .i64 c.ser) ∧ w'.cell? ⟨w.heap.size, 5, none⟩ = some (.int .i64 c.wins) ∧ w'.cell? ⟨w.heap.size, 6, none⟩ = some (.int .i64 c.que) ∧ w'.cell? ⟨w.heap.size, 7, none⟩ = some (.int .i64 c.con) ∧ w'.cell? ⟨w.heap.size, 8, none⟩ = some (.int .i64 c.bod) ∧ w'.cell? ⟨w.heap.size, 9, none⟩ = some (.int .i64 c.base) ∧ w'.cell? ⟨w.heap.size, 10, none⟩ = some (.int .i64 c.most) ∧ Hid (CBox w c w')) (first | exact HSK.out _ HQd | (refine HSK.out _ ?_; assumption) | (refine HSK.out _ ?_; go_split_ands; assumption)) ((first | (go_at_call 8; refine (HC1.out _ (by go_split_ands; assumption)).mono ?_; rintro e w2 ⟨rfl, hq2⟩) | (go_at_call 9; refine (HC2.out _ (by go_split_ands; assumption)).mono ?_; rintro e w3 ⟨rfl, hq3⟩) | (go_at_call 5; refine (HK1.out _ (by go_split_ands; assumption)).mono ?_; rintro e w4 ⟨rfl, hq4⟩))) | fail "region"
        all_goals
          refine NoPanic.normal ?_
          go_wp2
          go_ret
          exact ⟨by first | rfl | simp, hq4.out.below⟩
end Go.Proofs.YtnbghappfclnjaaGreat
