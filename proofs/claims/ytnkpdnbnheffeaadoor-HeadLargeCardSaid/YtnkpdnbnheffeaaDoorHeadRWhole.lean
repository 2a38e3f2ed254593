import Derived.Test.YtnkpdnbnheffeaaDoorHeadRParse
import Derived.Deep.CutBlock
namespace Go.Proofs.YtnkpdnbnheffeaaDoor
open Go.RowKit
set_option maxRecDepth 100000 in
set_option maxHeartbeats 40000000 in
theorem rparse_whole {w : World} {A : Option Addr} {c : Nat} {l : List UInt8} {old : Bool} {st : Nat} {fs : List Fld} {m : Nat} (hr : BReads w w.heap.size A l) (hc : l.length ≤ c) (hn : A = none → c = 0) (hl : l.length ≤ 1000000) (hrd : readL l = .whole old st fs m) :
    Calls Tryd.prog 9 #[.slice A l.length c] w fun e w' => e = .returned (PsV (match tellL old st fs with | .inr e => .err e | .inl h => .whole h m)) ∧ Below w.heap.size w w' := by
  have HRD : Hid (∀ W, Hid (Below w.heap.size w W) → Calls Tryd.prog 22 #[.slice A l.length c] W fun e w' => RrP W.heap.size (cutL (l.take 8192)) (.whole old st fs m) e w' ∧ Below W.heap.size W w') := Lib.hid (fun W hb => hrd ▸ rread_any ((hr.below hb.out).more hb.out.size) hc hn (by omega))
  have HSF := Lib.hid (readL_small hrd)
  have hm0 : (0 : Int) < (m : Int) := by have := HSF.out.2; omega
  have hm1 : ((m : Int) == 0) = false := by simp; omega
  have hm2 : (m == 0) = false := by simp; omega
  obtain ⟨v7, x, y, z, h7, hv, h9, h10, h11, hx, hy, hz, hst⟩ := first_places (read_first hrd)
  have HTS := Lib.hid (tell_says old st fs)
  obtain ⟨TL, hTL⟩ : ∃ TL, TL = tellL old st fs := ⟨_, rfl⟩
  rw [← hTL] at HTS ⊢
  obtain ⟨PV, hPV⟩ : ∃ PV, PV = PsV (match TL with | .inr e => .err e | .inl h => .whole h m) := ⟨_, rfl⟩
  rw [← hPV]
  have HPV := Lib.hid hPV
  clear hPV
  unfold RrP at HRD
  generalize cutL (l.take 8192) = L at HRD h7 h9 h10 h11
  obtain ⟨S, hS⟩ : ∃ S : ByteArray, S = ⟨L.toArray⟩ := ⟨_, rfl⟩
  have hSl : S.data.toList = L := by rw [hS]
  have hLl : 11 < L.length := (List.getElem?_eq_some_iff.1 h11).1
  have hs11 : 11 < S.size := by rw [Lib.size_eq, hSl]; exact hLl
  obtain ⟨c7, d7, e7⟩ := data_at S 7 (by omega)
  obtain ⟨c9, d9, e9⟩ := data_at S 9 (by omega)
  obtain ⟨c10, d10, e10⟩ := data_at S 10 (by omega)
  obtain ⟨c11, d11, e11⟩ := data_at S 11 (by omega)
  rw [hSl] at e7 e9 e10 e11
  obtain rfl : c7 = v7 := Option.some.inj (e7.symm.trans h7)
  obtain rfl : c9 = x := Option.some.inj (e9.symm.trans h9)
  obtain rfl : c10 = y := Option.some.inj (e10.symm.trans h10)
  obtain rfl : c11 = z := Option.some.inj (e11.symm.trans h11)
  rw [← hS] at HRD
  have hi11 : (11 : Int) < (S.size : Int) := by omega
  have hi10 : (10 : Int) < (S.size : Int) := by omega
  have hi9 : (9 : Int) < (S.size : Int) := by omega
  have hi7 : (7 : Int) < (S.size : Int) := by omega
  have hv7 : ((c7.toNat : Int) == 48) = old := by
    rw [← hv, Bool.eq_iff_iff, beq_iff_eq, beq_iff_eq]
    constructor
    · intro h; exact UInt8.toNat_inj.1 (show c7.toNat = 48 by omega)
    · rintro rfl; rfl
  clear e7 e9 e10 e11 h7 h9 h10 h11 hS hSl hLl hv hTL
  have HQ0 := Lib.hid (rp_made w)
  obtain ⟨n, hnn⟩ : ∃ n, n = l.length := ⟨_, rfl⟩
  rw [← hnn] at HRD ⊢
  clear hr hc hn hl hrd hnn
  go_enter Tryd.func9, Tryd.ntmps9
  go_wp2_with fail
  refine (HRD.out _ (Lib.hid HQ0.out.rq.below)).mono ?_
  rintro e w1 ⟨⟨v, rfl, hown⟩, hb1⟩
  obtain ⟨Av, cv, rfl, hrv, hcv, -⟩ := hown.reads
  have HQ1 := Lib.hid (HQ0.out.next hb1)
  have hfl := HSF.out.1.2
  have HRV : Hid (∀ nm W, Hid (Below w1.heap.size w1 W) → Calls Tryd.prog 24 #[.slice Av fs.length cv, .string ⟨nm.toArray⟩] W fun e w' => (∃ v', e = .returned v' ∧ sK.Own W.heap.size w' v' (valuesL nm fs)) ∧ Below W.heap.size W w') := Lib.hid (fun nm W hb => rvalues_any nm ((hrv.below hb.out).more hb.out.size) hcv hfl)
  have HV1 : Hid (∀ (W : World), Hid (Below w1.heap.size w1 W) → Calls Tryd.prog 24 #[.slice Av fs.length cv, .string ⟨#[99, 111, 110, 116, 101, 110, 116, 45, 108, 101, 110, 103, 116, 104]⟩] W fun e w' => (∃ v', e = .returned v' ∧ sK.Own W.heap.size w' v' (valuesL tLen fs)) ∧ Below W.heap.size W w') := Lib.hid (fun W hq => HRV.out tLen W hq)
  have HV2 : Hid (∀ (W : World), Hid (Below w1.heap.size w1 W) → Calls Tryd.prog 24 #[.slice Av fs.length cv, .string ⟨#[116, 114, 97, 110, 115, 102, 101, 114, 45, 101, 110, 99, 111, 100, 105, 110, 103]⟩] W fun e w' => (∃ v', e = .returned v' ∧ sK.Own W.heap.size w' v' (valuesL tCod fs)) ∧ Below W.heap.size W w') := Lib.hid (fun W hq => HRV.out tCod W hq)
  have HV3 : Hid (∀ (W : World), Hid (Below w1.heap.size w1 W) → Calls Tryd.prog 24 #[.slice Av fs.length cv, .string ⟨#[99, 111, 110, 110, 101, 99, 116, 105, 111, 110]⟩] W fun e w' => (∃ v', e = .returned v' ∧ sK.Own W.heap.size w' v' (valuesL tCon fs)) ∧ Below W.heap.size W w') := Lib.hid (fun W hq => HRV.out tCon W hq)
  have HVL : Hid (∀ nm, (valuesL nm fs).length ≤ 64 ∧ ∀ x ∈ valuesL nm fs, x.length ≤ 1000000) := Lib.hid (fun nm => ⟨Nat.le_trans (valuesL_len nm fs) hfl, fun x hx => by obtain ⟨f, hf, rfl⟩ := valuesL_mem hx; exact (HSF.out.1.1 f hf).2⟩)
  have HLS := Lib.hid (HVL.out tLen)
  have HCS := Lib.hid (HVL.out tCod)
  have HVS := Lib.hid (HVL.out tCon)
  generalize valuesL tLen fs = ls at HV1 HTS HLS
  generalize valuesL tCod fs = cs at HV2 HTS HCS
  generalize valuesL tCon fs = vs at HV3 HTS HVS
  clear hb1 HRD hown HVL HRV hrv
  have HB1 := Lib.hid (Below.refl w1.heap.size w1)
  go_wp2_with fail
  refine (HV1.out _ HB1).mono ?_
  rintro e w2 ⟨⟨v1, rfl, ho1⟩, hb2⟩
  obtain ⟨A1, c1, rfl, hr1, hc1, -⟩ := ho1.reads
  have HLG := Lib.hid (rlength_any hr1 hc1 HLS.out.1 HLS.out.2)
  have HB2 := Lib.hid (HB1.out.trans hb2)
  have hl1 := HLS.out.1
  clear ho1 hb2 HV1 hr1 hc1
  go_wp2_with fail
  refine (Hid.out HLG).mono ?_
  rintro e w3 ⟨rfl, hb3⟩
  have HB3 := Lib.hid (HB2.out.trans (hb3.mono HB2.out.size))
  clear hb3 HLG
  unfold LgV
  cases hag : agreeL ls with
  | false =>
    have HR := Lib.hid (show PV = .tuple #[zeroH, .int .i64 0, .int .i64 11] by rw [HPV.out, HTS.out, if_pos (.inl hag)]; rfl)
    clear hag HTS
    rw [if_neg (by simp)]
    go_wp2_with fail
    refine (HV2.out _ HB3).mono ?_
    rintro e w4 ⟨⟨v2, rfl, ho2⟩, hb4⟩
    obtain ⟨A2, c2, rfl, -, -, -⟩ := ho2.reads
    have HQ4 := Lib.hid (HQ1.out.next (HB3.out.trans (hb4.mono HB3.out.size)))
    clear ho2 hb4 HV2
    obtain ⟨q0, q1, q2, q3, qf⟩ := HQ4.out.rq.cells
    have f0 := qf 0
    have f1 := qf 1
    have f2 := qf 2
    have f3 := qf 3
    clear qf
    obtain ⟨p0, p1, p2, p3, -⟩ := HQ4.out.cells
    obtain ⟨e0', e1, e2, e3⟩ := set4_cells HQ4.out.rq.head (.int .i64 0) (.int .i64 0) (.bool false) (.bool false)
    have HBB := Lib.hid (HQ4.out.rq.below.trans (set4_below (B := w.heap.size) _ (Nat.le_refl _) (.int .i64 0) (.int .i64 0) (.bool false) (.bool false)))
    unfold set4 at e0' e1 e2 e3 HBB
    go_wp2
    exact bodyPost_ret (v := .tuple #[zeroH, .int .i64 0, .int .i64 11]) (by simp [results, Tryd.f9, go_sem, e0', e1, e2, e3, zeroH]) rfl ⟨by rw [HR.out], by first | exact HBB.out | exact HBB.out.drew⟩
  | true =>
    rw [if_pos rfl]
    obtain ⟨sz, hsz⟩ : ∃ sz : Int, sz = (if 0 < ls.length then (numL (ls.headD []) : Int) else -1) := ⟨_, rfl⟩
    rw [← hsz] at HTS ⊢
    have HSZ := Lib.hid hsz
    rw [hag] at HTS
    clear hag hsz
    go_wp2_with fail
    refine (HV2.out _ HB3).mono ?_
    rintro e w4 ⟨⟨v2, rfl, ho2⟩, hb4⟩
    obtain ⟨A2, c2, rfl, hr2, hc2, -⟩ := ho2.reads
    have HB4 := Lib.hid (HB3.out.trans (hb4.mono HB3.out.size))
    have HR2 := Lib.hid hr2
    have hl2 := HCS.out.1
    clear ho2 hb4 HV2 hr2
    by_cases hbo : 0 < ls.length ∧ 0 < cs.length
    · have HR := Lib.hid (show PV = .tuple #[zeroH, .int .i64 0, .int .i64 11] by rw [HPV.out, HTS.out, if_pos (.inr hbo)]; rfl)
      have hs0 : 0 ≤ sz := by rw [HSZ.out, if_pos hbo.1]; omega
      have hc0 : (0 : Int) < (cs.length : Int) := by omega
      have hc0' := hbo.2
      have HQ4 := Lib.hid (HQ1.out.next HB4.out)
      clear hbo HTS HPV HSZ
      obtain ⟨q0, q1, q2, q3, qf⟩ := HQ4.out.rq.cells
      have f0 := qf 0
      have f1 := qf 1
      have f2 := qf 2
      have f3 := qf 3
      clear qf
      obtain ⟨p0, p1, p2, p3, -⟩ := HQ4.out.cells
      obtain ⟨e0', e1, e2, e3⟩ := set4_cells HQ4.out.rq.head (.int .i64 0) (.int .i64 0) (.bool false) (.bool false)
      have HBB := Lib.hid (HQ4.out.rq.below.trans (set4_below (B := w.heap.size) _ (Nat.le_refl _) (.int .i64 0) (.int .i64 0) (.bool false) (.bool false)))
      unfold set4 at e0' e1 e2 e3 HBB
      go_wp2
      exact bodyPost_ret (v := .tuple #[zeroH, .int .i64 0, .int .i64 11]) (by simp [results, Tryd.f9, go_sem, e0', e1, e2, e3, zeroH]) rfl ⟨by rw [HR.out], by first | exact HBB.out | exact HBB.out.drew⟩
    · have hno : ¬ (true = false ∨ (0 < ls.length ∧ 0 < cs.length)) := by simpa using hbo
      rw [if_neg hno] at HTS
      clear hno
      by_cases hcs : cs.length = 0
      · have hcs0 : cs = [] := List.eq_nil_of_length_eq_zero hcs
        have hcc : ¬ (0 < cs.length ∧ (old = true ∨ 1 < cs.length ∨ smallL (cs.headD []) ≠ tChunked)) := by omega
        rw [if_neg hcc] at HTS
        have hdc : decide (0 < cs.length) = false := decide_eq_false (by omega)
        rw [hdc] at HTS
        have hc0 : ¬ (0 : Int) < (cs.length : Int) := by omega
        rw [hcs] at hl2 ⊢
        have hx0 : 48 ≤ c9.toNat ∧ c9.toNat ≤ 57 := by unfold digB at hx; rwa [decide_eq_true_eq] at hx
        have hy0 : 48 ≤ c10.toNat ∧ c10.toNat ≤ 57 := by unfold digB at hy; rwa [decide_eq_true_eq] at hy
        have hz0 : 48 ≤ c11.toNat ∧ c11.toNat ≤ 57 := by unfold digB at hz; rwa [decide_eq_true_eq] at hz
        have HQ4 := Lib.hid (HQ1.out.next HB4.out)
        clear hbo HSZ hcs hcc hdc hcs0
        obtain ⟨q9, hq9⟩ : ∃ q : Int, q = (c9.toNat : Int) := ⟨_, rfl⟩
        obtain ⟨q10, hq10⟩ : ∃ q : Int, q = (c10.toNat : Int) := ⟨_, rfl⟩
        obtain ⟨q11, hq11⟩ : ∃ q : Int, q = (c11.toNat : Int) := ⟨_, rfl⟩
        have b9 : 48 ≤ q9 := by omega
        have b9' : q9 ≤ 57 := by omega
        have b10 : 48 ≤ q10 := by omega
        have b10' : q10 ≤ 57 := by omega
        have b11 : 48 ≤ q11 := by omega
        have b11' : q11 ≤ 57 := by omega
        have hcn9 := hq9.symm
        have hcn10 := hq10.symm
        have hcn11 := hq11.symm
        have HST := Lib.hid (show (st : Int) = 100 * (q9 - 48) + 10 * (q10 - 48) + (q11 - 48) by omega)
        clear hx0 hy0 hz0 hst hq9 hq10 hq11 hx hy hz
        by_cases hs0 : 0 ≤ sz
        · have hs2 : ¬ sz < 0 := by omega
          go_wp2_with fail
          go_region
          go_wp2_with fail
          rw [← HST.out]
          have HQ5 := Lib.hid (r3_made HQ4.out.rq (.int .i64 (st : Int)) (.int .i64 sz) (.bool false) (.bool false)).drew
          have HB5 := Lib.hid ((HB4.out.alloc HB4.out.size (.cells #[.int .i64 (st : Int), .int .i64 sz, .bool false, .bool false] 25)).drew)
          generalize (w4.alloc (.cells #[.int .i64 (st : Int), .int .i64 sz, .bool false, .bool false] 25)).drew = w5 at HQ5 HB5 ⊢
          refine (HV3.out _ HB5).mono ?_
          rintro e w6 ⟨⟨v3, rfl, ho3⟩, hb6⟩
          obtain ⟨A3, c3, rfl, hr3, hc3, -⟩ := ho3.reads
          have HQ6 := Lib.hid (HQ5.out.next hb6)
          have HSA : Hid (∀ wd W, Below w6.heap.size w6 W → Calls Tryd.prog 26 #[.slice A3 vs.length c3, .string ⟨wd.toArray⟩] W fun e w' => e = .returned (.bool (saysL wd vs)) ∧ Below W.heap.size W w') := Lib.hid (fun wd W hb => rsays_any wd ((hr3.below hb).more hb.size) hc3 HVS.out.1 HVS.out.2)
          have HS1 : Hid (∀ W, Below w6.heap.size w6 W → Calls Tryd.prog 26 #[.slice A3 vs.length c3, .string ⟨#[99, 108, 111, 115, 101]⟩] W fun e w' => e = .returned (.bool (saysL tClose vs)) ∧ Below W.heap.size W w') := Lib.hid (fun W hb => HSA.out tClose W hb)
          have HS2 : Hid (∀ W, Below w6.heap.size w6 W → Calls Tryd.prog 26 #[.slice A3 vs.length c3, .string ⟨#[107, 101, 101, 112, 45, 97, 108, 105, 118, 101]⟩] W fun e w' => e = .returned (.bool (saysL tKeep vs)) ∧ Below W.heap.size W w') := Lib.hid (fun W hb => HSA.out tKeep W hb)
          have hl3 := HVS.out.1
          generalize saysL tClose vs = sc at HS1 HTS
          generalize saysL tKeep vs = sk at HS2 HTS
          clear HSA ho3 hb6 hr3 HV3 HB5 HQ5 HR2
          go_wp2_with fail
          refine (HS1.out _ (Below.refl _ _)).mono ?_
          rintro e w7 ⟨rfl, hb7⟩
          have HQ7 := Lib.hid (HQ6.out.next hb7)
          have HB7 := Lib.hid hb7
          clear HS1 hb7
          cases sc with
          | true =>
            have HR : Hid (PV = .tuple #[.agg #[.int .i64 (st : Int), .int .i64 sz, .bool false, .bool true], .int .i64 (m : Int), .int .i64 0]) := Lib.hid (by rw [HPV.out, HTS.out]; simp [PsV, HdV, hs2])
            have tc3 := (read_cells HQ7.out.head).2.2.2.1
            have tf3 := (read_cells HQ7.out.head).2.2.2.2 3
            clear HPV HTS
            go_upto_region 16 with fail
            have h6 : R3 w w4.heap.size (.int .i64 (st : Int)) (.int .i64 sz) (.bool false) (.bool true) (w7.setCell ⟨w4.heap.size, 3, none⟩ (.bool true)) := ⟨HQ7.out.rq.step HQ4.out.rq.lt ((Below.refl _ _).setCell (show w4.heap.size ≤ w4.heap.size from Nat.le_refl _) _), heap_setCell_same w7 w4.heap.size 3 _ _ _ HQ7.out.head⟩
            generalize w7.setCell ⟨w4.heap.size, 3, none⟩ (.bool true) = w9 at h6 ⊢
            clear tc3 tf3
            obtain ⟨r0, r1, r2, r3, rf⟩ := h6.rq.cells
            have s0 := rf 0
            have s1 := rf 1
            have s2 := rf 2
            have s3 := rf 3
            obtain ⟨t0, t1, t2, t3, -⟩ := read_cells h6.head
            obtain ⟨e0, e1, e2, e3⟩ := set4_cells h6.rq.head (.int .i64 (st : Int)) (.int .i64 sz) (.bool false) (.bool true)
            have HBB := Lib.hid (h6.rq.below.trans (set4_below (B := w.heap.size) _ (Nat.le_refl _) (.int .i64 (st : Int)) (.int .i64 sz) (.bool false) (.bool true)))
            unfold set4 at e0 e1 e2 e3 HBB
            clear rf h6
            go_wp2
            exact bodyPost_ret (v := .tuple #[.agg #[.int .i64 (st : Int), .int .i64 sz, .bool false, .bool true], .int .i64 (m : Int), .int .i64 0]) (by simp [results, Tryd.f9, go_sem, e0, e1, e2, e3]) rfl ⟨by rw [HR.out], by first | exact HBB.out | exact HBB.out.drew⟩
          | false =>
            cases old with
            | false =>
              have HR : Hid (PV = .tuple #[.agg #[.int .i64 (st : Int), .int .i64 sz, .bool false, .bool false], .int .i64 (m : Int), .int .i64 0]) := Lib.hid (by rw [HPV.out, HTS.out]; simp [PsV, HdV, hs2])
              have tc3 := (read_cells HQ7.out.head).2.2.2.1
              have tf3 := (read_cells HQ7.out.head).2.2.2.2 3
              clear HPV HTS
              go_upto_region 16 with fail
              have h6 : R3 w w4.heap.size (.int .i64 (st : Int)) (.int .i64 sz) (.bool false) (.bool false) (w7.setCell ⟨w4.heap.size, 3, none⟩ (.bool false)) := ⟨HQ7.out.rq.step HQ4.out.rq.lt ((Below.refl _ _).setCell (show w4.heap.size ≤ w4.heap.size from Nat.le_refl _) _), heap_setCell_same w7 w4.heap.size 3 _ _ _ HQ7.out.head⟩
              generalize w7.setCell ⟨w4.heap.size, 3, none⟩ (.bool false) = w9 at h6 ⊢
              clear tc3 tf3
              obtain ⟨r0, r1, r2, r3, rf⟩ := h6.rq.cells
              have s0 := rf 0
              have s1 := rf 1
              have s2 := rf 2
              have s3 := rf 3
              obtain ⟨t0, t1, t2, t3, -⟩ := read_cells h6.head
              obtain ⟨e0, e1, e2, e3⟩ := set4_cells h6.rq.head (.int .i64 (st : Int)) (.int .i64 sz) (.bool false) (.bool false)
              have HBB := Lib.hid (h6.rq.below.trans (set4_below (B := w.heap.size) _ (Nat.le_refl _) (.int .i64 (st : Int)) (.int .i64 sz) (.bool false) (.bool false)))
              unfold set4 at e0 e1 e2 e3 HBB
              clear rf h6
              go_wp2
              exact bodyPost_ret (v := .tuple #[.agg #[.int .i64 (st : Int), .int .i64 sz, .bool false, .bool false], .int .i64 (m : Int), .int .i64 0]) (by simp [results, Tryd.f9, go_sem, e0, e1, e2, e3]) rfl ⟨by rw [HR.out], by first | exact HBB.out | exact HBB.out.drew⟩
            | true =>
              go_wp2_with fail
              refine (HS2.out _ HB7.out).mono ?_
              rintro e w8 ⟨rfl, hb8⟩
              have HQ8 := Lib.hid (HQ7.out.next hb8)
              clear hb8 HS2 HQ7
              cases sk with
              | true =>
                have HR : Hid (PV = .tuple #[.agg #[.int .i64 (st : Int), .int .i64 sz, .bool false, .bool false], .int .i64 (m : Int), .int .i64 0]) := Lib.hid (by rw [HPV.out, HTS.out]; simp [PsV, HdV, hs2])
                have tc3 := (read_cells HQ8.out.head).2.2.2.1
                have tf3 := (read_cells HQ8.out.head).2.2.2.2 3
                clear HPV HTS
                go_upto_region 16 with fail
                have h6 : R3 w w4.heap.size (.int .i64 (st : Int)) (.int .i64 sz) (.bool false) (.bool false) (w8.setCell ⟨w4.heap.size, 3, none⟩ (.bool false)) := ⟨HQ8.out.rq.step HQ4.out.rq.lt ((Below.refl _ _).setCell (show w4.heap.size ≤ w4.heap.size from Nat.le_refl _) _), heap_setCell_same w8 w4.heap.size 3 _ _ _ HQ8.out.head⟩
                generalize w8.setCell ⟨w4.heap.size, 3, none⟩ (.bool false) = w9 at h6 ⊢
                clear tc3 tf3
                obtain ⟨r0, r1, r2, r3, rf⟩ := h6.rq.cells
                have s0 := rf 0
                have s1 := rf 1
                have s2 := rf 2
                have s3 := rf 3
                obtain ⟨t0, t1, t2, t3, -⟩ := read_cells h6.head
                obtain ⟨e0, e1, e2, e3⟩ := set4_cells h6.rq.head (.int .i64 (st : Int)) (.int .i64 sz) (.bool false) (.bool false)
                have HBB := Lib.hid (h6.rq.below.trans (set4_below (B := w.heap.size) _ (Nat.le_refl _) (.int .i64 (st : Int)) (.int .i64 sz) (.bool false) (.bool false)))
                unfold set4 at e0 e1 e2 e3 HBB
                clear rf h6
                go_wp2
                exact bodyPost_ret (v := .tuple #[.agg #[.int .i64 (st : Int), .int .i64 sz, .bool false, .bool false], .int .i64 (m : Int), .int .i64 0]) (by simp [results, Tryd.f9, go_sem, e0, e1, e2, e3]) rfl ⟨by rw [HR.out], by first | exact HBB.out | exact HBB.out.drew⟩
              | false =>
                have HR : Hid (PV = .tuple #[.agg #[.int .i64 (st : Int), .int .i64 sz, .bool false, .bool true], .int .i64 (m : Int), .int .i64 0]) := Lib.hid (by rw [HPV.out, HTS.out]; simp [PsV, HdV, hs2])
                have tc3 := (read_cells HQ8.out.head).2.2.2.1
                have tf3 := (read_cells HQ8.out.head).2.2.2.2 3
                clear HPV HTS
                go_upto_region 16 with fail
                have h6 : R3 w w4.heap.size (.int .i64 (st : Int)) (.int .i64 sz) (.bool false) (.bool true) (w8.setCell ⟨w4.heap.size, 3, none⟩ (.bool true)) := ⟨HQ8.out.rq.step HQ4.out.rq.lt ((Below.refl _ _).setCell (show w4.heap.size ≤ w4.heap.size from Nat.le_refl _) _), heap_setCell_same w8 w4.heap.size 3 _ _ _ HQ8.out.head⟩
                generalize w8.setCell ⟨w4.heap.size, 3, none⟩ (.bool true) = w9 at h6 ⊢
                clear tc3 tf3
                obtain ⟨r0, r1, r2, r3, rf⟩ := h6.rq.cells
                have s0 := rf 0
                have s1 := rf 1
                have s2 := rf 2
                have s3 := rf 3
                obtain ⟨t0, t1, t2, t3, -⟩ := read_cells h6.head
                obtain ⟨e0, e1, e2, e3⟩ := set4_cells h6.rq.head (.int .i64 (st : Int)) (.int .i64 sz) (.bool false) (.bool true)
                have HBB := Lib.hid (h6.rq.below.trans (set4_below (B := w.heap.size) _ (Nat.le_refl _) (.int .i64 (st : Int)) (.int .i64 sz) (.bool false) (.bool true)))
                unfold set4 at e0 e1 e2 e3 HBB
                clear rf h6
                go_wp2
                exact bodyPost_ret (v := .tuple #[.agg #[.int .i64 (st : Int), .int .i64 sz, .bool false, .bool true], .int .i64 (m : Int), .int .i64 0]) (by simp [results, Tryd.f9, go_sem, e0, e1, e2, e3]) rfl ⟨by rw [HR.out], by first | exact HBB.out | exact HBB.out.drew⟩
        · have hs1 : sz < 0 := by omega
          go_wp2_with fail
          go_region
          go_wp2_with fail
          rw [← HST.out]
          have HQ5 := Lib.hid (r3_made HQ4.out.rq (.int .i64 (st : Int)) (.int .i64 sz) (.bool false) (.bool false)).drew
          have HB5 := Lib.hid ((HB4.out.alloc HB4.out.size (.cells #[.int .i64 (st : Int), .int .i64 sz, .bool false, .bool false] 25)).drew)
          generalize (w4.alloc (.cells #[.int .i64 (st : Int), .int .i64 sz, .bool false, .bool false] 25)).drew = w5 at HQ5 HB5 ⊢
          refine (HV3.out _ HB5).mono ?_
          rintro e w6 ⟨⟨v3, rfl, ho3⟩, hb6⟩
          obtain ⟨A3, c3, rfl, hr3, hc3, -⟩ := ho3.reads
          have HQ6 := Lib.hid (HQ5.out.next hb6)
          have HSA : Hid (∀ wd W, Below w6.heap.size w6 W → Calls Tryd.prog 26 #[.slice A3 vs.length c3, .string ⟨wd.toArray⟩] W fun e w' => e = .returned (.bool (saysL wd vs)) ∧ Below W.heap.size W w') := Lib.hid (fun wd W hb => rsays_any wd ((hr3.below hb).more hb.size) hc3 HVS.out.1 HVS.out.2)
          have HS1 : Hid (∀ W, Below w6.heap.size w6 W → Calls Tryd.prog 26 #[.slice A3 vs.length c3, .string ⟨#[99, 108, 111, 115, 101]⟩] W fun e w' => e = .returned (.bool (saysL tClose vs)) ∧ Below W.heap.size W w') := Lib.hid (fun W hb => HSA.out tClose W hb)
          have HS2 : Hid (∀ W, Below w6.heap.size w6 W → Calls Tryd.prog 26 #[.slice A3 vs.length c3, .string ⟨#[107, 101, 101, 112, 45, 97, 108, 105, 118, 101]⟩] W fun e w' => e = .returned (.bool (saysL tKeep vs)) ∧ Below W.heap.size W w') := Lib.hid (fun W hb => HSA.out tKeep W hb)
          have hl3 := HVS.out.1
          generalize saysL tClose vs = sc at HS1 HTS
          generalize saysL tKeep vs = sk at HS2 HTS
          clear HSA ho3 hb6 hr3 HV3 HB5 HQ5 HR2
          go_wp2_with fail
          refine (HS1.out _ (Below.refl _ _)).mono ?_
          rintro e w7 ⟨rfl, hb7⟩
          have HQ7 := Lib.hid (HQ6.out.next hb7)
          have HB7 := Lib.hid hb7
          clear HS1 hb7
          cases sc with
          | true =>
            have HR : Hid (PV = .tuple #[.agg #[.int .i64 (st : Int), .int .i64 sz, .bool false, .bool true], .int .i64 (m : Int), .int .i64 0]) := Lib.hid (by rw [HPV.out, HTS.out]; simp [PsV, HdV, hs1])
            have tc3 := (read_cells HQ7.out.head).2.2.2.1
            have tf3 := (read_cells HQ7.out.head).2.2.2.2 3
            clear HPV HTS
            go_upto_region 16 with fail
            have h6 : R3 w w4.heap.size (.int .i64 (st : Int)) (.int .i64 sz) (.bool false) (.bool true) (w7.setCell ⟨w4.heap.size, 3, none⟩ (.bool true)) := ⟨HQ7.out.rq.step HQ4.out.rq.lt ((Below.refl _ _).setCell (show w4.heap.size ≤ w4.heap.size from Nat.le_refl _) _), heap_setCell_same w7 w4.heap.size 3 _ _ _ HQ7.out.head⟩
            generalize w7.setCell ⟨w4.heap.size, 3, none⟩ (.bool true) = w9 at h6 ⊢
            clear tc3 tf3
            obtain ⟨r0, r1, r2, r3, rf⟩ := h6.rq.cells
            have s0 := rf 0
            have s1 := rf 1
            have s2 := rf 2
            have s3 := rf 3
            obtain ⟨t0, t1, t2, t3, -⟩ := read_cells h6.head
            obtain ⟨e0, e1, e2, e3⟩ := set4_cells h6.rq.head (.int .i64 (st : Int)) (.int .i64 sz) (.bool false) (.bool true)
            have HBB := Lib.hid (h6.rq.below.trans (set4_below (B := w.heap.size) _ (Nat.le_refl _) (.int .i64 (st : Int)) (.int .i64 sz) (.bool false) (.bool true)))
            unfold set4 at e0 e1 e2 e3 HBB
            clear rf h6
            go_wp2
            exact bodyPost_ret (v := .tuple #[.agg #[.int .i64 (st : Int), .int .i64 sz, .bool false, .bool true], .int .i64 (m : Int), .int .i64 0]) (by simp [results, Tryd.f9, go_sem, e0, e1, e2, e3]) rfl ⟨by rw [HR.out], by first | exact HBB.out | exact HBB.out.drew⟩
          | false =>
            cases old with
            | false =>
              have HR : Hid (PV = .tuple #[.agg #[.int .i64 (st : Int), .int .i64 sz, .bool false, .bool true], .int .i64 (m : Int), .int .i64 0]) := Lib.hid (by rw [HPV.out, HTS.out]; simp [PsV, HdV, hs1])
              have tc3 := (read_cells HQ7.out.head).2.2.2.1
              have tf3 := (read_cells HQ7.out.head).2.2.2.2 3
              clear HPV HTS
              go_upto_region 16 with fail
              have h6 : R3 w w4.heap.size (.int .i64 (st : Int)) (.int .i64 sz) (.bool false) (.bool true) (w7.setCell ⟨w4.heap.size, 3, none⟩ (.bool true)) := ⟨HQ7.out.rq.step HQ4.out.rq.lt ((Below.refl _ _).setCell (show w4.heap.size ≤ w4.heap.size from Nat.le_refl _) _), heap_setCell_same w7 w4.heap.size 3 _ _ _ HQ7.out.head⟩
              generalize w7.setCell ⟨w4.heap.size, 3, none⟩ (.bool true) = w9 at h6 ⊢
              clear tc3 tf3
              obtain ⟨r0, r1, r2, r3, rf⟩ := h6.rq.cells
              have s0 := rf 0
              have s1 := rf 1
              have s2 := rf 2
              have s3 := rf 3
              obtain ⟨t0, t1, t2, t3, -⟩ := read_cells h6.head
              obtain ⟨e0, e1, e2, e3⟩ := set4_cells h6.rq.head (.int .i64 (st : Int)) (.int .i64 sz) (.bool false) (.bool true)
              have HBB := Lib.hid (h6.rq.below.trans (set4_below (B := w.heap.size) _ (Nat.le_refl _) (.int .i64 (st : Int)) (.int .i64 sz) (.bool false) (.bool true)))
              unfold set4 at e0 e1 e2 e3 HBB
              clear rf h6
              go_wp2
              exact bodyPost_ret (v := .tuple #[.agg #[.int .i64 (st : Int), .int .i64 sz, .bool false, .bool true], .int .i64 (m : Int), .int .i64 0]) (by simp [results, Tryd.f9, go_sem, e0, e1, e2, e3]) rfl ⟨by rw [HR.out], by first | exact HBB.out | exact HBB.out.drew⟩
            | true =>
              have HR : Hid (PV = .tuple #[.agg #[.int .i64 (st : Int), .int .i64 sz, .bool false, .bool true], .int .i64 (m : Int), .int .i64 0]) := Lib.hid (by rw [HPV.out, HTS.out]; simp [PsV, HdV, hs1])
              have tc3 := (read_cells HQ7.out.head).2.2.2.1
              have tf3 := (read_cells HQ7.out.head).2.2.2.2 3
              clear HPV HTS
              go_upto_region 16 with fail
              have h6 : R3 w w4.heap.size (.int .i64 (st : Int)) (.int .i64 sz) (.bool false) (.bool true) (w7.setCell ⟨w4.heap.size, 3, none⟩ (.bool true)) := ⟨HQ7.out.rq.step HQ4.out.rq.lt ((Below.refl _ _).setCell (show w4.heap.size ≤ w4.heap.size from Nat.le_refl _) _), heap_setCell_same w7 w4.heap.size 3 _ _ _ HQ7.out.head⟩
              generalize w7.setCell ⟨w4.heap.size, 3, none⟩ (.bool true) = w9 at h6 ⊢
              clear tc3 tf3
              obtain ⟨r0, r1, r2, r3, rf⟩ := h6.rq.cells
              have s0 := rf 0
              have s1 := rf 1
              have s2 := rf 2
              have s3 := rf 3
              obtain ⟨t0, t1, t2, t3, -⟩ := read_cells h6.head
              obtain ⟨e0, e1, e2, e3⟩ := set4_cells h6.rq.head (.int .i64 (st : Int)) (.int .i64 sz) (.bool false) (.bool true)
              have HBB := Lib.hid (h6.rq.below.trans (set4_below (B := w.heap.size) _ (Nat.le_refl _) (.int .i64 (st : Int)) (.int .i64 sz) (.bool false) (.bool true)))
              unfold set4 at e0 e1 e2 e3 HBB
              clear rf h6
              go_wp2
              exact bodyPost_ret (v := .tuple #[.agg #[.int .i64 (st : Int), .int .i64 sz, .bool false, .bool true], .int .i64 (m : Int), .int .i64 0]) (by simp [results, Tryd.f9, go_sem, e0, e1, e2, e3]) rfl ⟨by rw [HR.out], by first | exact HBB.out | exact HBB.out.drew⟩
      · have hls : ls.length = 0 := by omega
        have hs0 : sz = -1 := by rw [HSZ.out, if_neg (by omega)]
        have hc0 : (0 : Int) < (cs.length : Int) := by omega
        have hc0' : 0 < cs.length := by omega
        by_cases hc1 : 1 < cs.length
        · have HR := Lib.hid (show PV = .tuple #[zeroH, .int .i64 0, .int .i64 12] by rw [HPV.out, HTS.out, if_pos ⟨hc0', .inr (.inl hc1)⟩]; rfl)
          have hc1' : (1 : Int) < (cs.length : Int) := by omega
          subst hs0
          clear hbo HTS HPV HSZ hls hcs
          have HQ4 := Lib.hid (HQ1.out.next HB4.out)
          obtain ⟨q0, q1, q2, q3, qf⟩ := HQ4.out.rq.cells
          have f0 := qf 0
          have f1 := qf 1
          have f2 := qf 2
          have f3 := qf 3
          clear qf
          obtain ⟨p0, p1, p2, p3, -⟩ := HQ4.out.cells
          obtain ⟨e0', e1, e2, e3⟩ := set4_cells HQ4.out.rq.head (.int .i64 0) (.int .i64 0) (.bool false) (.bool false)
          have HBB := Lib.hid (HQ4.out.rq.below.trans (set4_below (B := w.heap.size) _ (Nat.le_refl _) (.int .i64 0) (.int .i64 0) (.bool false) (.bool false)))
          unfold set4 at e0' e1 e2 e3 HBB
          go_wp2
          exact bodyPost_ret (v := .tuple #[zeroH, .int .i64 0, .int .i64 12]) (by simp [results, Tryd.f9, go_sem, e0', e1, e2, e3, zeroH]) rfl ⟨by rw [HR.out], by first | exact HBB.out | exact HBB.out.drew⟩
        · have hc1' : ¬ (1 : Int) < (cs.length : Int) := by omega
          obtain ⟨cz, hcz⟩ : ∃ cz, cs[0]? = some cz := ⟨_, List.getElem?_eq_getElem hc0'⟩
          have hcd : cs.headD [] = cz := by cases cs with | nil => cases hcz | cons x l => simpa using hcz
          obtain ⟨g, off, hA, -, hz1⟩ := sK_at HR2.out hcz
          subst hA
          rw [Nat.add_zero] at hz1
          have HSM := Lib.hid (rsmall_any ⟨cz.toArray⟩ w4 (by rw [Lib.size_eq]; exact HCS.out.2 cz (List.mem_of_getElem? hcz)))
          change Hid (Calls _ _ _ _ fun e w' => e = .returned (.string ⟨(smallL cz).toArray⟩) ∧ Below w4.heap.size w4 w') at HSM
          rw [hcd] at HTS
          clear hcz hcd
          generalize smallL cz = T at HSM HTS
          have hx0 : 48 ≤ c9.toNat ∧ c9.toNat ≤ 57 := by unfold digB at hx; rwa [decide_eq_true_eq] at hx
          have hy0 : 48 ≤ c10.toNat ∧ c10.toNat ≤ 57 := by unfold digB at hy; rwa [decide_eq_true_eq] at hy
          have hz0 : 48 ≤ c11.toNat ∧ c11.toNat ≤ 57 := by unfold digB at hz; rwa [decide_eq_true_eq] at hz
          by_cases hbad : T ≠ tChunked ∨ old = true
          · have HR := Lib.hid (show PV = .tuple #[zeroH, .int .i64 0, .int .i64 12] by rw [HPV.out, HTS.out, if_pos ⟨hc0', hbad.elim (fun h => .inr (.inr h)) (fun h => .inl h)⟩]; rfl)
            subst hs0
            have hq : T = tChunked → old = true := fun h => hbad.elim (fun h1 => absurd h h1) (fun h1 => h1)
            by_cases hT : T = [99, 104, 117, 110, 107, 101, 100]
            · have ho := hq hT
              rw [hT] at HSM
              rw [ho] at hv7 ⊢
              have HQ4 := Lib.hid (HQ1.out.next HB4.out)
              clear hbo HTS HPV HSZ hls hcs
              clear hbad hq hT
              simp only []
              go_wp2_with fail
              refine (Hid.out HSM).mono ?_
              rintro e w5 ⟨rfl, hb5⟩
              have HQ5 := Lib.hid (HQ4.out.next hb5)
              obtain ⟨q0, q1, q2, q3, qf⟩ := HQ5.out.rq.cells
              have f0 := qf 0
              have f1 := qf 1
              have f2 := qf 2
              have f3 := qf 3
              clear qf hb5
              obtain ⟨p0, p1, p2, p3, -⟩ := HQ5.out.cells
              obtain ⟨e0', e1, e2, e3⟩ := set4_cells HQ5.out.rq.head (.int .i64 0) (.int .i64 0) (.bool false) (.bool false)
              have HBB := Lib.hid (HQ5.out.rq.below.trans (set4_below (B := w.heap.size) _ (Nat.le_refl _) (.int .i64 0) (.int .i64 0) (.bool false) (.bool false)))
              unfold set4 at e0' e1 e2 e3 HBB
              go_wp2
              exact bodyPost_ret (v := .tuple #[zeroH, .int .i64 0, .int .i64 12]) (by simp [results, Tryd.f9, go_sem, e0', e1, e2, e3, zeroH]) rfl ⟨by rw [HR.out], by first | exact HBB.out | exact HBB.out.drew⟩
            · have bq : (T == [99, 104, 117, 110, 107, 101, 100]) = false := by simpa using hT
              have HQ4 := Lib.hid (HQ1.out.next HB4.out)
              clear hbo HTS HPV HSZ hls hcs
              clear hbad hq
              simp only []
              go_wp2_with fail
              refine (Hid.out HSM).mono ?_
              rintro e w5 ⟨rfl, hb5⟩
              have HQ5 := Lib.hid (HQ4.out.next hb5)
              obtain ⟨q0, q1, q2, q3, qf⟩ := HQ5.out.rq.cells
              have f0 := qf 0
              have f1 := qf 1
              have f2 := qf 2
              have f3 := qf 3
              clear qf hb5
              obtain ⟨p0, p1, p2, p3, -⟩ := HQ5.out.cells
              obtain ⟨e0', e1, e2, e3⟩ := set4_cells HQ5.out.rq.head (.int .i64 0) (.int .i64 0) (.bool false) (.bool false)
              have HBB := Lib.hid (HQ5.out.rq.below.trans (set4_below (B := w.heap.size) _ (Nat.le_refl _) (.int .i64 0) (.int .i64 0) (.bool false) (.bool false)))
              unfold set4 at e0' e1 e2 e3 HBB
              go_wp2
              exact bodyPost_ret (v := .tuple #[zeroH, .int .i64 0, .int .i64 12]) (by simp [results, Tryd.f9, go_sem, e0', e1, e2, e3, zeroH]) rfl ⟨by rw [HR.out], by first | exact HBB.out | exact HBB.out.drew⟩
          · have HQ4' := Lib.hid (HQ1.out.next HB4.out)
            obtain ⟨hT, ho⟩ : T = [99, 104, 117, 110, 107, 101, 100] ∧ old = false := by
              constructor
              · exact Classical.byContradiction fun h => hbad (.inl h)
              · cases old with
                | true => exact absurd (.inr rfl) hbad
                | false => rfl
            have hcc : ¬ (0 < cs.length ∧ (old = true ∨ 1 < cs.length ∨ T ≠ tChunked)) := by
              rintro ⟨-, h | h | h⟩
              · rw [ho] at h; cases h
              · exact hc1 h
              · exact hbad (.inl h)
            rw [if_neg hcc, decide_eq_true hc0'] at HTS
            rw [hT] at HSM
            rw [ho] at HTS hv7 ⊢
            subst hs0
            clear hbo HSZ hls hcs hbad hcc hT ho
            simp only []
            go_wp2_with fail
            refine (Hid.out HSM).mono ?_
            rintro e w4b ⟨rfl, hb4b⟩
            have HQ4 := Lib.hid (HQ4'.out.next hb4b)
            have HB4 := Lib.hid (HB4.out.trans (hb4b.mono HB4.out.size))
            clear HQ4' hb4b HSM hz1
            obtain ⟨q9, hq9⟩ : ∃ q : Int, q = (c9.toNat : Int) := ⟨_, rfl⟩
            obtain ⟨q10, hq10⟩ : ∃ q : Int, q = (c10.toNat : Int) := ⟨_, rfl⟩
            obtain ⟨q11, hq11⟩ : ∃ q : Int, q = (c11.toNat : Int) := ⟨_, rfl⟩
            have b9 : 48 ≤ q9 := by omega
            have b9' : q9 ≤ 57 := by omega
            have b10 : 48 ≤ q10 := by omega
            have b10' : q10 ≤ 57 := by omega
            have b11 : 48 ≤ q11 := by omega
            have b11' : q11 ≤ 57 := by omega
            have hcn9 := hq9.symm
            have hcn10 := hq10.symm
            have hcn11 := hq11.symm
            have HST := Lib.hid (show (st : Int) = 100 * (q9 - 48) + 10 * (q10 - 48) + (q11 - 48) by omega)
            clear hx0 hy0 hz0 hst hq9 hq10 hq11 hx hy hz
            have hs1 : (-1 : Int) < 0 := by decide
            go_wp2_with fail
            go_region
            go_wp2_with fail
            rw [← HST.out]
            have HQ5 := Lib.hid (r3_made HQ4.out.rq (.int .i64 (st : Int)) (.int .i64 (-1)) (.bool true) (.bool false)).drew
            have HB5 := Lib.hid ((HB4.out.alloc HB4.out.size (.cells #[.int .i64 (st : Int), .int .i64 (-1), .bool true, .bool false] 25)).drew)
            generalize (w4b.alloc (.cells #[.int .i64 (st : Int), .int .i64 (-1), .bool true, .bool false] 25)).drew = w5 at HQ5 HB5 ⊢
            refine (HV3.out _ HB5).mono ?_
            rintro e w6 ⟨⟨v3, rfl, ho3⟩, hb6⟩
            obtain ⟨A3, c3, rfl, hr3, hc3, -⟩ := ho3.reads
            have HQ6 := Lib.hid (HQ5.out.next hb6)
            have HSA : Hid (∀ wd W, Below w6.heap.size w6 W → Calls Tryd.prog 26 #[.slice A3 vs.length c3, .string ⟨wd.toArray⟩] W fun e w' => e = .returned (.bool (saysL wd vs)) ∧ Below W.heap.size W w') := Lib.hid (fun wd W hb => rsays_any wd ((hr3.below hb).more hb.size) hc3 HVS.out.1 HVS.out.2)
            have HS1 : Hid (∀ W, Below w6.heap.size w6 W → Calls Tryd.prog 26 #[.slice A3 vs.length c3, .string ⟨#[99, 108, 111, 115, 101]⟩] W fun e w' => e = .returned (.bool (saysL tClose vs)) ∧ Below W.heap.size W w') := Lib.hid (fun W hb => HSA.out tClose W hb)
            have HS2 : Hid (∀ W, Below w6.heap.size w6 W → Calls Tryd.prog 26 #[.slice A3 vs.length c3, .string ⟨#[107, 101, 101, 112, 45, 97, 108, 105, 118, 101]⟩] W fun e w' => e = .returned (.bool (saysL tKeep vs)) ∧ Below W.heap.size W w') := Lib.hid (fun W hb => HSA.out tKeep W hb)
            have hl3 := HVS.out.1
            generalize saysL tClose vs = sc at HS1 HTS
            generalize saysL tKeep vs = sk at HS2 HTS
            clear HSA ho3 hb6 hr3 HV3 HB5 HQ5 
            go_wp2_with fail
            refine (HS1.out _ (Below.refl _ _)).mono ?_
            rintro e w7 ⟨rfl, hb7⟩
            have HQ7 := Lib.hid (HQ6.out.next hb7)
            have HB7 := Lib.hid hb7
            clear HS1 hb7
            cases sc with
            | true =>
              have HR : Hid (PV = .tuple #[.agg #[.int .i64 (st : Int), .int .i64 (-1), .bool true, .bool true], .int .i64 (m : Int), .int .i64 0]) := Lib.hid (by rw [HPV.out, HTS.out]; simp [PsV, HdV, hs1])
              have tc3 := (read_cells HQ7.out.head).2.2.2.1
              have tf3 := (read_cells HQ7.out.head).2.2.2.2 3
              clear HPV HTS
              go_upto_region 16 with fail
              have h6 : R3 w w4b.heap.size (.int .i64 (st : Int)) (.int .i64 (-1)) (.bool true) (.bool true) (w7.setCell ⟨w4b.heap.size, 3, none⟩ (.bool true)) := ⟨HQ7.out.rq.step HQ4.out.rq.lt ((Below.refl _ _).setCell (show w4b.heap.size ≤ w4b.heap.size from Nat.le_refl _) _), heap_setCell_same w7 w4b.heap.size 3 _ _ _ HQ7.out.head⟩
              generalize w7.setCell ⟨w4b.heap.size, 3, none⟩ (.bool true) = w9 at h6 ⊢
              clear tc3 tf3
              obtain ⟨r0, r1, r2, r3, rf⟩ := h6.rq.cells
              have s0 := rf 0
              have s1 := rf 1
              have s2 := rf 2
              have s3 := rf 3
              obtain ⟨t0, t1, t2, t3, -⟩ := read_cells h6.head
              obtain ⟨e0, e1, e2, e3⟩ := set4_cells h6.rq.head (.int .i64 (st : Int)) (.int .i64 (-1)) (.bool true) (.bool true)
              have HBB := Lib.hid (h6.rq.below.trans (set4_below (B := w.heap.size) _ (Nat.le_refl _) (.int .i64 (st : Int)) (.int .i64 (-1)) (.bool true) (.bool true)))
              unfold set4 at e0 e1 e2 e3 HBB
              clear rf h6
              go_wp2
              exact bodyPost_ret (v := .tuple #[.agg #[.int .i64 (st : Int), .int .i64 (-1), .bool true, .bool true], .int .i64 (m : Int), .int .i64 0]) (by simp [results, Tryd.f9, go_sem, e0, e1, e2, e3]) rfl ⟨by rw [HR.out], by first | exact HBB.out | exact HBB.out.drew⟩
            | false =>
              have HR : Hid (PV = .tuple #[.agg #[.int .i64 (st : Int), .int .i64 (-1), .bool true, .bool false], .int .i64 (m : Int), .int .i64 0]) := Lib.hid (by rw [HPV.out, HTS.out]; simp [PsV, HdV, hs1])
              have tc3 := (read_cells HQ7.out.head).2.2.2.1
              have tf3 := (read_cells HQ7.out.head).2.2.2.2 3
              clear HPV HTS
              go_upto_region 16 with fail
              have h6 : R3 w w4b.heap.size (.int .i64 (st : Int)) (.int .i64 (-1)) (.bool true) (.bool false) (w7.setCell ⟨w4b.heap.size, 3, none⟩ (.bool false)) := ⟨HQ7.out.rq.step HQ4.out.rq.lt ((Below.refl _ _).setCell (show w4b.heap.size ≤ w4b.heap.size from Nat.le_refl _) _), heap_setCell_same w7 w4b.heap.size 3 _ _ _ HQ7.out.head⟩
              generalize w7.setCell ⟨w4b.heap.size, 3, none⟩ (.bool false) = w9 at h6 ⊢
              clear tc3 tf3
              obtain ⟨r0, r1, r2, r3, rf⟩ := h6.rq.cells
              have s0 := rf 0
              have s1 := rf 1
              have s2 := rf 2
              have s3 := rf 3
              obtain ⟨t0, t1, t2, t3, -⟩ := read_cells h6.head
              obtain ⟨e0, e1, e2, e3⟩ := set4_cells h6.rq.head (.int .i64 (st : Int)) (.int .i64 (-1)) (.bool true) (.bool false)
              have HBB := Lib.hid (h6.rq.below.trans (set4_below (B := w.heap.size) _ (Nat.le_refl _) (.int .i64 (st : Int)) (.int .i64 (-1)) (.bool true) (.bool false)))
              unfold set4 at e0 e1 e2 e3 HBB
              clear rf h6
              go_wp2
              exact bodyPost_ret (v := .tuple #[.agg #[.int .i64 (st : Int), .int .i64 (-1), .bool true, .bool false], .int .i64 (m : Int), .int .i64 0]) (by simp [results, Tryd.f9, go_sem, e0, e1, e2, e3]) rfl ⟨by rw [HR.out], by first | exact HBB.out | exact HBB.out.drew⟩
end Go.Proofs.YtnkpdnbnheffeaaDoor
