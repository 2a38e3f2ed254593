/- The program's Copy. -/
import Derived.Test.YtjkkpdflijjllaaWiCopyP
import Derived.Deep.RegionLaw
namespace Go.Proofs.Ytjkkpdflijjllaa
open Go.RowKit Go.Maps Go.Sort Go.Shelf

theorem cp_start {P : PW} {S : Ws} (ht : TelW P S.L) (hl : 1 ≤ S.len) (w : World) : CpO w (w.heap.size + 1) w.heap.size S (fun x => ((P x).map fun q => obW.V q.1).isSome) (fun _ => none) ((w.alloc (.map #[] 0)).alloc (.cells #[.int .i64 S.len, .int .i64 S.lat, .int .i64 S.most, .int .i64 S.floor, .int .i64 S.mark, .int .i64 S.cred, .int .i64 S.late, .map (some w.heap.size)] 66)) := by
  have h0 := MapO.made numKD obW w
  have ht1 : Turns [] (w.alloc (.map #[] 0)) ((w.alloc (.map #[] 0)).alloc (.cells #[.int .i64 S.len, .int .i64 S.lat, .int .i64 S.most, .int .i64 S.floor, .int .i64 S.mark, .int .i64 S.cred, .int .i64 S.late, .map (some w.heap.size)] 66)) := Turns.alloc _ _
  have hn := heap_alloc_new (w.alloc (.map #[] 0)) (.cells #[.int .i64 S.len, .int .i64 S.lat, .int .i64 S.most, .int .i64 S.floor, .int .i64 S.mark, .int .i64 S.cred, .int .i64 S.late, .map (some w.heap.size)] 66)
  rw [World.size_alloc] at hn
  have e : seenL Wn.num (fun x => ((P x).map fun q => obW.V q.1).isSome) S.L = [] := seenL_none fun z hz => (ht.keys z.num).1 (List.mem_map_of_mem hz)
  refine ⟨⟨hn, ?_, ⟨fun x hx => ?_, (fun n q hq => by cases hq)⟩, by omega, by omega, (fun n q hq => by cases hq), hl⟩, (Turns.alloc w (.map #[] 0)).then ht1⟩
  · have h1 := h0.pre ht1
    have e2 : ({ S with L := seenL Wn.num (fun x => ((P x).map fun q => obW.V q.1).isSome) S.L } : Ws).L.length = 0 := by
      show (seenL Wn.num (fun x => ((P x).map fun q => obW.V q.1).isSome) S.L).length = 0
      rw [e]
      rfl
    rw [e2]
    exact h1
  · have hx : x ∈ seenL Wn.num (fun x => ((P x).map fun q => obW.V q.1).isSome) S.L := hx
    rw [e] at hx
    cases hx
set_option maxRecDepth 100000 in
set_option maxHeartbeats 4000000 in
theorem copy_wi_any {B : Nat} {w : World} {p b : Nat} {P : PW} {S : Ws} (h : WiA B w p b P S) (hs : SmallL S.L) :
    Calls Try.prog 20 #[ptrV p] w fun e w' => ∃ q b2 P2, e = .returned (ptrV q) ∧ WiA w.heap.size w' q b2 P2 S ∧ Turns [] w w' := by
  have H := Lib.hid h
  have HS := Lib.hid hs
  have HNO := Lib.hid (isNone_no h.head h.len)
  have HC := Lib.hid (fun W (hW : Turns [] w W) => (h.pre hW).head.cells)
  obtain ⟨c0, c1, c2, c3, c4, c5, c6, c7, -⟩ := h.head.cells
  have hplt := h.head.lt
  have hmm := @run_makeMap Try.prog
  clear h hs
  go_enter Try.func20, Try.ntmps20
  go_wp2_with fail
  refine HNO.out.mono ?_
  rintro e w1 ⟨rfl, rfl⟩
  go_wp2_with fail
  go_cut [3] from 10 to 20 (fun v3 wx => v3 = ptrV (w.heap.size + 1) ∧ Hid (CpO w (w.heap.size + 1) w.heap.size S (fun x => ((P x).map fun q => obW.V q.1).isSome) (fun _ => none) wx))
  case first =>
    have HST := Lib.hid (cp_start H.out.tel H.out.len w)
    go_region
    all_goals
      go_wp2_with fail
      go_meet
      exact ⟨rfl, Lib.hid (HST.out.pre (Turns.refl [] _).drew)⟩
  case rest =>
    obtain ⟨rfl, HJ0⟩ := hcut
    obtain ⟨-, -, -, -, -, -, -, d7, -⟩ := HC.out wc HJ0.out.tt
    have HA := Lib.hid (H.out.pre HJ0.out.tt)
    clear c0 c1 c2 c3 c4 c5 c6 c7
    go_wp2_with (at_range; refine wpList_range_g numKD rfl _ tO rfl tI num_keyed undO mread b S.L.length _ rfl HA.out.map.map ?_; intro w0 hrg0 ht0 hs0)
    go_frame
    have HR0 := Lib.hid hrg0
    have HJ1 := Lib.hid (HJ0.out.pre ht0)
    obtain ⟨q, hq⟩ : ∃ q, w.heap.size + 1 = q := ⟨_, rfl⟩
    obtain ⟨b2, hb2⟩ : ∃ b2, w.heap.size = b2 := ⟨_, rfl⟩
    have HB2 := Lib.hid hb2
    have HQ := Lib.hid hq
    rw [hq] at HJ1 ⊢
    rw [show CpO w q w.heap.size S _ _ w0 = CpO w q b2 S _ _ w0 by rw [hb2]] at HJ1
    obtain ⟨r, hr⟩ : ∃ r, r = wc.heap.size := ⟨_, rfl⟩
    have HRL : Hid (w.heap.size + 1 < r ∧ b < w.heap.size) := Lib.hid ⟨by have := (HJ0.out.wi.lt _ (.inl rfl)).2; omega, H.out.map.map.lt⟩
    rw [← hr] at HR0 ⊢
    clear hrg0 ht0 hs0 d7 hr hq hb2 HJ0
    go_loopw [] (fun wr => ∃ left cnt P2, RangeG numKD mread wr b r (fun x => (P x).map fun q => obW.V q.1) left cnt ∧ Hid (CpO w q b2 S left P2 wr)) (fun wr => wr.rangeLeft b r)
    case atStart => exact ⟨_, _, _, HR0.out, HJ1⟩
    case round =>
      obtain ⟨left, cnt, P2, hrg, HJ⟩ := hrel
      obtain ⟨wo, hwo⟩ : ∃ wo, wo = wr := ⟨_, rfl⟩
      subst hwo
      have HRG := Lib.hid hrg
      clear hrg
      go_wp2_with (at_next; refine wpList_next_g numKD rfl _ rfl num_keyed mread mread_inj b r _ left cnt rfl HRG.out ?_ ?_)
      · intro hl0
        have HFIN : Hid (WiA w.heap.size wo q b2 P2 S ∧ Turns [] w wo) := Lib.hid (by
          have h1 := HJ.out.wi
          rw [seenL_all hl0] at h1
          exact ⟨h1, HJ.out.tt⟩)
        clear hl0
        go_wp2
        go_ret
        exact ⟨q, b2, P2, rfl, HFIN.out⟩
      · intro x v w2 cnt1 hwx hlx g f k hu hv hrg1 hlt hg1 hs1 hen
        subst hv
        obtain ⟨y, hy, hyx⟩ := H.out.tel.all x _ hu
        obtain ⟨g', f', hgf, htc⟩ := H.out.tel.mem y hy
        rw [hyx, hu] at hgf
        cases hgf
        have hnv : numKD.val x = .int .i64 x := rfl
        have hov : obW.V g = .map (some g) := rfl
        have hrq : ∀ i ∈ [r], w.heap.size ≤ i ∧ ¬ WiA.In q b2 P2 i := fun i hi => by
          rw [List.mem_singleton] at hi
          subst hi
          refine ⟨by have := HRL.out; omega, ?_⟩
          rintro (e | e | ⟨z, u, hu2, e⟩)
          · have := HRL.out; have := HQ.out; omega
          · have := HRL.out; have := HB2.out; omega
          · exact HRG.out.not_map (HJ.out.wi.map.blk z u hu2).1 e
        have hJ2 := HJ.out.turns hg1 hrq
        obtain ⟨Y, hrun, hI, htY⟩ := hJ2.fresh (l := y.cr) hlx hwx HS.out.len f (fun s => (f s).isSome) (fun _ => rfl) (seenL_none fun c hc => by rw [htc.mem c hc]; rfl)
        obtain ⟨-, -, -, -, -, -, -, d7, -⟩ := hJ2.wi.head.cells
        have hmg : MapS Y g f y.cr.length := ((H.out.map.blk x _ hu).1 : MapS w g f y.cr.length).turns hI.tt (by simp)
        have hglt : g < w.heap.size := ((H.out.map.blk x _ hu).1 : MapS w g f y.cr.length).lt
        have HMG := Lib.hid hmg
        have hRY : RangeG numKD mread Y b r (fun x => (P x).map fun q => obW.V q.1) (fun z => left z && !decide (z = x)) cnt1 := hrg1.turns htY (by have := HRL.out; have := HB2.out; simp; omega) (by have := HRL.out; have := HB2.out; simp; omega)
        have HRY := Lib.hid hRY
        have HI := Lib.hid hI
        have HJ2 := Lib.hid hJ2
        have HX := Lib.hid hwx
        have HLX := Lib.hid hlx
        have HTC := Lib.hid htc
        have HY := Lib.hid hy
        have HYX := Lib.hid hyx
        have HLT := Lib.hid hlt
        have HGI : Hid (w.heap.size ≤ w2.heap.size ∧ r < w2.heap.size ∧ w2.heap.size < Y.heap.size ∧ g < w.heap.size) := Lib.hid ⟨hI.low.1, by have := HRG.out.lt; omega, hI.low.2.1, hglt⟩
        have HYL := Lib.hid (HS.out.cr y hy)
        clear hs1 hy hyx htc hlt hrg1 hg1 hJ2 hI htY hRY hmg hglt hlx hwx hrq hu
        go_wp2_with (at_range; refine wpList_range_g txtKD rfl _ tI rfl 78 txt_keyed undI sumR g y.cr.length f rfl HMG.out ?_; intro w3 hrg3 ht3 hs3)
        go_frame
        have HR3 := Lib.hid hrg3
        have HI3 := Lib.hid (HI.out.pre ht3)
        have HRY3 := Lib.hid (HRY.out.turns ht3 (by simp) (by simp))
        obtain ⟨r2, hr2⟩ : ∃ r2, r2 = Y.heap.size := ⟨_, rfl⟩
        have HR2 := Lib.hid hr2
        rw [← hr2] at HR3 ⊢
        clear hrg3 ht3 hs3 hr2 d7 hrun hen
        go_loopw [] (fun wr => ∃ lt2 cnt2 f2, RangeG txtKD sumR wr g r2 f lt2 cnt2 ∧ Hid (CpI w q b2 S left P2 x w2.heap.size f y.cr lt2 f2 wr) ∧ Hid (RangeG numKD mread wr b r (fun x => (P x).map fun q => obW.V q.1) (fun z => left z && !decide (z = x)) cnt1)) (fun wr => wr.rangeLeft g r2)
        case atStart => exact ⟨_, _, _, HR3.out, HI3, HRY3⟩
        case round =>
          obtain ⟨lt2, cnt2, f2, hrgi, HCI, HRO⟩ := hrel
          have HRI := Lib.hid hrgi
          clear hrgi
          go_wp2_with (at_next; refine wpList_next_g txtKD rfl _ rfl txt_keyed sumR sumR_inj g r2 _ lt2 cnt2 rfl HRI.out ?_ ?_)
          · intro hl0
            have HD := Lib.hid (HCI.out.done HJ2.out HS.out.srt HLX.out HY.out HYX.out rfl HTC.out hl0)
            have HM : Hid (wr.rangeLeft b r < wo.rangeLeft b r) := Lib.hid (by rw [HRO.out.left_eq, HRG.out.left_eq]; exact HLT.out)
            clear hl0
            go_wp2
            go_roundw
            case rel => exact ⟨_, cnt1, _, HRO.out, HD⟩
            case measure => exact HM.out
          · intro s v w4 cnt4 hsx hls hfs hrg4 hlt4 hg4 hs4 hen4
            obtain ⟨c, hc, hcn, hcv⟩ := HTC.out.some hfs
            subst hcv
            have HSS : Hid (s.size ≤ 140737488355328) := Lib.hid (by rw [← hcn]; exact HTC.out.size c hc)
            have hsv : sumV c = .agg #[.int .i64 c.inc, .bool c.over] := rfl
            have htv : txtKD.val s = .string s := rfl
            have hP2 : ∀ z u, P2 z = some u → u.1 < w2.heap.size := fun z u hu => (HJ2.out.wi.lt u.1 (.inr (.inr ⟨z, u, hu, rfl⟩))).2
            have hq2 := (HJ2.out.wi.lt q (.inl rfl)).2
            have hb2l := (HJ2.out.wi.lt b2 (.inr (.inl rfl))).2
            have hC4 : CpI w q b2 S left P2 x w2.heap.size f y.cr lt2 f2 w4 := HCI.out.turns hg4 fun i hi => by
              rw [List.mem_singleton] at hi
              have h1 := HGI.out
              have h2 := HR2.out
              refine ⟨by omega, by omega, by omega, by omega, fun z u hu => ?_⟩
              have := hP2 z u hu
              omega
            have HC4 := Lib.hid hC4
            have HRI4 := Lib.hid hrg4
            have HRO4 := Lib.hid (HRO.out.turns hg4 (by have := HGI.out; have := HRL.out; have := HR2.out; simp; omega) (by have := HGI.out; have := HR2.out; simp; omega))
            have HLT4 := Lib.hid hlt4
            have HLS := Lib.hid hls
            have HFS := Lib.hid hfs
            clear hc hcn hs4 hg4 hrg4 hlt4 hls hfs hsx hP2 hq2 hb2l hC4
            go_upto_region 11 with fail
            obtain ⟨W5, hW5⟩ : ∃ W5, w4.alloc (.cells #[.int .i64 c.inc, .bool c.over] 78) = W5 := ⟨_, rfl⟩
            have hb5 : W5.heap[w4.heap.size]? = some (.cells #[.int .i64 c.inc, .bool c.over] 78 (0, 0)) := by rw [← hW5]; exact heap_alloc_new w4 _
            have ht5 : Turns [] w4 W5 := by rw [← hW5]; exact Turns.alloc _ _
            rw [hW5]
            have HB5 := Lib.hid hb5
            have HT5 := Lib.hid ht5
            have HSK : Hid (∀ X, Hid (Turns [] W5 X) → X.cell? ⟨q, 7, none⟩ = some (.map (some b2)) ∧ (Instr.lookup tO (.map (some b2)) (.int .i64 x) false).run Try.prog X = .ok (.map (some w2.heap.size)) X ∧ X.cell? ⟨w4.heap.size, 0, none⟩ = some (.int .i64 c.inc) ∧ X.cell? ⟨w4.heap.size, 1, none⟩ = some (.bool c.over)) := Lib.hid fun X hX => by
              have h1 := HC4.out.pre (HT5.out.then hX.out)
              obtain ⟨k1, k2⟩ := h1.look HX.out
              have h2 := (hX.out.block _ (lt_of_block HB5.out) (by simp)).trans HB5.out
              exact ⟨k1, k2, by simp [World.cell?, h2], by simp [World.cell?, h2]⟩
            have HD : Hid (Turns [] W5 W5.drew) := Lib.hid (Turns.refl [] W5).drew
            have HCL : Hid (∀ X, Hid (Turns [] W5 X) → Calls Try.prog 39 #[.string s] X fun e w' => e = .returned (.string s) ∧ Turns [] X w') := Lib.hid fun X _ => clone_wi _ _ HSS.out
            have HST : Hid (∀ X, Hid (Turns [] W5 X) → ∃ Y2, (Instr.mapUpdate tI (.map (some w2.heap.size)) (.string s) (.agg #[.int .i64 c.inc, .bool c.over])).run Try.prog X = .ok () Y2 ∧
                (CpI w q b2 S left P2 x w2.heap.size f y.cr (fun z => lt2 z && !decide (z = s)) (fun z => if z = s then some (sumV c) else f2 z) Y2 ∧ RangeG txtKD sumR Y2 g r2 f (fun y => lt2 y && !decide (y = s)) cnt4 ∧ RangeG numKD mread Y2 b r (fun x => (P x).map fun q => obW.V q.1) (fun z => left z && !decide (z = x)) cnt1 ∧ Y2.rangeLeft g r2 < wr.rangeLeft g r2)) := Lib.hid fun X hX => by
              have hT := HT5.out.then hX.out
              obtain ⟨Y2, k1, k2, k3⟩ := (HC4.out.pre hT).store HTC.out HLS.out HFS.out HYL.out
              have h1 := HGI.out
              have h2 := HR2.out
              have h3 := HRL.out
              have k4 : RangeG txtKD sumR Y2 g r2 f (fun y => lt2 y && !decide (y = s)) cnt4 := (HRI4.out.turns hT (by simp) (by simp)).turns k3 (by simp; omega) (by simp; omega)
              exact ⟨Y2, k1, k2, k4, (HRO4.out.turns hT (by simp) (by simp)).turns k3 (by simp; omega) (by simp; omega), by rw [k4.left_eq, HRI.out.left_eq]; exact HLT4.out⟩
            obtain ⟨a0, a1, a2, a3⟩ := HSK.out _ HD
            clear hb5 ht5 hW5 hen4
            go_region_law ((go_simp; go_at_call 39; refine (HCL.out _ HD).mono ?_; rintro e w6 ⟨rfl, ht6⟩; have HT6 : Hid (Turns [] W5 w6) := Lib.hid (HD.out.then ht6); obtain ⟨b0, b1, b2', b3⟩ := HSK.out _ HT6; obtain ⟨Y2, hup, hfin⟩ := HST.out _ HT6; have HFIN := Lib.hid hfin; clear ht6 hfin))
            all_goals
              clear a0 a1 a2 a3
              go_wp2
              go_roundw
              case rel => exact ⟨_, ⟨_, HFIN.out.2.1⟩, ⟨_, Lib.hid HFIN.out.1⟩, Lib.hid HFIN.out.2.2.1⟩
              case measure => exact HFIN.out.2.2.2
end Go.Proofs.Ytjkkpdflijjllaa
