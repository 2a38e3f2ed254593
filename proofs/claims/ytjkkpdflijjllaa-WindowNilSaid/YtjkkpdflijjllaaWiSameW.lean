/- The program's Same. -/
import Derived.Test.YtjkkpdflijjllaaWiSameP
import Derived.StillTailTactics
import Derived.Deep.RegionHeld3
namespace Go.Proofs.Ytjkkpdflijjllaa
open Go.RowKit Go.Maps Go.Sort Go.Shelf

theorem wns_eq {L M : List Wn} (hL : SrtW L) (hM : SrtW M) (hle : L.length = M.length) (h : ∀ x ∈ L, x ∈ M) : L = M :=
  sub_eq (R := fun a b : Wn => a.num < b.num) (fun a => by omega) (fun h1 h2 => by omega) hL hM h hle
theorem num_only {L : List Wn} (hL : SrtW L) {x y : Wn} (hx : x ∈ L) (hy : y ∈ L) (e : x.num = y.num) : x = y := by
  obtain ⟨i, hi⟩ := List.getElem?_of_mem hx
  obtain ⟨j, hj⟩ := List.getElem?_of_mem hy
  obtain ⟨hi1, hi2⟩ := List.getElem?_eq_some_iff.1 hi
  obtain ⟨hj1, hj2⟩ := List.getElem?_eq_some_iff.1 hj
  have hp := List.pairwise_iff_getElem.1 hL
  rcases Nat.lt_trichotomy i j with hl | hl | hl
  · have := hp i j hi1 hj1 hl
    rw [hi2, hj2, e] at this
    omega
  · subst hl
    rw [← hi2, hj2]
  · have := hp j i hj1 hi1 hl
    rw [hi2, hj2, e] at this
    omega
abbrev fEq : FuncId := 41
set_option maxRecDepth 100000 in
set_option maxHeartbeats 4000000 in
theorem mapsEqualFunc_any {B1 B2 : Nat} {w : World} {p q b b' : Nat} {P P' : PW} {S T : Ws} (h1 : WiA B1 w p b P S) (h2 : WiA B2 w q b' P' T) (s1 : SrtW S.L) (s2 : SrtW T.L) :
    Calls Try.prog 40 #[.map (some b), .map (some b'), .func (.func 41) #[] #[]] w fun e w' => e = .returned (.bool (decide (S.L = T.L))) ∧ Turns [] w w' := by
  have l1 : ∀ ty, (Builtin.len_ #[tO] ty #[.map (some b)]).run Try.prog w = .ok (.int .i64 S.L.length) w := h1.lenM
  have l2 : ∀ ty, (Builtin.len_ #[tO] ty #[.map (some b')]).run Try.prog w = .ok (.int .i64 T.L.length) w := h2.lenM
  have HT := Lib.hid (Turns.refl [] w)
  by_cases hne : S.L.length = T.L.length
  · have hd : ((S.L.length : Int) != (T.L.length : Int)) = false := by simp [hne]
    have H1 := Lib.hid h1
    have H2 := Lib.hid h2
    have HS1 := Lib.hid s1
    have HS2 := Lib.hid s2
    have HLE := Lib.hid hne
    clear h1 h2 s1 s2 hne
    go_enter Try.func40, Try.ntmps40
    go_wp2_with (at_range; refine wpList_range_g numKD rfl _ tO rfl tI num_keyed undO mread b S.L.length _ rfl H1.out.map.map ?_; intro w3 hrg3 ht3 hs3)
    go_frame
    have HR3 := Lib.hid hrg3
    have HT3 := Lib.hid ht3
    obtain ⟨r, hr⟩ : ∃ r, r = w.heap.size := ⟨_, rfl⟩
    rw [← hr] at HR3 ⊢
    have HRE := Lib.hid hr
    clear hrg3 ht3 hs3 hr l1 l2
    go_loopw [] (fun wr => ∃ left cnt, RangeG numKD mread wr b r (fun x => (P x).map fun q => obW.V q.1) left cnt ∧ Hid (∀ z ∈ S.L, left z.num = false → z ∈ T.L) ∧ Hid (Turns [] w wr)) (fun wr => wr.rangeLeft b r)
    case atStart => exact ⟨_, _, HR3.out, Lib.hid (fun z hz hl => by
      have := (H1.out.tel.keys z.num).1 (List.mem_map_of_mem hz)
      rw [this] at hl
      cases hl), HT3⟩
    case round =>
      obtain ⟨left, cnt, hrg, HV, HTR⟩ := hrel
      obtain ⟨wo, hwo⟩ : ∃ wo, wo = wr := ⟨_, rfl⟩
      subst hwo
      have HRG := Lib.hid hrg
      clear hrg
      go_wp2_with (at_next; refine wpList_next_g numKD rfl _ rfl num_keyed mread mread_inj b r _ left cnt rfl HRG.out ?_ ?_)
      · intro hl0
        have HE : Hid (decide (S.L = T.L) = true) := Lib.hid (decide_eq_true (wns_eq HS1.out HS2.out HLE.out fun z hz => HV.out z hz (hl0 _)))
        clear hl0
        go_wp2
        go_ret
        exact ⟨by rw [HE.out]; rfl, HTR.out⟩
      · intro x v w4 cnt4 hsx hls g f k hu hv hrg4 hlt4 hg4 hs4 hen4
        subst hv
        obtain ⟨z, hz, hzx⟩ := H1.out.tel.all x _ hu
        obtain ⟨g', f', hgf, htc⟩ := H1.out.tel.mem z hz
        rw [hzx, hu] at hgf
        cases hgf
        have hnv : numKD.val x = .int .i64 x := rfl
        have hov : obW.V g = .map (some g) := rfl
        have HT4 : Hid (Turns [] w w4) := Lib.hid (HTR.out.trans hg4 fun i hi => .inr (by have := HRE.out; simp at hi; omega))
        have hlk := (H2.out.pre HT4.out).look hsx
        have HR4 := Lib.hid hrg4
        have HLT4 := Lib.hid hlt4
        have HZ := Lib.hid hz
        have HZX := Lib.hid hzx
        cases hp2 : P' x with
        | none =>
          have HE : Hid (decide (S.L = T.L) = false) := Lib.hid (decide_eq_false fun e => by
            rw [e] at hz
            exact H2.out.tel.none hp2 z hz hzx)
          rw [inW_none hp2, hp2] at hlk
          simp only [Option.isSome_none] at hlk
          clear hz hzx hs4 hg4 hrg4 hlt4 hls hsx hp2 hu htc
          go_wp2_with fail
          go_ret
          exact ⟨by rw [HE.out]; rfl, HT4.out⟩
        | some q2 =>
          obtain ⟨y, hy, hyx⟩ := H2.out.tel.all x q2 hp2
          obtain ⟨g2, f2, hgf2, htc2⟩ := H2.out.tel.mem y hy
          rw [hyx, hp2] at hgf2
          cases hgf2
          rw [inW_some hp2, hp2] at hlk
          simp only [Option.isSome_some] at hlk
          have he : ∀ args w, (callFunc 41 args).run Try.prog w = .ok (.enter 41 args) w := enters_of Try.func41 (by kernel_rfl) rfl
          have HCE := Lib.hid (mapsEqual_any (((H1.out.map.blk x _ hu).1 : MapS w g f z.cr.length).turns HT4.out (by simp)) (((H2.out.map.blk x _ hp2).1 : MapS w g2 f2 y.cr.length).turns HT4.out (by simp)) htc htc2)
          have HY := Lib.hid hy
          have HYX := Lib.hid hyx
          clear hz hzx hs4 hg4 hrg4 hlt4 hls hsx hp2 hu htc htc2 hy hyx
          go_wp2_with fail
          refine HCE.out.mono ?_
          rintro e w5 ⟨rfl, ht5⟩
          have HT5 := Lib.hid (HT4.out.then ht5)
          have HR5 := Lib.hid (HR4.out.turns ht5 (by simp) (by simp))
          clear ht5 HCE
          cases hq : decide (z.cr = y.cr) with
          | false =>
            have HE : Hid (decide (S.L = T.L) = false) := Lib.hid (decide_eq_false fun e => by
              have hz := HZ.out
              rw [e] at hz
              have := num_only HS2.out hz HY.out (HZX.out.trans HYX.out.symm)
              rw [this] at hq
              simp at hq)
            clear hq
            go_wp2_with fail
            go_ret
            exact ⟨by rw [HE.out]; rfl, HT5.out⟩
          | true =>
            have HV2 : Hid (∀ u ∈ S.L, (left u.num && !decide (u.num = x)) = false → u ∈ T.L) := Lib.hid fun u hu hl => by
              by_cases e : u.num = x
              · have h3 := num_only HS1.out hu HZ.out (e.trans HZX.out.symm)
                subst h3
                have h4 : u.cr = y.cr := of_decide_eq_true hq
                have h5 : u = y := by
                  cases u
                  cases y
                  have h6 := HZX.out.trans HYX.out.symm
                  simp only at h4 h6
                  rw [h4, h6]
                rw [h5]
                exact HY.out
              · exact HV.out u hu (by simpa [e] using hl)
            have HM : Hid (w5.rangeLeft b r < wo.rangeLeft b r) := Lib.hid (by rw [HR5.out.left_eq, HRG.out.left_eq]; exact HLT4.out)
            clear hq
            go_wp2_with fail
            go_roundw
            case rel => exact ⟨_, _, HR5.out, HV2, HT5⟩
            case measure => exact HM.out
  · have hd : ((S.L.length : Int) != (T.L.length : Int)) = true := by simp; omega
    have HE : Hid (decide (S.L = T.L) = false) := Lib.hid (decide_eq_false fun e => hne (by rw [e]))
    clear h1 h2 s1 s2 hne
    go_enter Try.func40, Try.ntmps40
    go_wp2_with fail
    go_ret
    exact ⟨by rw [HE.out]; rfl, HT.out⟩
end Go.Proofs.Ytjkkpdflijjllaa

namespace Go.Proofs.Ytjkkpdflijjllaa
open Go.RowKit Go.Maps Go.Sort Go.Shelf

theorem alike_parts (S T : Ws) : alikeW S T = (((S.len == T.len) && ((S.lat == T.lat) && (S.most == T.most))) && (((S.floor == T.floor) && ((S.mark == T.mark) && ((S.cred == T.cred) && (S.late == T.late)))) && decide (S.L = T.L))) := by
  rw [Bool.eq_iff_iff]
  unfold alikeW
  simp only [decide_eq_true_eq, Bool.and_eq_true, beq_iff_eq]
  constructor
  · rintro ⟨h1, h2, h3, h4, h5, h6, h7, h8⟩
    exact ⟨⟨h1, h2, h3⟩, ⟨h4, h5, h6, h7⟩, h8⟩
  · rintro ⟨⟨h1, h2, h3⟩, ⟨h4, h5, h6, h7⟩, h8⟩
    exact ⟨h1, h2, h3, h4, h5, h6, h7, h8⟩
set_option maxRecDepth 100000 in
set_option maxHeartbeats 4000000 in
theorem same_no1 {B1 B2 : Nat} {w : World} {p q b b' : Nat} {P P' : PW} {S T : Ws} (h1 : WiA B1 w p b P S) (h2 : WiA B2 w q b' P' T) (s1 : SrtW S.L) (s2 : SrtW T.L) (hr : ((S.len == T.len) && ((S.lat == T.lat) && (S.most == T.most))) = false) :
    Calls Try.prog 22 #[ptrV p, ptrV q] w fun e w' => e = .returned (.bool (alikeW S T)) ∧ Turns [] w w' := by
  have HN1 := Lib.hid (isNone_no h1.head h1.len)
  have HN2 := Lib.hid (isNone_no h2.head h2.len)
  obtain ⟨c0, c1, c2, c3, c4, c5, c6, c7, -⟩ := h1.head.cells
  obtain ⟨d0, d1, d2, d3, d4, d5, d6, d7, -⟩ := h2.head.cells
  have hgr := wr_guard
  have hgb := wb_guard
  have e1 := wr_eql S.len T.len S.lat T.lat S.most T.most
  have e2 := wb_eql S.floor T.floor S.mark T.mark S.cred T.cred S.late T.late
  have HT := Lib.hid (Turns.refl [] w)
  have hal := alike_parts S T
  rw [hr] at e1 hal
  rw [Bool.false_and] at hal
  have HAL := Lib.hid hal
  clear h1 h2 s1 s2 hr hal
  go_enter Try.func22, Try.ntmps22
  go_wp2_with fail
  refine HN1.out.mono ?_
  rintro e w1 ⟨rfl, rfl⟩
  go_wp2_with fail
  refine HN2.out.mono ?_
  rintro e w1 ⟨rfl, rfl⟩
  go_wp2_with fail
  go_quiet (fail)
  go_wp2_with fail
  go_ret
  exact ⟨by rw [HAL.out]; rfl, HT.out.drewN _⟩
set_option maxRecDepth 100000 in
set_option maxHeartbeats 4000000 in
theorem same_no2 {B1 B2 : Nat} {w : World} {p q b b' : Nat} {P P' : PW} {S T : Ws} (h1 : WiA B1 w p b P S) (h2 : WiA B2 w q b' P' T) (s1 : SrtW S.L) (s2 : SrtW T.L) (hr : ((S.len == T.len) && ((S.lat == T.lat) && (S.most == T.most))) = true) (hk : ((S.floor == T.floor) && ((S.mark == T.mark) && ((S.cred == T.cred) && (S.late == T.late)))) = false) :
    Calls Try.prog 22 #[ptrV p, ptrV q] w fun e w' => e = .returned (.bool (alikeW S T)) ∧ Turns [] w w' := by
  have HN1 := Lib.hid (isNone_no h1.head h1.len)
  have HN2 := Lib.hid (isNone_no h2.head h2.len)
  obtain ⟨c0, c1, c2, c3, c4, c5, c6, c7, -⟩ := h1.head.cells
  obtain ⟨d0, d1, d2, d3, d4, d5, d6, d7, -⟩ := h2.head.cells
  have hgr := wr_guard
  have hgb := wb_guard
  have e1 := wr_eql S.len T.len S.lat T.lat S.most T.most
  have e2 := wb_eql S.floor T.floor S.mark T.mark S.cred T.cred S.late T.late
  have HT := Lib.hid (Turns.refl [] w)
  have hal := alike_parts S T
  rw [hr] at e1 hal
  rw [hk] at e2 hal
  rw [Bool.true_and, Bool.false_and] at hal
  have HAL := Lib.hid hal
  clear h1 h2 s1 s2 hr hk hal
  go_enter Try.func22, Try.ntmps22
  go_wp2_with fail
  refine HN1.out.mono ?_
  rintro e w1 ⟨rfl, rfl⟩
  go_wp2_with fail
  refine HN2.out.mono ?_
  rintro e w1 ⟨rfl, rfl⟩
  go_wp2_with fail
  go_quiet (fail)
  go_wp2_with fail
  go_ret
  exact ⟨by rw [HAL.out]; rfl, HT.out.drewN _⟩
set_option maxRecDepth 100000 in
set_option maxHeartbeats 4000000 in
theorem same_yes {B1 B2 : Nat} {w : World} {p q b b' : Nat} {P P' : PW} {S T : Ws} (h1 : WiA B1 w p b P S) (h2 : WiA B2 w q b' P' T) (s1 : SrtW S.L) (s2 : SrtW T.L) (hr : ((S.len == T.len) && ((S.lat == T.lat) && (S.most == T.most))) = true) (hk : ((S.floor == T.floor) && ((S.mark == T.mark) && ((S.cred == T.cred) && (S.late == T.late)))) = true) :
    Calls Try.prog 22 #[ptrV p, ptrV q] w fun e w' => e = .returned (.bool (alikeW S T)) ∧ Turns [] w w' := by
  have HN1 := Lib.hid (isNone_no h1.head h1.len)
  have HN2 := Lib.hid (isNone_no h2.head h2.len)
  obtain ⟨c0, c1, c2, c3, c4, c5, c6, c7, -⟩ := h1.head.cells
  obtain ⟨d0, d1, d2, d3, d4, d5, d6, d7, -⟩ := h2.head.cells
  have hgr := wr_guard
  have hgb := wb_guard
  have e1 := wr_eql S.len T.len S.lat T.lat S.most T.most
  have e2 := wb_eql S.floor T.floor S.mark T.mark S.cred T.cred S.late T.late
  have HT := Lib.hid (Turns.refl [] w)
  have hal := alike_parts S T
  rw [hr] at e1 hal
  rw [hk] at e2 hal
  rw [Bool.true_and, Bool.true_and] at hal
  have HAL := Lib.hid hal
  have HD : Hid (Turns [] w w.drew) := Lib.hid (Turns.refl [] w).drew
  have HCE := Lib.hid (mapsEqualFunc_any (h1.pre HD.out) (h2.pre HD.out) s1 s2)
  clear h1 h2 s1 s2 hr hk hal
  go_enter Try.func22, Try.ntmps22
  go_wp2_with fail
  refine HN1.out.mono ?_
  rintro e w1 ⟨rfl, rfl⟩
  go_wp2_with fail
  refine HN2.out.mono ?_
  rintro e w1 ⟨rfl, rfl⟩
  go_wp2_with fail
  go_still_tail 29, (by kernel_rfl)
  go_wp2_with fail
  refine HCE.out.mono ?_
  rintro e w2 ⟨rfl, ht2⟩
  have HT2 := Lib.hid (HD.out.then ht2)
  clear ht2 HCE
  go_wp2_with fail
  go_ret
  exact ⟨by rw [HAL.out]; rfl, HT2.out⟩
theorem same_wi_any {B1 B2 : Nat} {w : World} {p q b b' : Nat} {P P' : PW} {S T : Ws} (h1 : WiA B1 w p b P S) (h2 : WiA B2 w q b' P' T) (s1 : SrtW S.L) (s2 : SrtW T.L) :
    Calls Try.prog 22 #[ptrV p, ptrV q] w fun e w' => e = .returned (.bool (alikeW S T)) ∧ Turns [] w w' := by
  cases hr : ((S.len == T.len) && ((S.lat == T.lat) && (S.most == T.most))) with
  | false => exact same_no1 h1 h2 s1 s2 hr
  | true =>
    cases hk : ((S.floor == T.floor) && ((S.mark == T.mark) && ((S.cred == T.cred) && (S.late == T.late)))) with
    | false => exact same_no2 h1 h2 s1 s2 hr hk
    | true => exact same_yes h1 h2 s1 s2 hr hk
end Go.Proofs.Ytjkkpdflijjllaa
