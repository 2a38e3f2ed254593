/- StoreCopies, walked. -/
import Derived.Test.YtadndefbdofodaaStBoth
import Derived.Deep.RegionHeld3
namespace Go.Proofs.Ytadndefbdofodaa
open Go.RowKit

set_option maxRecDepth 100000 in
set_option maxHeartbeats 8000000 in
theorem storeCopies_main (C : StC) (most : Int) (A0 A1 A2 : Option Addr) (cap cap1 cap2 : Nat) (l a b' : List Pt) (w : World) (hl : l.length ≤ 9223372036854775807) (ha : a.length ≤ 9223372036854775807) (hb : b'.length ≤ 9223372036854775807) (hr : PReads w w.heap.size A0 l) (hra : PReads w w.heap.size A1 a) (hrb : PReads w w.heap.size A2 b') (hf : fewP l 10 = true) (hfa : fewP a 10 = true) (hfb : fewP b' 10 = true) (hm : -9223372036854775808 ≤ most ∧ most ≤ 9223372036854775807) :
    Calls Try.prog 5 #[.int .i64 most, .slice A0 l.length cap, .slice A1 a.length cap1, .slice A2 b'.length cap2] w (FinS w) := by
  have HF := Lib.hid (fun X (ht : Turns [] w X) => fewP_any A0 cap 10 l X hl (by omega) (hr.lift ht))
  have HFA := Lib.hid (fun X (ht : Turns [] w X) => fewP_any A1 cap1 10 a X ha (by omega) (hra.lift ht))
  have HFB := Lib.hid (fun X (ht : Turns [] w X) => fewP_any A2 cap2 10 b' X hb (by omega) (hrb.lift ht))
  rw [hf] at HF
  rw [hfa] at HFA
  rw [hfb] at HFB
  have few_of : ∀ l : List Pt, fewP l 10 = true → l.length ≤ 10 ∧ sumP l ≤ 200 := fun l hf => by
    unfold fewP at hf
    simpa using hf
  have HLE := Lib.hid (few_of l hf)
  have HLEA := Lib.hid (few_of a hfa)
  have HLEB := Lib.hid (few_of b' hfb)
  have HR := Lib.hid hr
  have HRA0 := Lib.hid hra
  have HRB0 := Lib.hid hrb
  have HK := Lib.hid (fun W => known_any C W)
  have HNW := Lib.hid (fun X (ht : Turns [] w X) => lone_newS (C := C) ht most hm.1 hm.2)
  have HRW := Lib.hid (fun X => rnewS_any most X hm.2)
  obtain ⟨NN, hNN⟩ : ∃ NN, NN = l.length := ⟨_, rfl⟩
  obtain ⟨NA, hNA⟩ : ∃ NN, NN = a.length := ⟨_, rfl⟩
  obtain ⟨NB, hNB⟩ : ∃ NN, NN = b'.length := ⟨_, rfl⟩
  rw [← hNN] at HF ⊢
  rw [← hNA] at HFA ⊢
  rw [← hNB] at HFB ⊢
  have HNN := Lib.hid hNN
  have HNA := Lib.hid hNA
  have HNB := Lib.hid hNB
  clear hl ha hb hr hra hrb hf hfa hfb hm few_of hNN hNA hNB
  go_enter Try.func5, Try.ntmps5
  go_wp2_with fail
  refine (HF.out _ (Turns.refl _ _)).mono ?_
  rintro e x1 ⟨rfl, hb1⟩
  have HB1 := Lib.hid (Turns.of_below hb1 (Nat.le_refl _))
  clear HF hb1
  go_wp2_with fail
  refine (HFA.out _ HB1.out).mono ?_
  rintro e x2 ⟨rfl, hb2⟩
  have HB2 := Lib.hid (HB1.out.then (Turns.of_below hb2 (Nat.le_refl _)))
  clear HFA hb2 HB1
  go_wp2_with fail
  refine (HFB.out _ HB2.out).mono ?_
  rintro e x3 ⟨rfl, hb3⟩
  have HB3 := Lib.hid (HB2.out.then (Turns.of_below hb3 (Nat.le_refl _)))
  clear HFB hb3 HB2
  go_wp2_with fail
  refine (HNW.out _ HB3.out).mono ?_
  rintro e x4 ⟨p, rfl, h4⟩
  have H4 := Lib.hid h4
  clear HNW h4
  go_wp2_with fail
  refine (HRW.out _).mono ?_
  rintro e x5 ⟨rfl, hr5, hb5⟩
  have HP5 := Lib.hid (PairX.start H4.out (Turns.of_below hb5 (Nat.le_refl _)) hr5)
  clear HRW hr5 hb5 H4
  generalize x4.heap.size = rv at HP5 ⊢
  generalize most.toNat = mo at HP5
  obtain ⟨b, hbe⟩ : ∃ b : Base, b = .plain w := ⟨_, rfl⟩
  have HW := Lib.hid (show b.w = w by rw [hbe])
  have HBP := Lib.hid hbe
  rw [← hbe] at HP5
  clear hbe
  have HS5 : Hid (∃ L, L.length ≤ 0 + sumP (l.take 0) ∧ PairX C b x5 p mo L rv mo L) := Lib.hid ⟨[], by simp, HP5.out⟩
  clear HP5
  go_upto_block 0 with fail
  go_cut [11] from 37 to 66 (fun u wx => Hid (∃ L, L.length ≤ 0 + sumP l ∧ PairX C b wx p mo L rv mo L))
  case first =>
    go_wp2_with fail
    go_loopw [11] (fun iv wr => ∃ k : Nat, k ≤ NN ∧ iv = .int .i64 (k : Int) ∧ Hid (∃ L, L.length ≤ 0 + sumP (l.take k) ∧ PairX C b wr p mo L rv mo L)) (fun iv _ => NN - (intOf iv).toNat)
    case atStart => exact ⟨0, Nat.zero_le _, rfl, HS5⟩
    case round =>
      obtain ⟨k, hk, rfl, HP⟩ := hrel
      obtain ⟨L, hL, hp⟩ := HP.out
      have hn60 : (NN : Int) ≤ 60 := by have := HLE.out.1; have := HNN.out; omega
      by_cases hlt : k < NN
      · have hlt' : (k : Int) < (NN : Int) := by omega
        have hk0 : (0 : Int) ≤ (k : Int) := by omega
        obtain ⟨a', ha⟩ : ∃ z, l[k]? = some z := ⟨_, List.getElem?_eq_getElem (by have := HNN.out; omega)⟩
        rcases HR.out with h0 | ⟨g, off, rfl, hg, hc⟩
        · rw [h0] at ha
          simp at ha
        obtain ⟨⟨c0, c1⟩, hra, ⟨hac, hcm⟩, hao, hal, hok⟩ := hc k a' ha
        obtain ⟨n, hn⟩ : ∃ n, n = a'.l.length := ⟨_, rfl⟩
        have HBW := HW
        have HC : Hid (∀ W, Turns [] b.w W → W.cell? ⟨g, off + k * 2, none⟩ = some (.int .i64 a'.own) ∧ W.cell? ⟨g, off + k * 2 + 1, none⟩ = some (.slice a'.A n a'.c)) := Lib.hid (fun W ht => by
          rw [HBW.out] at ht
          exact ⟨(ht.cell hg (by simp) _).trans c0, by rw [hn]; exact (ht.cell hg (by simp) _).trans c1⟩)
        obtain ⟨d0, d1⟩ := HC.out wr hp.turns
        have hs1 := sumP_take_succ ha
        have hs2 := sumP_take_le l (k + 1)
        have h200 := HLE.out.2
        have HRA : Hid (∀ X, Turns [] b.w X → sK.Reads X X.heap.size a'.A a'.l) := Lib.hid (fun X ht => by
          rw [HBW.out] at ht
          exact (hra.turns (Nat.le_refl _) ht (by simp)).more ht.size)
        have HAL : Hid (a'.l = [] ∨ ∀ a2, a'.A = some a2 → a2.block < b.w.heap.size) := Lib.hid (by
          rw [HBW.out]
          rcases hra with h | ⟨b0, o, e2, hb, _⟩
          · exact .inl h
          · exact .inr fun a2 e => by rw [e2] at e; cases e; exact hb)
        have HPT := Lib.hid (fun X (ht : Turns [] wr X) => pair_put0 (hp.pre ht) (l := a'.l) (A := a'.A) (c := a'.c) (by omega) hac hcm (HRA.out X (hp.turns.then ht)) HAL.out a'.own hao hok)
        have hql := putsP_most mo a'.own a'.l L
        generalize hqq : putP mo a'.own a'.l L = q' at HPT hql
        have HRP : Hid (∀ X, PairX C b X p mo q'.2 rv mo L → Calls Try.prog 14 #[ptr rv, .int .i64 a'.own, .slice a'.A n a'.c] X fun e Z => (∃ o, e = .returned o) ∧ PairX C b Z p mo q'.2 rv mo q'.2) := Lib.hid (fun X hx => by
          have h := pair_rput hx (l := a'.l) (A := a'.A) (c := a'.c) (by omega) hac (HRA.out X hx.turns) (HAL.out.imp id fun h a2 e => .inl (h a2 e)) a'.own
          rw [hqq, ← hn] at h
          exact h.mono fun e Z ⟨o, h1, _, h2⟩ => ⟨⟨o, h1⟩, h2⟩)
        rw [← hn] at HPT hql
        have HQ := Lib.hid (show q'.2.length ≤ 0 + sumP (l.take (k + 1)) from by omega)
        have HCB := Lib.hid (fun X L1 L2 (h : PairX C b X p mo L1 rv mo L2) => HC.out X h.turns)
        have HKL := Lib.hid hlt
        clear hc c0 c1 hac hcm hao hal hok hra hs1 hs2 h200 ha hp HP hL hql hqq hn HC HRA HAL hlt
        go_wp2_with fail
        refine wp_region_noPanic ?_
        go_region_held (fun w' => w'.cell? ⟨g, off + k * 2, none⟩ = some (.int .i64 a'.own) ∧ w'.cell? ⟨g, off + k * 2 + 1, none⟩ = some (.slice a'.A n a'.c)) (first | exact ⟨d0, d1⟩ | exact ⟨f0, f1⟩ | assumption) ((go_at_call 12; refine (HPT.out _ (by first | exact Turns.refl _ _ | exact (Turns.refl _ _).drew)).mono ?_; rintro e w5 ⟨⟨o5, rfl⟩, hp5⟩; have HP5 := Lib.hid hp5; obtain ⟨f0, f1⟩ := HCB.out w5 _ _ hp5; clear hp5))
        refine NoPanic.normal ?_
        rename_i hh
        clear hh HPT d0 d1
        go_wp2_with fail
        refine wp_region_noPanic ?_
        go_region_held (fun w' => w'.cell? ⟨g, off + k * 2, none⟩ = some (.int .i64 a'.own) ∧ w'.cell? ⟨g, off + k * 2 + 1, none⟩ = some (.slice a'.A n a'.c)) (first | exact ⟨f0, f1⟩ | exact ⟨i0, i1⟩ | assumption) ((go_at_call 14; refine (HRP.out _ (by first | exact HP5.out | exact HP5.out.pre (Turns.refl _ _).drew)).mono ?_; rintro e w6 ⟨⟨o6, rfl⟩, hp6⟩; have HP6 := Lib.hid hp6; obtain ⟨i0, i1⟩ := HCB.out w6 _ _ hp6; clear hp6))
        refine NoPanic.normal ?_
        rename_i hh
        clear hh HRP HCB f0 f1 i0 i1 HP5
        go_wp2_with fail
        go_roundw
        case rel => exact ⟨k + 1, HKL.out, by go_num, Lib.hid ⟨q'.2, HQ.out, HP6.out⟩⟩
        case measure => have := HKL.out; simp [intOf]; omega
      · have hge : decide ((k : Int) < (NN : Int)) = false := by simp; omega
        obtain rfl : k = NN := by omega
        have HX : Hid (∃ L, L.length ≤ 0 + sumP l ∧ PairX C b wr p mo L rv mo L) := Lib.hid ⟨L, by rw [HNN.out, List.take_length] at hL; exact hL, hp⟩
        clear hp HP hL
        go_wp2_with fail
        go_meet
        exact HX
  case rest =>
  obtain ⟨L, hL, hp⟩ := hcut.out
  rw [HBP.out] at hp
  have HL0 := Lib.hid (show L.length ≤ 200 by have := HLE.out; omega)
  have HPC := Lib.hid (pair_copyS hp (by have := HLE.out; omega))
  clear hcut hp hL HS5 HW HBP b
  go_wp2_with fail
  refine HPC.out.mono ?_
  rintro e x6 ⟨q, rfl, h6⟩
  have HMC := Lib.hid (mid_copyS h6 (by have := HL0.out; omega))
  clear h6 HPC
  go_wp2_with fail
  refine HMC.out.mono ?_
  rintro e x7 ⟨rq, rfl, h7⟩
  have HB7 := Lib.hid h7
  have HSM := Lib.hid (both_sameS h7 (by have := HL0.out; omega) (by have := HL0.out; omega))
  rw [decide_eq_true (rfl : L = L)] at HSM
  clear h7 HMC
  go_wp2_with fail
  refine HSM.out.mono ?_
  rintro e x8 ⟨rfl, t8⟩
  have HB8 := Lib.hid (HB7.out.pre t8)
  have HSN := Lib.hid (both_sameS HB8.out.swap (by have := HL0.out; omega) (by have := HL0.out; omega))
  rw [decide_eq_true (rfl : L = L)] at HSN
  clear t8 HSM HB7
  go_wp2_with fail
  refine HSN.out.mono ?_
  rintro e x9 ⟨rfl, t9⟩
  have HB9 := Lib.hid (HB8.out.pre t9)
  clear t9 HSN HB8
  obtain ⟨b, hbw, hb9, hbk⟩ := both_open HB9.out
  have HW := Lib.hid hbw
  have HBK := Lib.hid hbk
  have HS9 : Hid (∃ L', L'.length ≤ 200 + sumP (a.take 0) ∧ PairX C b x9 p mo L' rv mo L') := Lib.hid ⟨L, by have := HL0.out; omega, hb9⟩
  clear hbw hb9 hbk HB9
  go_upto_block 2 with fail
  go_cut [14] from 81 to 110 (fun u wx => Hid (∃ L, L.length ≤ 200 + sumP a ∧ PairX C b wx p mo L rv mo L))
  case first =>
    go_wp2_with fail
    go_loopw [14] (fun iv wr => ∃ k : Nat, k ≤ NA ∧ iv = .int .i64 (k : Int) ∧ Hid (∃ L, L.length ≤ 200 + sumP (a.take k) ∧ PairX C b wr p mo L rv mo L)) (fun iv _ => NA - (intOf iv).toNat)
    case atStart => exact ⟨0, Nat.zero_le _, rfl, HS9⟩
    case round =>
      obtain ⟨k, hk, rfl, HP⟩ := hrel
      obtain ⟨L, hL, hp⟩ := HP.out
      have hn60 : (NA : Int) ≤ 60 := by have := HLEA.out.1; have := HNA.out; omega
      by_cases hlt : k < NA
      · have hlt' : (k : Int) < (NA : Int) := by omega
        have hk0 : (0 : Int) ≤ (k : Int) := by omega
        obtain ⟨a', ha⟩ : ∃ z, a[k]? = some z := ⟨_, List.getElem?_eq_getElem (by have := HNA.out; omega)⟩
        rcases HRA0.out with h0 | ⟨g, off, rfl, hg, hc⟩
        · rw [h0] at ha
          simp at ha
        obtain ⟨⟨c0, c1⟩, hra, ⟨hac, hcm⟩, hao, hal, hok⟩ := hc k a' ha
        obtain ⟨n, hn⟩ : ∃ n, n = a'.l.length := ⟨_, rfl⟩
        have HBW := HW
        have HC : Hid (∀ W, Turns [] b.w W → W.cell? ⟨g, off + k * 2, none⟩ = some (.int .i64 a'.own) ∧ W.cell? ⟨g, off + k * 2 + 1, none⟩ = some (.slice a'.A n a'.c)) := Lib.hid (fun W ht => by
          rw [HBW.out] at ht
          exact ⟨(ht.cell hg (by simp) _).trans c0, by rw [hn]; exact (ht.cell hg (by simp) _).trans c1⟩)
        obtain ⟨d0, d1⟩ := HC.out wr hp.turns
        have hs1 := sumP_take_succ ha
        have hs2 := sumP_take_le a (k + 1)
        have h200 := HLEA.out.2
        have HRA : Hid (∀ X, Turns [] b.w X → sK.Reads X X.heap.size a'.A a'.l) := Lib.hid (fun X ht => by
          rw [HBW.out] at ht
          exact (hra.turns (Nat.le_refl _) ht (by simp)).more ht.size)
        have HAL : Hid (a'.l = [] ∨ ∀ a2, a'.A = some a2 → a2.block < b.w.heap.size) := Lib.hid (by
          rw [HBW.out]
          rcases hra with h | ⟨b0, o, e2, hb, _⟩
          · exact .inl h
          · exact .inr fun a2 e => by rw [e2] at e; cases e; exact hb)
        have HPT := Lib.hid (fun X (ht : Turns [] wr X) => pair_put0 (hp.pre ht) (l := a'.l) (A := a'.A) (c := a'.c) (by omega) hac hcm (HRA.out X (hp.turns.then ht)) HAL.out a'.own hao hok)
        have hql := putsP_most mo a'.own a'.l L
        generalize hqq : putP mo a'.own a'.l L = q' at HPT hql
        have HRP : Hid (∀ X, PairX C b X p mo q'.2 rv mo L → Calls Try.prog 14 #[ptr rv, .int .i64 a'.own, .slice a'.A n a'.c] X fun e Z => (∃ o, e = .returned o) ∧ PairX C b Z p mo q'.2 rv mo q'.2) := Lib.hid (fun X hx => by
          have h := pair_rput hx (l := a'.l) (A := a'.A) (c := a'.c) (by omega) hac (HRA.out X hx.turns) (HAL.out.imp id fun h a2 e => .inl (h a2 e)) a'.own
          rw [hqq, ← hn] at h
          exact h.mono fun e Z ⟨o, h1, _, h2⟩ => ⟨⟨o, h1⟩, h2⟩)
        rw [← hn] at HPT hql
        have HQ := Lib.hid (show q'.2.length ≤ 200 + sumP (a.take (k + 1)) from by omega)
        have HCB := Lib.hid (fun X L1 L2 (h : PairX C b X p mo L1 rv mo L2) => HC.out X h.turns)
        have HKL := Lib.hid hlt
        clear hc c0 c1 hac hcm hao hal hok hra hs1 hs2 h200 ha hp HP hL hql hqq hn HC HRA HAL hlt
        go_wp2_with fail
        refine wp_region_noPanic ?_
        go_region_held (fun w' => w'.cell? ⟨g, off + k * 2, none⟩ = some (.int .i64 a'.own) ∧ w'.cell? ⟨g, off + k * 2 + 1, none⟩ = some (.slice a'.A n a'.c)) (first | exact ⟨d0, d1⟩ | exact ⟨f0, f1⟩ | assumption) ((go_at_call 12; refine (HPT.out _ (by first | exact Turns.refl _ _ | exact (Turns.refl _ _).drew)).mono ?_; rintro e w5 ⟨⟨o5, rfl⟩, hp5⟩; have HP5 := Lib.hid hp5; obtain ⟨f0, f1⟩ := HCB.out w5 _ _ hp5; clear hp5))
        refine NoPanic.normal ?_
        rename_i hh
        clear hh HPT d0 d1
        go_wp2_with fail
        refine wp_region_noPanic ?_
        go_region_held (fun w' => w'.cell? ⟨g, off + k * 2, none⟩ = some (.int .i64 a'.own) ∧ w'.cell? ⟨g, off + k * 2 + 1, none⟩ = some (.slice a'.A n a'.c)) (first | exact ⟨f0, f1⟩ | exact ⟨i0, i1⟩ | assumption) ((go_at_call 14; refine (HRP.out _ (by first | exact HP5.out | exact HP5.out.pre (Turns.refl _ _).drew)).mono ?_; rintro e w6 ⟨⟨o6, rfl⟩, hp6⟩; have HP6 := Lib.hid hp6; obtain ⟨i0, i1⟩ := HCB.out w6 _ _ hp6; clear hp6))
        refine NoPanic.normal ?_
        rename_i hh
        clear hh HRP HCB f0 f1 i0 i1 HP5
        go_wp2_with fail
        go_roundw
        case rel => exact ⟨k + 1, HKL.out, by go_num, Lib.hid ⟨q'.2, HQ.out, HP6.out⟩⟩
        case measure => have := HKL.out; simp [intOf]; omega
      · have hge : decide ((k : Int) < (NA : Int)) = false := by simp; omega
        obtain rfl : k = NA := by omega
        have HX : Hid (∃ L, L.length ≤ 200 + sumP a ∧ PairX C b wr p mo L rv mo L) := Lib.hid ⟨L, by rw [HNA.out, List.take_length] at hL; exact hL, hp⟩
        clear hp HP hL
        go_wp2_with fail
        go_meet
        exact HX
  case rest =>
  obtain ⟨L2, hL2, hp2⟩ := hcut.out
  have HB10 := Lib.hid (HBK.out _ _ _ hp2)
  have HL2 := Lib.hid (show L2.length ≤ 400 by have := HLEA.out; omega)
  clear hcut hp2 hL2 HS9 HW HBK b
  obtain ⟨b, hbw, hb10, hbk⟩ := both_open HB10.out.swap
  have HW := Lib.hid hbw
  have HBK := Lib.hid hbk
  have HS10 : Hid (∃ L', L'.length ≤ 200 + sumP (b'.take 0) ∧ PairX C b wc q mo L' rq mo L') := Lib.hid ⟨L, by have := HL0.out; omega, hb10⟩
  clear hbw hb10 hbk HB10
  go_upto_block 4 with fail
  go_cut [15] from 111 to 140 (fun u wx => Hid (∃ L, L.length ≤ 200 + sumP b' ∧ PairX C b wx q mo L rq mo L))
  case first =>
    go_wp2_with fail
    go_loopw [15] (fun iv wr => ∃ k : Nat, k ≤ NB ∧ iv = .int .i64 (k : Int) ∧ Hid (∃ L, L.length ≤ 200 + sumP (b'.take k) ∧ PairX C b wr q mo L rq mo L)) (fun iv _ => NB - (intOf iv).toNat)
    case atStart => exact ⟨0, Nat.zero_le _, rfl, HS10⟩
    case round =>
      obtain ⟨k, hk, rfl, HP⟩ := hrel
      obtain ⟨L, hL, hp⟩ := HP.out
      have hn60 : (NB : Int) ≤ 60 := by have := HLEB.out.1; have := HNB.out; omega
      by_cases hlt : k < NB
      · have hlt' : (k : Int) < (NB : Int) := by omega
        have hk0 : (0 : Int) ≤ (k : Int) := by omega
        obtain ⟨a', ha⟩ : ∃ z, b'[k]? = some z := ⟨_, List.getElem?_eq_getElem (by have := HNB.out; omega)⟩
        rcases HRB0.out with h0 | ⟨g, off, rfl, hg, hc⟩
        · rw [h0] at ha
          simp at ha
        obtain ⟨⟨c0, c1⟩, hra, ⟨hac, hcm⟩, hao, hal, hok⟩ := hc k a' ha
        obtain ⟨n, hn⟩ : ∃ n, n = a'.l.length := ⟨_, rfl⟩
        have HBW := HW
        have HC : Hid (∀ W, Turns [] b.w W → W.cell? ⟨g, off + k * 2, none⟩ = some (.int .i64 a'.own) ∧ W.cell? ⟨g, off + k * 2 + 1, none⟩ = some (.slice a'.A n a'.c)) := Lib.hid (fun W ht => by
          rw [HBW.out] at ht
          exact ⟨(ht.cell hg (by simp) _).trans c0, by rw [hn]; exact (ht.cell hg (by simp) _).trans c1⟩)
        obtain ⟨d0, d1⟩ := HC.out wr hp.turns
        have hs1 := sumP_take_succ ha
        have hs2 := sumP_take_le b' (k + 1)
        have h200 := HLEB.out.2
        have HRA : Hid (∀ X, Turns [] b.w X → sK.Reads X X.heap.size a'.A a'.l) := Lib.hid (fun X ht => by
          rw [HBW.out] at ht
          exact (hra.turns (Nat.le_refl _) ht (by simp)).more ht.size)
        have HAL : Hid (a'.l = [] ∨ ∀ a2, a'.A = some a2 → a2.block < b.w.heap.size) := Lib.hid (by
          rw [HBW.out]
          rcases hra with h | ⟨b0, o, e2, hb, _⟩
          · exact .inl h
          · exact .inr fun a2 e => by rw [e2] at e; cases e; exact hb)
        have HPT := Lib.hid (fun X (ht : Turns [] wr X) => pair_put0 (hp.pre ht) (l := a'.l) (A := a'.A) (c := a'.c) (by omega) hac hcm (HRA.out X (hp.turns.then ht)) HAL.out a'.own hao hok)
        have hql := putsP_most mo a'.own a'.l L
        generalize hqq : putP mo a'.own a'.l L = q' at HPT hql
        have HRP : Hid (∀ X, PairX C b X q mo q'.2 rq mo L → Calls Try.prog 14 #[ptr rq, .int .i64 a'.own, .slice a'.A n a'.c] X fun e Z => (∃ o, e = .returned o) ∧ PairX C b Z q mo q'.2 rq mo q'.2) := Lib.hid (fun X hx => by
          have h := pair_rput hx (l := a'.l) (A := a'.A) (c := a'.c) (by omega) hac (HRA.out X hx.turns) (HAL.out.imp id fun h a2 e => .inl (h a2 e)) a'.own
          rw [hqq, ← hn] at h
          exact h.mono fun e Z ⟨o, h1, _, h2⟩ => ⟨⟨o, h1⟩, h2⟩)
        rw [← hn] at HPT hql
        have HQ := Lib.hid (show q'.2.length ≤ 200 + sumP (b'.take (k + 1)) from by omega)
        have HCB := Lib.hid (fun X L1 L2 (h : PairX C b X q mo L1 rq mo L2) => HC.out X h.turns)
        have HKL := Lib.hid hlt
        clear hc c0 c1 hac hcm hao hal hok hra hs1 hs2 h200 ha hp HP hL hql hqq hn HC HRA HAL hlt
        go_wp2_with fail
        refine wp_region_noPanic ?_
        go_region_held (fun w' => w'.cell? ⟨g, off + k * 2, none⟩ = some (.int .i64 a'.own) ∧ w'.cell? ⟨g, off + k * 2 + 1, none⟩ = some (.slice a'.A n a'.c)) (first | exact ⟨d0, d1⟩ | exact ⟨f0, f1⟩ | assumption) ((go_at_call 12; refine (HPT.out _ (by first | exact Turns.refl _ _ | exact (Turns.refl _ _).drew)).mono ?_; rintro e w5 ⟨⟨o5, rfl⟩, hp5⟩; have HP5 := Lib.hid hp5; obtain ⟨f0, f1⟩ := HCB.out w5 _ _ hp5; clear hp5))
        refine NoPanic.normal ?_
        rename_i hh
        clear hh HPT d0 d1
        go_wp2_with fail
        refine wp_region_noPanic ?_
        go_region_held (fun w' => w'.cell? ⟨g, off + k * 2, none⟩ = some (.int .i64 a'.own) ∧ w'.cell? ⟨g, off + k * 2 + 1, none⟩ = some (.slice a'.A n a'.c)) (first | exact ⟨f0, f1⟩ | exact ⟨i0, i1⟩ | assumption) ((go_at_call 14; refine (HRP.out _ (by first | exact HP5.out | exact HP5.out.pre (Turns.refl _ _).drew)).mono ?_; rintro e w6 ⟨⟨o6, rfl⟩, hp6⟩; have HP6 := Lib.hid hp6; obtain ⟨i0, i1⟩ := HCB.out w6 _ _ hp6; clear hp6))
        refine NoPanic.normal ?_
        rename_i hh
        clear hh HRP HCB f0 f1 i0 i1 HP5
        go_wp2_with fail
        go_roundw
        case rel => exact ⟨k + 1, HKL.out, by go_num, Lib.hid ⟨q'.2, HQ.out, HP6.out⟩⟩
        case measure => have := HKL.out; simp [intOf]; omega
      · have hge : decide ((k : Int) < (NB : Int)) = false := by simp; omega
        obtain rfl : k = NB := by omega
        have HX : Hid (∃ L, L.length ≤ 200 + sumP b' ∧ PairX C b wr q mo L rq mo L) := Lib.hid ⟨L, by rw [HNB.out, List.take_length] at hL; exact hL, hp⟩
        clear hp HP hL
        go_wp2_with fail
        go_meet
        exact HX
  case rest =>
  obtain ⟨L3, hL3, hp3⟩ := hcut.out
  have HB11 := Lib.hid (HBK.out _ _ _ hp3).swap
  have HL3 := Lib.hid (show L3.length ≤ 400 by have := HLEB.out; omega)
  clear hcut hp3 hL3 HS10 HW HBK b
  have HAL := Lib.hid (both_alikeS HB11.out (by have := HL2.out; omega) (by have := HL3.out; omega))
  go_wp2_with fail
  refine HAL.out.mono ?_
  rintro e x10 ⟨rfl, t10⟩
  have HB12 := Lib.hid (HB11.out.pre t10)
  have HLK := Lib.hid (both_lookS HB12.out (by have := HL2.out; omega) 0)
  obtain ⟨al, hal⟩ : ∃ al, al = decide (L2 = L3) := ⟨_, rfl⟩
  rw [← hal]
  have HALE := Lib.hid hal
  have n1 : (al == al) = true := beq_self_eq_true _
  clear t10 HAL HB11 hal
  go_wp2_with fail
  refine HLK.out.mono ?_
  rintro e x11 ⟨rfl, t11⟩
  have HB13 := Lib.hid (HB12.out.pre t11)
  have HLK2 := Lib.hid (both_lookS HB13.out.swap (by have := HL3.out; omega) 0)
  clear t11 HLK HB12
  go_wp2_with fail
  refine HLK2.out.mono ?_
  rintro e x12 ⟨rfl, t12⟩
  have HB14 := Lib.hid (HB13.out.pre t12)
  have HS1 := Lib.hid (both_sameS HB14.out (by have := HL2.out; omega) (by have := HL3.out; omega))
  rw [← HALE.out] at HS1
  clear t12 HLK2 HB13
  go_wp2_with fail
  refine HS1.out.mono ?_
  rintro e x13 ⟨rfl, t13⟩
  have HB15 := Lib.hid (HB14.out.pre t13)
  have HS2 := Lib.hid (both_sameS HB15.out.swap (by have := HL3.out; omega) (by have := HL2.out; omega))
  rw [show decide (L3 = L2) = al by rw [HALE.out]; exact decide_eq_decide.2 eq_comm] at HS2
  clear t13 HS1 HB14
  go_wp2_with fail
  refine HS2.out.mono ?_
  rintro e x14 ⟨rfl, t14⟩
  have HB16 := Lib.hid (HB15.out.pre t14)
  clear t14 HS2 HB15
  go_wp2_with fail
  refine (HK.out _).mono ?_
  rintro e x15 ⟨rfl, t15⟩
  have HT := Lib.hid (HB16.out.turns.then t15)
  clear t15 HB16
  go_wp2_with fail
  go_ret
  exact ⟨rfl, HT.out⟩
end Go.Proofs.Ytadndefbdofodaa
