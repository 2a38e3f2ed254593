/- StorePlays, walked. -/
import Derived.Test.YtadndefbdofodaaStPair
import Derived.Deep.RegionHeld3
namespace Go.Proofs.Ytadndefbdofodaa
open Go.RowKit

def FinS (w : World) (e : Ending) (w' : World) : Prop := e = .returned (.bool true) ∧ Turns [] w w'
set_option maxRecDepth 100000 in
set_option maxHeartbeats 4000000 in
theorem storePlays_early (C : StC) (most leave : Int) (A0 : Option Addr) (cap : Nat) (l : List Pt) (w : World) (hl : l.length ≤ 9223372036854775807) (hr : PReads w w.heap.size A0 l) (hf : fewP l 30 = false) :
    Calls Try.prog 3 #[.int .i64 most, .slice A0 l.length cap, .int .i64 leave] w (FinS w) := by
  have HF := Lib.hid (fewP_any A0 cap 30 l w hl (by omega) hr)
  rw [hf] at HF
  have HK := Lib.hid (fun W => known_any C W)
  obtain ⟨NN, hNN⟩ : ∃ NN, NN = l.length := ⟨_, rfl⟩
  rw [← hNN] at HF ⊢
  clear hl hr hf hNN
  go_enter Try.func3, Try.ntmps3
  go_wp2_with fail
  refine (Hid.out HF).mono ?_
  rintro e w1 ⟨rfl, hb1⟩
  have HB1 := Lib.hid (Turns.of_below hb1 (Nat.le_refl _))
  clear HF hb1
  go_wp2_with fail
  refine (HK.out _).mono ?_
  rintro e w2 ⟨rfl, ht2⟩
  have HT := Lib.hid (HB1.out.then ht2)
  clear ht2
  go_wp2
  go_ret
  exact ⟨rfl, HT.out⟩
set_option maxRecDepth 100000 in
set_option maxHeartbeats 8000000 in
theorem storePlays_main (C : StC) (most leave : Int) (A0 : Option Addr) (cap : Nat) (l : List Pt) (w : World) (hl : l.length ≤ 9223372036854775807) (hr : PReads w w.heap.size A0 l) (hf : fewP l 30 = true) (hm : -9223372036854775808 ≤ most ∧ most ≤ 9223372036854775807) :
    Calls Try.prog 3 #[.int .i64 most, .slice A0 l.length cap, .int .i64 leave] w (FinS w) := by
  have HF := Lib.hid (fewP_any A0 cap 30 l w hl (by omega) hr)
  rw [hf] at HF
  have h30 : l.length ≤ 30 ∧ sumP l ≤ 200 := by
    unfold fewP at hf
    simpa using hf
  have HLE := Lib.hid h30
  have HR := Lib.hid hr
  have HK := Lib.hid (fun W => known_any C W)
  have HNW := Lib.hid (fun X (ht : Turns [] w X) => lone_newS (C := C) ht most hm.1 hm.2)
  have HRW := Lib.hid (fun X => rnewS_any most X hm.2)
  obtain ⟨NN, hNN⟩ : ∃ NN, NN = l.length := ⟨_, rfl⟩
  rw [← hNN] at HF ⊢
  have HNN := Lib.hid hNN
  clear hl hr hf h30 hNN hm
  go_enter Try.func3, Try.ntmps3
  go_wp2_with fail
  refine (Hid.out HF).mono ?_
  rintro e w1 ⟨rfl, hb1⟩
  have HB1 := Lib.hid (Turns.of_below hb1 (Nat.le_refl _))
  clear HF hb1
  go_wp2_with fail
  refine (HNW.out _ HB1.out).mono ?_
  rintro e w2 ⟨p, rfl, h2⟩
  have H2 := Lib.hid h2
  clear HNW h2
  go_wp2_with fail
  refine (HRW.out _).mono ?_
  rintro e w3 ⟨rfl, hr3, hb3⟩
  have HP3 := Lib.hid (PairX.start H2.out (Turns.of_below hb3 (Nat.le_refl _)) hr3)
  have HL3 := Lib.hid (pair_look HP3.out (by simp) leave)
  clear HRW hr3 hb3 H2
  generalize w2.heap.size = rv at HP3 HL3 ⊢
  generalize most.toNat = mo at HP3 HL3
  go_wp2_with fail
  refine (Hid.out HL3).mono ?_
  rintro e w4 ⟨rfl, ht4⟩
  have HP4 := Lib.hid (HP3.out.pre ht4)
  clear HL3 HP3 ht4
  go_wp2_with fail
  go_loopw [9] (fun iv wr => ∃ k : Nat, k ≤ NN ∧ iv = .int .i64 k ∧ Hid (∃ L, L.length ≤ sumP (l.take k) ∧ PairX C (.plain w) wr p mo L rv mo L)) (fun iv _ => NN - (intOf iv).toNat)
  case atStart => exact ⟨0, Nat.zero_le _, rfl, Lib.hid ⟨[], by simp, HP4.out⟩⟩
  case round =>
    obtain ⟨k, hk, rfl, HP⟩ := hrel
    obtain ⟨L, hL, hp⟩ := HP.out
    have hn60 : (NN : Int) ≤ 60 := by have := HLE.out.1; have := HNN.out; omega
    by_cases hlt : k < NN
    · have hlt' : (k : Int) < (NN : Int) := by omega
      have hk0 : (0 : Int) ≤ (k : Int) := by omega
      obtain ⟨a, ha⟩ : ∃ a, l[k]? = some a := ⟨_, List.getElem?_eq_getElem (by have := HNN.out; omega)⟩
      rcases HR.out with h0 | ⟨g, off, rfl, hg, hc⟩
      · rw [h0] at ha
        simp at ha
      obtain ⟨⟨c0, c1⟩, hra, ⟨hac, hcm⟩, hao, hal, hok⟩ := hc k a ha
      have HC : Hid (∀ W, Turns [] w W → W.cell? ⟨g, off + k * 2, none⟩ = some (.int .i64 a.own) ∧ W.cell? ⟨g, off + k * 2 + 1, none⟩ = some (.slice a.A a.l.length a.c)) := Lib.hid (fun W ht => ⟨(ht.cell hg (by simp) _).trans c0, (ht.cell hg (by simp) _).trans c1⟩)
      obtain ⟨d0, d1⟩ := HC.out wr hp.turns
      have hs1 := sumP_take_succ ha
      have hs2 := sumP_take_le l (k + 1)
      have h200 := HLE.out.2
      have HRA := Lib.hid (fun X (ht : Turns [] w X) => (hra.turns (Nat.le_refl _) ht (by simp)).more ht.size)
      have HB0 := Lib.hid (show wr.heap.size ≤ wr.heap.size from Nat.le_refl _)
      have HAC := Lib.hid (show (a.l.length ≤ a.c ∧ a.c ≤ maxLen) ∧ (-9223372036854775808 ≤ a.own ∧ a.own ≤ 9223372036854775807) ∧ (∀ x ∈ a.l, x.Ok) ∧ L.length + a.l.length ≤ 200 ∧ L.length + a.l.length ≤ sumP (l.take (k + 1)) from ⟨⟨hac, hcm⟩, hao, hok, by omega, by omega⟩)
      have HHP := Lib.hid hp
      have HLS := Lib.hid (show ([] : List Smp).length + a.l.length ≤ 100000 by simp; omega)
      have hAl : a.l = [] ∨ ∀ a', a.A = some a' → a'.block < w.heap.size := by
        rcases hra with h | ⟨b, o, e2, hb, _⟩
        · exact .inl h
        · exact .inr fun a' e => by rw [e2] at e; cases e; exact hb
      have HAL := Lib.hid hAl
      clear hc c0 c1 hac hcm hao hal hok hra hs1 hs2 h200 hAl ha hp HP hL
      obtain ⟨n, hn⟩ : ∃ n, n = a.l.length := ⟨_, rfl⟩
      rw [← hn] at d1 HC HAC HLS
      have HN := Lib.hid hn
      have hn2 : (n : Int) ≤ 200 := by have := HAC.out.2.2.2.1; omega
      clear hn
      go_wp2_with (at_builtin; refine EK.wpList_append_all sOk rfl (.const (.slice none 0 0)) (.tmp 40) rfl wr.heap.size (.slice none 0 0) [] rfl (World.ownsRow_nil _ _ _ _) wr.heap.size a.A a.l n a.c HN.out.symm rfl (HRA.out _ HHP.out.turns) (by rw [← HN.out]; exact HLS.out) HB0.out ?_; intro v2 w2 ho2 ht2 hf2; rw [List.nil_append] at ho2; have HO2 := Lib.hid ho2; have HT2 := Lib.hid (show Turns [] wr w2 from ht2.mono (by simp [ownB, Value.ownBlock])); obtain ⟨A2, c2, rfl, hr2, hlc, hcm⟩ := ho2.reads; rw [← HN.out] at HO2 hlc ⊢; have HR2 := Lib.hid (And.intro hr2 (And.intro hlc hcm)); obtain ⟨e0, e1⟩ := HC.out w2 (HHP.out.turns.then HT2.out); clear ho2 ht2 hf2 hr2 hlc hcm d0 d1)
      have HH2 := Lib.hid (HHP.out.hold HT2.out (ownB (.slice A2 n c2)) (fun i hi => HO2.out.foot i hi))
      have HPT := Lib.hid (pair_put HH2.out (Turns.refl [] w2) (l := a.l) (A := A2) (c := c2) (by rw [← HN.out]; have := HAC.out.2.2.2.1; omega) (by rw [← HN.out]; exact HR2.out.2.1) HR2.out.2.2 HR2.out.1 (.inr fun a' e => .inr (.inl (by cases e; simp [ownB, Value.ownBlock]))) a.own HAC.out.2.1 HAC.out.2.2.1)
      rw [← HN.out] at HPT
      clear e0 e1
      refine HPT.out.mono ?_
      rintro e w3 ⟨o, rfl, ho3, hp3, hk3⟩
      obtain ⟨q, hq⟩ : ∃ q, q = putP mo a.own a.l L := ⟨_, rfl⟩
      have hql := putsP_most mo a.own a.l L
      have HRP := Lib.hid (fun X (ht : Turns [] w3 X) => pair_rput (hp3.pre ht) (l := a.l) (A := a.A) (c := a.c) (by rw [← HN.out]; have := HAC.out.2.2.2.1; omega) (by rw [← HN.out]; exact HAC.out.1.1) (HRA.out X (hp3.turns.then ht)) (HAL.out.imp id fun h a' e => .inl (h a' e)) a.own)
      rw [← hq] at ho3 hp3 hql HRP
      rw [← HN.out] at hql HRP
      have HQ := Lib.hid hql
      have HK3 := Lib.hid (show ∀ i ∈ ownB (.slice A2 n c2), w3.heap[i]? = w2.heap[i]? from fun i hi => hk3 i (List.mem_append.2 (.inl hi)))
      have HF2 := Lib.hid (show ∀ i ∈ ownB (.slice A2 n c2), w.heap.size ≤ i from fun i hi => Nat.le_trans HHP.out.turns.size (HO2.out.foot i hi).1)
      obtain ⟨A3, c3, rfl, -, -, -⟩ := ho3.reads
      rw [hql.2] at ho3 hp3 HRP ⊢
      have HO3 := Lib.hid ho3
      obtain ⟨b3, hb3⟩ : ∃ b3 : Base, b3 = ⟨w, ownB (.slice A3 n c3) ++ (ownB (.slice A2 n c2) ++ []), w3⟩ := ⟨_, rfl⟩
      change PairX C ⟨w, ownB (.slice A3 n c3) ++ (ownB (.slice A2 n c2) ++ []), w3⟩ w3 p mo q.2 rv mo L at hp3
      change Hid (∀ X, Turns [] w3 X → Calls Try.prog 14 #[ptr rv, .int .i64 a.own, .slice a.A n a.c] X fun e Z => ∃ o, e = .returned o ∧ nK.Own X.heap.size Z o q.1 ∧ PairX C ⟨w, ownB (.slice A3 n c3) ++ (ownB (.slice A2 n c2) ++ []), w3⟩ Z p mo q.2 rv mo q.2) at HRP
      have HB3 := Lib.hid (show b3.w = w ∧ b3.Z = w3 ∧ (∀ i ∈ ownB (.slice A3 n c3), i ∈ b3.K) ∧ ∀ i ∈ ownB (.slice A2 n c2), i ∈ b3.K from by
        rw [hb3]
        exact ⟨rfl, rfl, fun i hi => List.mem_append.2 (.inl hi), fun i hi => List.mem_append.2 (.inr (List.mem_append.2 (.inl hi)))⟩)
      rw [← hb3] at hp3 HRP
      have HSS : Hid (∀ X A4 c4, nK.Reads X X.heap.size A4 q.1 → PairX C b3 X p mo q.2 rv mo q.2 → Calls Try.prog 13 #[.slice A3 n c3, .slice A4 n c4] X fun e w' => e = .returned (.bool true) ∧ Turns [] X w') := Lib.hid (fun X A4 c4 hr4 hpx => by
        have hk := hpx.stays
        rw [HB3.out.2.1] at hk
        have ho := HO3.out.keepB (w' := X) (fun i hi => hk i (HB3.out.2.2.1 i hi))
        obtain ⟨A', c', e, hr', _⟩ := ho.reads
        injection e with e1 e2 e3
        subst e1
        have := rsameSn_any A3 A4 c3 c4 q.1 q.1 X (by have := HQ.out.2; have := HAC.out.2.2.2.1; omega) hr' hr4
        rw [HQ.out.2, decide_eq_true (rfl : q.1 = q.1)] at this
        exact this)
      have HLK : Hid (∀ X b, PairX C b X p mo q.2 rv mo q.2 → Calls Try.prog 11 #[ptr p, ptr rv, .int .i64 leave] X fun e Y => e = .returned (.bool true) ∧ Turns [] X Y) := Lib.hid (fun X b h => pair_look h (by have := HQ.out.1; have := HAC.out.2.2.2.1; omega) leave)
      have ht3 : Turns [] w w3 := by have := hp3.turns; rwa [HB3.out.1] at this
      obtain ⟨e0, e1⟩ := HC.out w3 ht3
      have HCB : Hid (∀ X, PairX C b3 X p mo q.2 rv mo q.2 → X.cell? ⟨g, off + k * 2, none⟩ = some (.int .i64 a.own) ∧ X.cell? ⟨g, off + k * 2 + 1, none⟩ = some (.slice a.A n a.c)) := Lib.hid (fun X h => HC.out X (by have := h.turns; rwa [HB3.out.1] at this))
      clear hq hql ho3 hp3 hk3 hb3 ht3 HPT HH2 HRA HAL HR2
      go_wp2_with fail
      refine wp_region_noPanic ?_
      go_region_held (fun w' => w'.cell? ⟨g, off + k * 2, none⟩ = some (.int .i64 a.own) ∧ w'.cell? ⟨g, off + k * 2 + 1, none⟩ = some (.slice a.A n a.c)) (first | exact ⟨e0, e1⟩ | exact ⟨f0, f1⟩ | exact ⟨g0, g1⟩ | exact ⟨i0, i1⟩ | assumption) ((first | (go_at_call 14; refine (HRP.out _ (by first | exact Turns.refl _ _ | exact (Turns.refl _ _).drew)).mono ?_; rintro e w5 ⟨o5, rfl, ho5, hp5⟩; have HP5 := Lib.hid hp5; obtain ⟨A5, c5, rfl, hr5, -⟩ := ho5.reads; rw [HQ.out.2]; have HR5 := Lib.hid hr5; obtain ⟨f0, f1⟩ := HCB.out w5 hp5; clear hp5 ho5 hr5) | (go_at_call 13; refine (HSS.out _ _ _ HR5.out HP5.out).mono ?_; rintro e w6 ⟨rfl, t6⟩; have HP6 := Lib.hid (HP5.out.pre t6); obtain ⟨g0, g1⟩ := HCB.out w6 HP6.out; clear t6) | (go_at_call 11; refine (HLK.out _ _ HP6.out).mono ?_; rintro e w7 ⟨rfl, t7⟩; have HP7 := Lib.hid (HP6.out.pre t7); obtain ⟨i0, i1⟩ := HCB.out w7 HP7.out; clear t7)))
      refine NoPanic.normal ?_
      rename_i hh
      clear hh
      have HV7 : Hid (n = 0 ∨ ∃ g2, A2 = some ⟨g2, 0, none⟩ ∧ w2.heap.size > g2 ∧ w.heap.size ≤ g2 ∧ RowV w7 g2 n) := Lib.hid (by
        rcases RowV.of HO2.out with ⟨e, e2⟩ | ⟨g2, c2', e, hB, hlt, hv⟩
        · left
          rw [HN.out, e2]
          rfl
        · right
          injection e with e1 _ e3
          subst e1 e3
          refine ⟨g2, rfl, hlt, Nat.le_trans HHP.out.turns.size hB, ?_⟩
          rw [HN.out]
          have hm : g2 ∈ ownB (.slice (some ⟨g2, 0, none⟩) n c2) := by simp [ownB, Value.ownBlock]
          refine hv.keep ((HP7.out.stays g2 (HB3.out.2.2.2 g2 hm)).trans ?_)
          rw [HB3.out.2.1]
          exact HK3.out g2 hm)
      clear HRP HSS e0 e1 f0 f1 g0 g1 i0 i1 HP5 HP6 HR5 HCB HO2 HO3 HHP HT2 HK3 HC
      go_wp2_with fail
      go_loopw [12] (fun iv wx => ∃ j : Nat, j ≤ n ∧ iv = .int .i64 (j : Int) ∧ Hid (Turns (ownB (.slice A2 n c2)) w7 wx) ∧ Hid (n = 0 ∨ ∃ g2, A2 = some ⟨g2, 0, none⟩ ∧ w2.heap.size > g2 ∧ w.heap.size ≤ g2 ∧ RowV wx g2 n)) (fun iv _ => n - (intOf iv).toNat)
      case atStart => exact ⟨0, Nat.zero_le _, rfl, Lib.hid (Turns.refl _ _), HV7⟩
      case round =>
        clear HV7
        obtain ⟨j, hj, rfl, HTJ, HVJ⟩ := hrel
        have hj0 : (0 : Int) ≤ (j : Int) := by omega
        by_cases hjl : j < n
        · have hjl' : (j : Int) < (n : Int) := by omega
          rcases HVJ.out with h0 | ⟨g2, rfl, hgl, hgw, hv⟩
          · exfalso; omega
          obtain ⟨z, q0, q1, hu⟩ := hv.get hjl
          have HU := Lib.hid hu
          have HT2 : Hid (∀ u : Int, Turns (ownB (.slice (some ⟨g2, 0, none⟩) n c2)) w7 (wr.setCell ⟨g2, j * 4 + 1, none⟩ (.int .i64 u))) := Lib.hid (fun u => HTJ.out.then (Turns.setCell _ _ _ (by simp [ownB, Value.ownBlock])))
          have HGW := Lib.hid (And.intro hgl hgw)
          clear hu hv HVJ hgl hgw
          go_wp2
          go_roundw
          case rel => exact ⟨j + 1, by omega, by go_num, HT2.out _, Lib.hid (.inr ⟨g2, rfl, HGW.out.1, HGW.out.2, HU.out _⟩)⟩
          case measure => simp [intOf] <;> omega
        · have hge : decide ((j : Int) < (n : Int)) = false := by simp; omega
          obtain ⟨wy, hwy⟩ : ∃ wy, wy = wr := ⟨_, rfl⟩
          rw [← hwy] at HTJ HVJ ⊢
          have HP8 : Hid (PairX C (.plain w) wy p mo q.2 rv mo q.2) := Lib.hid (by
            have hx := HP7.out.free HTJ.out (fun i hi => ⟨HB3.out.2.2.2 i hi, by
              rw [HB3.out.1]
              exact HF2.out i hi⟩)
            rw [HB3.out.1] at hx
            exact hx)
          have HL8 := Lib.hid (HLK.out _ _ HP8.out)
          clear hwy HTJ HVJ HP7 HLK
          go_wp2_with fail
          refine HL8.out.mono ?_
          rintro e w9 ⟨rfl, t9⟩
          have HP9 := Lib.hid (HP8.out.pre t9)
          have HLT := Lib.hid hlt
          have HKN := Lib.hid (show q.2.length ≤ sumP (l.take (k + 1)) by have := HQ.out.1; have := HAC.out.2.2.2.2; omega)
          clear t9 hge
          go_wp2_with fail
          exact ⟨⟨k + 1, HLT.out, by go_num, Lib.hid ⟨q.2, HKN.out, HP9.out⟩⟩, by have := HLT.out; simp [intOf]; omega⟩
    · have hge : decide ((k : Int) < (NN : Int)) = false := by simp; omega
      have HT := Lib.hid hp.turns
      clear hp HP
      go_wp2_with fail
      refine (HK.out _).mono ?_
      rintro e w9 ⟨rfl, t9⟩
      have HT9 := Lib.hid (HT.out.then t9)
      clear t9
      go_wp2_with fail
      go_ret
      exact ⟨rfl, HT9.out⟩
end Go.Proofs.Ytadndefbdofodaa
