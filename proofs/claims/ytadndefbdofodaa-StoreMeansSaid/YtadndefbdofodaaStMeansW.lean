/- StoreMeans, walked. -/
import Derived.Test.YtadndefbdofodaaStMeansP
import Derived.Test.YtadndefbdofodaaStPlaysW
import Derived.Deep.RegionHeld3
namespace Go.Proofs.Ytadndefbdofodaa
open Go.RowKit

section
variable {C : StC} {b : Base} {X Y Z : World} {p m : Nat} {L : List One}
theorem LoneS.regrow (h : LoneS C b X p m L) {H : List Nat} (ht : Turns H X Y) (hH : ∀ i ∈ H, i ∈ b.K ∧ b.w.heap.size ≤ i) (K : List Nat) (hK : ∀ i ∈ K, (i ∈ b.K ∨ X.heap.size ≤ i) ∧ i < Y.heap.size) : LoneS C ⟨b.w, K, Y⟩ Y p m L := by
  obtain ⟨F, a, t, s⟩ := h
  refine ⟨F, C.turns a ht fun i hi hm => (s.2 i (hH i hm).1).2.1 hi, t.trans ht fun i hi => .inr (hH i hi).2, Nat.le_refl _, fun k hk => ⟨(hK k hk).2, fun hm => ?_, rfl⟩⟩
  rcases (hK k hk).1 with h | h
  · exact (s.2 k h).2.1 hm
  · have := (C.foot a k hm).2; omega
theorem lone_putS (hp : LoneS C b X p m L) {l : List Smp} {A : Option Addr} {c : Nat} (hl : L.length + l.length ≤ 90000) (hc : l.length ≤ c) (hm : c ≤ maxLen) (hr : sK.Reads X X.heap.size A l)
    (hA : l = [] ∨ ∀ a, A = some a → a.block < b.w.heap.size ∨ a.block ∈ b.K) (owner : Int) (ho : -9223372036854775808 ≤ owner ∧ owner ≤ 9223372036854775807) (hok : ∀ x ∈ l, x.Ok) :
    Calls Try.prog 12 #[ptr p, .int .i64 owner, .slice A l.length c] X fun e Z => ∃ o, e = .returned o ∧ nK.Own X.heap.size Z o (putP m owner l L).1 ∧ LoneS C b Z p m (putP m owner l L).2 := by
  obtain ⟨F, a1, t, s⟩ := hp
  refine (C.put a1 t.size hl hc hm hr (hA.imp id fun hA a' e hF => ?_) owner ho hok).mono ?_
  · rcases hA a' e with h | h
    · have := (C.foot a1 _ hF).1; omega
    · exact (s.2 _ h).2.1 hF
  rintro e Z ⟨o, F', rfl, ho, a', tz, hf, hof⟩
  exact ⟨o, rfl, ho, F', a', t.trans tz fun i hi => .inr (C.foot a1 i hi).1, s.next tz (fun i hi => hi) hf⟩
theorem lone_lenS (h : LoneS C b X p m L) (hl : L.length ≤ 90000) : Calls Try.prog 15 #[ptr p] X fun e w' => e = .returned (.int .i64 (L.length : Nat)) ∧ Turns [] X w' := by
  obtain ⟨F, a, _, _⟩ := h
  exact C.len a hl
theorem LoneS.stays (h : LoneS C b X p m L) : ∀ k ∈ b.K, X.heap[k]? = b.Z.heap[k]? := by
  obtain ⟨F, _, _, s⟩ := h
  exact fun k hk => s.block hk
end
/-- The samples that were accepted so far, the store apart from them. -/
structure MeanI (C : StC) (w X : World) (p mo : Nat) (lv : Value) (M : List Smp) (L L2 : List One) (N : Nat) : Prop where
  lone : LoneS C ⟨w, ownB lv, X⟩ X p mo L
  own : sK.Own w.heap.size X lv M
  jn : Jn M L2
  len : M.length ≤ N
section
variable {C : StC} {w X Y : World} {p mo N : Nat} {lv lv' : Value} {M : List Smp} {L L2 L3 : List One}
theorem MeanI.turns (h : MeanI C w X p mo lv M L L2 N) : Turns [] w X := h.lone.turns
theorem MeanI.pre (h : MeanI C w X p mo lv M L L2 N) (ht : Turns [] X Y) : MeanI C w Y p mo lv M L L2 N :=
  ⟨h.lone.regrow ht (by simp) _ fun i hi => ⟨.inl hi, Nat.lt_of_lt_of_le (h.own.foot i hi).2 ht.size⟩, h.own.turns ht (by simp), h.jn, h.len⟩
theorem MeanI.app (h : MeanI C w X p mo lv M L L2 N) {x : Smp} (ho : sK.Own w.heap.size Y lv' (M ++ [x])) (ht : Turns (ownB lv) X Y) (hf : ∀ i ∈ ownB lv', i ∈ ownB lv ∨ i = X.heap.size) (hj : Jn (M ++ [x]) L3) : MeanI C w Y p mo lv' (M ++ [x]) L L3 (N + 1) :=
  ⟨h.lone.regrow ht (fun i hi => ⟨hi, (h.own.foot i hi).1⟩) _ fun i hi => ⟨(hf i hi).imp id fun e => by omega, (ho.foot i hi).2⟩, ho, hj, by have := h.len; simp; omega⟩
theorem MeanI.next (h : MeanI C w X p mo lv M L L2 N) (hj : Jn M L3) : MeanI C w X p mo lv M L L3 (N + 1) := ⟨h.lone, h.own, hj, by have := h.len; omega⟩
end
set_option maxRecDepth 100000 in
set_option maxHeartbeats 4000000 in
theorem storeMeans_early (C : StC) (most : Int) (A0 : Option Addr) (cap : Nat) (l : List Pt) (w : World) (hl : l.length ≤ 9223372036854775807) (hr : PReads w w.heap.size A0 l) (hf : fewP l 30 = false) :
    Calls Try.prog 4 #[.int .i64 most, .slice A0 l.length cap] w (FinS w) := by
  have HF := Lib.hid (fewP_any A0 cap 30 l w hl (by omega) hr)
  rw [hf] at HF
  have HK := Lib.hid (fun W => known_any C W)
  obtain ⟨NN, hNN⟩ : ∃ NN, NN = l.length := ⟨_, rfl⟩
  rw [← hNN] at HF ⊢
  clear hl hr hf hNN
  go_enter Try.func4, Try.ntmps4
  go_wp2_with fail
  refine (Hid.out HF).mono ?_
  rintro e w1 ⟨rfl, hb1⟩
  have HB1 := Lib.hid (Turns.of_below hb1 (Nat.le_refl _))
  clear HF hb1
  go_wp2_with fail
  refine (HK.out _).mono ?_
  rintro e w2 ⟨rfl, ht2⟩
  have HT := Lib.hid (HB1.out.then ht2)
  clear ht2
  go_wp2
  go_ret
  exact ⟨rfl, HT.out⟩
set_option maxRecDepth 100000 in
set_option maxHeartbeats 8000000 in
theorem storeMeans_main (C : StC) (most : Int) (A0 : Option Addr) (cap : Nat) (l : List Pt) (w : World) (hl : l.length ≤ 9223372036854775807) (hr : PReads w w.heap.size A0 l) (hf : fewP l 30 = true) (hm : -9223372036854775808 ≤ most ∧ most ≤ 9223372036854775807) :
    Calls Try.prog 4 #[.int .i64 most, .slice A0 l.length cap] w (FinS w) := by
  have HF := Lib.hid (fewP_any A0 cap 30 l w hl (by omega) hr)
  rw [hf] at HF
  have h30 : l.length ≤ 30 ∧ sumP l ≤ 200 := by
    unfold fewP at hf
    simpa using hf
  have HLE := Lib.hid h30
  have HR := Lib.hid hr
  have HK := Lib.hid (fun W => known_any C W)
  have HNW := Lib.hid (fun X (ht : Turns [] w X) => lone_newS (C := C) ht most hm.1 hm.2)
  obtain ⟨NN, hNN⟩ : ∃ NN, NN = l.length := ⟨_, rfl⟩
  rw [← hNN] at HF ⊢
  have HNN := Lib.hid hNN
  have HMO := Lib.hid (show (most.toNat : Int) = max most 0 by omega)
  clear hl hr hf h30 hNN hm
  go_enter Try.func4, Try.ntmps4
  go_wp2_with fail
  refine (Hid.out HF).mono ?_
  rintro e w1 ⟨rfl, hb1⟩
  have HB1 := Lib.hid (Turns.of_below hb1 (Nat.le_refl _))
  clear HF hb1
  go_wp2_with fail
  refine (HNW.out _ HB1.out).mono ?_
  rintro e w2 ⟨p, rfl, h2⟩
  have H2 : Hid (MeanI C w w2 p most.toNat (.slice none 0 0) [] [] [] 0) := Lib.hid ⟨h2.regrow (Turns.refl [] _) (by simp) _ (by simp [ownB, Value.ownBlock]), EK.Own.nil _ _ (Nat.zero_le _), Jn.nil, Nat.le_refl _⟩
  generalize most.toNat = mo at H2 HMO
  clear HNW h2
  go_wp2_with fail
  go_loopw [6, 7] (fun lv iv wr => ∃ k : Nat, k ≤ NN ∧ iv = .int .i64 k ∧ Hid (∃ L M, L.length ≤ sumP (l.take k) ∧ L.length ≤ mo ∧ MeanI C w wr p mo lv M L L (sumP (l.take k)))) (fun _ iv _ => NN - (intOf iv).toNat)
  case atStart => exact ⟨0, Nat.zero_le _, rfl, Lib.hid ⟨[], [], by simp, by simp, H2.out⟩⟩
  case round =>
    obtain ⟨k, hk, rfl, HP⟩ := hrel
    obtain ⟨L, M, hL, hLm, hp⟩ := HP.out
    have hn60 : (NN : Int) ≤ 60 := by have := HLE.out.1; have := HNN.out; omega
    by_cases hlt : k < NN
    · have hlt' : (k : Int) < (NN : Int) := by omega
      have hk0 : (0 : Int) ≤ (k : Int) := by omega
      obtain ⟨a, ha⟩ : ∃ a, l[k]? = some a := ⟨_, List.getElem?_eq_getElem (by have := HNN.out; omega)⟩
      rcases HR.out with h0 | ⟨g, off, rfl, hg, hc⟩
      · rw [h0] at ha
        simp at ha
      obtain ⟨⟨c0, c1⟩, hra, ⟨hac, hcm⟩, hao, hal, hok⟩ := hc k a ha
      obtain ⟨n, hn⟩ : ∃ n, n = a.l.length := ⟨_, rfl⟩
      have HC : Hid (∀ W, Turns [] w W → W.cell? ⟨g, off + k * 2, none⟩ = some (.int .i64 a.own) ∧ W.cell? ⟨g, off + k * 2 + 1, none⟩ = some (.slice a.A n a.c)) := Lib.hid (fun W ht => ⟨(ht.cell hg (by simp) _).trans c0, by rw [hn]; exact (ht.cell hg (by simp) _).trans c1⟩)
      obtain ⟨d0, d1⟩ := HC.out wr hp.turns
      have hs1 := sumP_take_succ ha
      have hs2 := sumP_take_le l (k + 1)
      have h200 := HLE.out.2
      have HRA := Lib.hid (fun X (ht : Turns [] w X) => (hra.turns (Nat.le_refl _) ht (by simp)).more ht.size)
      have HAL : Hid (a.l = [] ∨ ∀ a', a.A = some a' → a'.block < w.heap.size) := Lib.hid (by
        rcases hra with h | ⟨b, o, e2, hb, _⟩
        · exact .inl h
        · exact .inr fun a' e => by rw [e2] at e; cases e; exact hb)
      have HN := Lib.hid hn
      have hn2 : (n : Int) ≤ 200 := by omega
      have HPT := Lib.hid (fun X (ht : Turns [] wr X) => lone_putS (hp.pre ht).lone (l := a.l) (A := a.A) (c := a.c) (by omega) hac hcm (HRA.out X (hp.turns.then ht)) (HAL.out.imp id fun h a' e => .inl (h a' e)) a.own hao hok)
      have hql := putsP_most mo a.own a.l L
      have hqm := putP_room mo a.own a.l L hLm
      obtain ⟨q, hq⟩ : ∃ q, q = putP mo a.own a.l L := ⟨_, rfl⟩
      rw [← hq] at HPT hql hqm
      rw [← hn] at HPT hql
      have HQ := Lib.hid (show (q.2.length ≤ L.length + n ∧ q.1.length = n) ∧ q.2.length ≤ mo ∧ L.length + n ≤ sumP (l.take (k + 1)) ∧ sumP (l.take k) + n = sumP (l.take (k + 1)) ∧ sumP (l.take (k + 1)) ≤ 200 from ⟨hql, hqm, by omega, by omega, by omega⟩)
      have HQE := Lib.hid hq
      have HHP := Lib.hid hp
      have hql2 := hql.2
      clear hc c0 c1 hac hcm hao hal hok hra hs1 hs2 h200 ha hp HP hL hLm hq hql hqm hn
      go_wp2_with fail
      refine wp_region_noPanic ?_
      go_region_held (fun w' => w'.cell? ⟨g, off + k * 2, none⟩ = some (.int .i64 a.own) ∧ w'.cell? ⟨g, off + k * 2 + 1, none⟩ = some (.slice a.A n a.c)) (first | exact ⟨d0, d1⟩ | exact ⟨f0, f1⟩ | assumption) ((go_at_call 12; refine (HPT.out _ (by first | exact Turns.refl _ _ | exact (Turns.refl _ _).drew)).mono ?_; rintro e w5 ⟨o5, rfl, ho5, hp5⟩; have HP5 := Lib.hid hp5; obtain ⟨A5, c5, rfl, -, -⟩ := ho5.reads; rw [hql2] at ho5 ⊢; have HO5 := Lib.hid ho5; obtain ⟨f0, f1⟩ := HC.out w5 hp5.turns; clear hp5 ho5))
      refine NoPanic.normal ?_
      rename_i hh
      clear hh
      have HM5 : Hid (MeanI C w w5 p mo u6 M q.2 L (sumP (l.take k))) := Lib.hid ⟨HP5.out.regrow (Turns.refl [] _) (by simp) _ (fun i hi => ⟨.inl hi, by have := (HHP.out.own.foot i hi).2; have := HP5.out; obtain ⟨_, _, _, s⟩ := this; exact Nat.lt_of_lt_of_le ‹_› s.1⟩), HHP.out.own.keepB (fun i hi => HP5.out.stays i hi), HHP.out.jn, HHP.out.len⟩
      have HD5 := Lib.hid (show ∀ i ∈ ownB (.slice A5 n c5), i ∉ ownB u6 from fun i hi hm => by
        have h1 := (HO5.out.foot i hi).1
        have h2 := (HHP.out.own.foot i hm).2
        have h3 : wr.drew.heap.size = wr.heap.size := rfl
        omega)
      have HLN := Lib.hid (lone_lenS HM5.out.lone (by have := HQ.out; omega))
      have n1 : ((n : Int) != (n : Int)) = false := bne_self_eq_false _
      obtain ⟨N2, hN2⟩ : ∃ N2, N2 = q.2.length := ⟨_, rfl⟩
      rw [← hN2] at HLN
      have hmx : decide (max most 0 < (N2 : Int)) = false := by
        have := HMO.out
        have := HQ.out.2.1
        simp
        omega
      have hmx2 : (N2 : Int) ≤ max most 0 := by simpa using hmx
      clear hN2
      clear HPT HP5 HHP d0 d1
      go_upto_region 11 with fail
      go_cut [53] from 38 to 53 (fun v wx => v = .bool false ∧ Hid (MeanI C w wx p mo u6 M q.2 L (sumP (l.take k)) ∧ nK.Own wr.drew.heap.size wx (.slice A5 n c5) q.1))
      case first =>
        go_wp2_with fail
        refine HLN.out.mono ?_
        rintro e w6 ⟨rfl, t6⟩
        have HM6 := Lib.hid (And.intro (HM5.out.pre t6) (HO5.out.turns t6 (by simp)))
        clear t6 HLN HM5 f0 f1
        go_wp2_with fail
        all_goals
          go_meet
          exact ⟨by first | rfl | (simp; omega), HM6⟩
      case rest =>
      obtain ⟨rfl, HMO6⟩ := hcut
      have HM6 := Lib.hid HMO6.out.1
      have HO6 := Lib.hid HMO6.out.2
      clear HM5 HO5 HLN HMO6 hmx hmx2 n1 f0 f1 hql2
      go_wp2_with fail
      have HM0 : Hid (MeanI C w wc p mo u6 M q.2 (putsP mo a.own (a.l.take 0) L).2 (sumP (l.take k) + 0)) := HM6
      go_loopw [6, 9] (fun lv iv wx => ∃ k2 : Nat, k2 ≤ n ∧ iv = .int .i64 (k2 : Int) ∧ Hid (∃ M2, MeanI C w wx p mo lv M2 q.2 (putsP mo a.own (a.l.take k2) L).2 (sumP (l.take k) + k2) ∧ nK.Own wr.drew.heap.size wx (.slice A5 n c5) q.1 ∧ ∀ i ∈ ownB (.slice A5 n c5), i ∉ ownB lv)) (fun _ iv _ => n - (intOf iv).toNat)
      case atStart => exact ⟨0, Nat.zero_le _, rfl, Lib.hid ⟨M, HM0.out, HO6.out, HD5.out⟩⟩
      case round =>
        clear HM0 HM6 HO6 HD5
        obtain ⟨k2, hk2, rfl, HJ⟩ := hrel
        obtain ⟨M2, hm2, ho2, hd2⟩ := HJ.out
        have hk20 : (0 : Int) ≤ (k2 : Int) := by omega
        by_cases hlt2 : k2 < n
        · have hlt2' : (k2 : Int) < (n : Int) := by omega
          obtain ⟨x, hx⟩ : ∃ x, a.l[k2]? = some x := ⟨_, List.getElem?_eq_getElem (by have := HN.out; omega)⟩
          have hsn := putsP_at mo a.own L hx
          have hmeans := one_means mo a.own x hm2.jn
          have htk := putsP_take mo a.own hx L
          have hq1 : q.1 = (putsP mo a.own a.l L).1 := by rw [HQE.out]; rfl
          rw [← hq1] at hsn
          generalize (putsP mo a.own (a.l.take k2) L).2 = L2 at hsn hmeans hm2 htk
          have hL3 : (putsP mo a.own (a.l.take (k2 + 1)) L).2 = (oneP mo a.own x L2).2 := by rw [htk]
          generalize oneP mo a.own x L2 = r at hsn hmeans hL3
          obtain ⟨⟨s0, v0, ch, ah⟩, L3⟩ := r
          obtain ⟨m1, ⟨m2, m3⟩, m4, m5⟩ := hmeans
          simp only at m1 m2 m3 m4 m5 hL3
          subst m1
          have HL3 := Lib.hid hL3
          have HM4 := Lib.hid m4
          have HM5 := Lib.hid m5
          have HJ2 := Lib.hid (And.intro hm2 (And.intro ho2 hd2))
          obtain ⟨A5', c5', e5, hr5, -⟩ := ho2.reads
          obtain ⟨e51, -, e53⟩ := Value.slice.inj e5
          subst e51 e53
          clear e5
          obtain ⟨g5, o5, rfl, hg5, hcl5⟩ := hr5.at nOk (by have := (List.getElem?_eq_some_iff.1 hsn).1; omega)
          have hc5 := hcl5 k2 _ hsn
          have k0 := hc5 0 _ rfl
          have k1 := hc5 1 _ rfl
          have k2' := hc5 2 _ rfl
          have k3 := hc5 3 _ rfl
          have k4 := hc5 4 _ rfl
          have k5 := hc5 5 _ rfl
          have k6 := hc5 6 _ rfl
          simp only [nK, Nat.add_zero, ← Nat.add_assoc] at k0 k1 k2' k3 k4 k5 k6
          obtain ⟨b6, o6, e6, hb6, -⟩ := (HRA.out wr hm2.turns).at sOk (by have := (List.getElem?_eq_some_iff.1 hx).1; omega)
          have HS6 : Hid (∀ W, Turns [] wr W → W.cell? ⟨b6, o6 + k2 * 4, none⟩ = some (.string s0.name) ∧ W.cell? ⟨b6, o6 + k2 * 4 + 1, none⟩ = some (.int .i64 s0.val) ∧ W.cell? ⟨b6, o6 + k2 * 4 + 2, none⟩ = some (.int .i64 s0.tm) ∧ W.cell? ⟨b6, o6 + k2 * 4 + 3, none⟩ = some (.bool s0.cnt)) := Lib.hid (fun W ht => by
            obtain ⟨b6', o6', e6', _, hcl⟩ := (HRA.out W (hm2.turns.then ht)).at sOk (by have := (List.getElem?_eq_some_iff.1 hx).1; omega)
            rw [e6] at e6'
            cases e6'
            have h := hcl k2 s0 hx
            have j0 := h 0 _ rfl
            have j1 := h 1 _ rfl
            have j2 := h 2 _ rfl
            have j3 := h 3 _ rfl
            simp only [sK, Nat.add_zero, ← Nat.add_assoc] at j0 j1 j2 j3
            exact ⟨j0, j1, j2, j3⟩)
          have HD : Hid (∀ W, Turns [] wr W → W.cell? ⟨g, off + k * 2 + 1, none⟩ = some (.slice (some ⟨b6, o6, none⟩) n a.c)) := Lib.hid (fun W ht => by
            have := (HC.out W (hm2.turns.then ht)).2
            rwa [e6] at this)
          clear hc5 hcl5 hm2 ho2 hd2 HJ hx hsn hq1 htk hL3 m4 m5 hr5 hg5 hb6 e6
          go_upto_region 17 with fail
          have HT7 : Hid (Turns [] wr (wr.alloc (.cells #[.string s0.name, .int .i64 s0.val, .int .i64 s0.tm, .bool s0.cnt, .int .i64 v0, .bool ch, .int .i64 ah] 43))) := Lib.hid (Turns.alloc _ _)
          have HBX : Hid (∀ W, Turns [] (wr.alloc (.cells #[.string s0.name, .int .i64 s0.val, .int .i64 s0.tm, .bool s0.cnt, .int .i64 v0, .bool ch, .int .i64 ah] 43)) W → W.cell? ⟨wr.heap.size, 0, none⟩ = some (.string s0.name) ∧ W.cell? ⟨wr.heap.size, 1, none⟩ = some (.int .i64 s0.val) ∧ W.cell? ⟨wr.heap.size, 2, none⟩ = some (.int .i64 s0.tm) ∧ W.cell? ⟨wr.heap.size, 3, none⟩ = some (.bool s0.cnt) ∧ W.cell? ⟨wr.heap.size, 4, none⟩ = some (.int .i64 v0) ∧ W.cell? ⟨wr.heap.size, 5, none⟩ = some (.bool ch) ∧ W.cell? ⟨wr.heap.size, 6, none⟩ = some (.int .i64 ah)) := Lib.hid (fun W ht =>
            ⟨lone_cells _ _ ht 0 _ rfl, lone_cells _ _ ht 1 _ rfl, lone_cells _ _ ht 2 _ rfl, lone_cells _ _ ht 3 _ rfl, lone_cells _ _ ht 4 _ rfl, lone_cells _ _ ht 5 _ rfl, lone_cells _ _ ht 6 _ rfl⟩)
          generalize wr.alloc (.cells #[.string s0.name, .int .i64 s0.val, .int .i64 s0.tm, .bool s0.cnt, .int .i64 v0, .bool ch, .int .i64 ah] 43) = w7 at HT7 HBX ⊢
          clear k0 k1 k2' k3 k4 k5 k6
          obtain ⟨k0, k1, k2', k3, k4, k5, k6⟩ := HBX.out w7 (Turns.refl _ _)
          obtain ⟨j0, j1, j2, j3⟩ := HS6.out w7 HT7.out
          have d1 := HD.out w7 HT7.out
          have hnq := fun W => smp_neq s0 s0 W
          rw [smpE_self] at hnq
          have hgd := smp_guard
          have v1 : decide (v0 < 1) = false := by simp; omega
          have v2 : decide (4 < v0) = false := by simp; omega
          go_quiet (fail)
          have HT8 := Lib.hid ((Turns.refl [] w7).drewN nq)
          generalize w7.drewN nq = w8 at HT8 ⊢
          have HJ8 := Lib.hid (HJ2.out.1.pre (HT7.out.then HT8.out))
          have HO8 := Lib.hid (And.intro (HJ2.out.2.1.turns (HT7.out.then HT8.out) (by simp)) HJ2.out.2.2)
          clear HJ2 j0 j1 j2 j3 d1 k0 k1 k2' k3 k4 k5 k6 hnq hgd v1 v2 HS6 HD
          obtain ⟨k0, k1, k2', k3, k4, k5, k6⟩ := HBX.out w8 HT8.out
          by_cases hv : v0 = 1
          · subst hv
            obtain ⟨m5, m6⟩ := HM5.out rfl
            have HM5' := Lib.hid m5
            have HM6' := Lib.hid m6
            clear HM5 HM4 m5 m6 m2 m3
            obtain ⟨m, hm⟩ : ∃ m, m = M2.length := ⟨_, rfl⟩
            have hm3 : (m : Int) ≤ 400 := by
              have := HJ8.out.len
              have := HQ.out
              omega
            have HMN := Lib.hid hm
            obtain ⟨A7, c7, e7, -, -, -⟩ := HJ8.out.own.reads
            subst e7
            rw [← hm] at HJ8 HO8 ⊢
            have HMC : Hid (∀ W, Turns [] w8 W → ∀ j s, M2[j]? = some s → ∃ b7 o7, A7 = some ⟨b7, o7, none⟩ ∧ W.cell? ⟨b7, o7 + j * 4, none⟩ = some (.string s.name) ∧ W.cell? ⟨b7, o7 + j * 4 + 1, none⟩ = some (.int .i64 s.val) ∧ W.cell? ⟨b7, o7 + j * 4 + 2, none⟩ = some (.int .i64 s.tm)) := Lib.hid (fun W ht j s hs => by
              obtain ⟨A', c', e', hr', -⟩ := (HJ8.out.own.turns ht (by simp)).reads
              obtain ⟨e1, -, -⟩ := Value.slice.inj e'
              obtain ⟨b7, o7, e2, _, hcl⟩ := hr'.at sOk (by have := (List.getElem?_eq_some_iff.1 hs).1; omega)
              have h := hcl j s hs
              have j0 := h 0 _ rfl
              have j1 := h 1 _ rfl
              have j2 := h 2 _ rfl
              simp only [sK, Nat.add_zero, ← Nat.add_assoc] at j0 j1 j2
              exact ⟨b7, o7, by rw [e1, e2], j0, j1, j2⟩)
            clear hm
            go_upto_block 4 with fail
            go_cut [11] from 93 to 128 (fun u wx => Hid (Turns [] w8 wx))
            case first =>
              go_wp2_with fail
              go_loopw [11] (fun iv wx => ∃ j : Int, -1 ≤ j ∧ j < (m : Int) ∧ iv = .int .i64 j ∧ Hid (Turns [] w8 wx ∧ ∀ (i : Nat) z, j < (i : Int) → M2[i]? = some z → eqN z.name s0.name = false)) (fun iv _ => (intOf iv + 1).toNat)
              case atStart => exact ⟨(m : Int) - 1, by omega, by omega, by go_num, Lib.hid ⟨Turns.refl _ _, fun i z hi hz => by have := (List.getElem?_eq_some_iff.1 hz).1; have := HMN.out; omega⟩⟩
              case round =>
                obtain ⟨j, hj1, hj2, rfl, HX⟩ := hrel
                by_cases hj : 0 ≤ j
                · obtain ⟨jn, rfl⟩ : ∃ jn : Nat, j = (jn : Int) := ⟨j.toNat, by omega⟩
                  obtain ⟨s, hs⟩ : ∃ s, M2[jn]? = some s := ⟨_, List.getElem?_eq_getElem (by have := HMN.out; omega)⟩
                  obtain ⟨b7, o7, rfl, i0, i1, i2⟩ := HMC.out wr HX.out.1 jn s hs
                  have hT2 := HT8.out.then HX.out.1
                  clear k0 k1 k2' k3 k4 k5 k6
                  obtain ⟨k0, k1, k2', k3, k4, k5, k6⟩ := HBX.out wr hT2
                  have HTD := Lib.hid (fun n => HX.out.1.drewN n)
                  have hfa := fun (he : eqN s.name s0.name = true) => fndM_at hs he (fun i z hi hz => HX.out.2 i z (by omega) hz)
                  have HFA := Lib.hid hfa
                  have HSS := Lib.hid hs
                  have HXX := HX
                  clear hT2 HX hfa hs
                  cases hen : eqN s.name s0.name with
                  | true =>
                    have hfm := HM5'.out s (HFA.out hen)
                    have h1 : (s.name.toList == s0.name.toList) = true := hen
                    have h2 : decide (s0.tm ≤ s.tm) = false := by simp; omega
                    have h3 : ch = true → (ah != s.val) = false := fun h => by rw [hfm.2 h]; exact bne_self_eq_false _
                    clear hfm HFA
                    cases ch with
                    | true =>
                      have h4 := h3 rfl
                      clear h3
                      go_wp2_with fail
                      go_quiet (fail)
                      have HX1 := Lib.hid (HTD.out nq)
                      go_wp2_with fail
                      go_quiet (fail)
                      have HX2 := Lib.hid (HX1.out.drewN nq)
                      go_wp2_with fail
                      go_meet
                      exact HX2
                    | false =>
                      clear h3
                      go_wp2_with fail
                      go_quiet (fail)
                      have HX1 := Lib.hid (HTD.out nq)
                      go_wp2_with fail
                      go_quiet (fail)
                      have HX2 := Lib.hid (HX1.out.drewN nq)
                      go_wp2_with fail
                      go_meet
                      exact HX2
                  | false =>
                    have h1 : (s.name.toList == s0.name.toList) = false := hen
                    have HEN := Lib.hid hen
                    clear hen HFA
                    go_wp2_with fail
                    go_quiet (fail)
                    have HX1 := Lib.hid (HTD.out nq)
                    go_wp2_with fail
                    go_roundw
                    case rel => exact ⟨(jn : Int) - 1, by omega, by omega, by go_num, Lib.hid ⟨HX1.out, fun i z hi hz => by
                      by_cases e : i = jn
                      · subst e
                        rw [HSS.out] at hz
                        cases hz
                        exact HEN.out
                      · exact HXX.out.2 i z (by omega) hz⟩⟩
                    case measure => simp [intOf] <;> omega
                · have hj0 : decide (0 ≤ j) = false := by simp; omega
                  have HX1 := Lib.hid HX.out.1
                  go_wp2_with fail
                  go_meet
                  exact HX1
            case rest =>
            have HT9 := hcut
            have HX9 := Lib.hid (HT8.out.then HT9.out)
            clear k0 k1 k2' k3 k4 k5 k6
            obtain ⟨k0, k1, k2', k3, -, -, -⟩ := HBX.out wc HX9.out
            have HJ9 := Lib.hid (HJ8.out.pre HT9.out)
            have HO9 := Lib.hid (And.intro (HO8.out.1.turns HT9.out (by simp)) HO8.out.2)
            have HOA := Lib.hid (fun (C' : Obj) => (HJ9.out.pre (Turns.alloc (F := []) wc C')))
            have HBA := Lib.hid (fun (C' : Obj) => show w.heap.size ≤ (wc.alloc C').heap.size from Nat.le_trans HJ9.out.turns.size (by simp))
            have HLA := Lib.hid (show M2.length + [s0].length ≤ 100000 by have := HMN.out; simp; omega)
            have HOB := Lib.hid (fun (C' : Obj) => HO9.out.1.turns (Turns.alloc (F := []) wc C') (by simp))
            clear HJ8 HO8 HMC HM5'
            go_wp2_with (at_builtin; refine EK.wpList_append sOk rfl (.tmp 129) (.tmp 132) rfl w.heap.size (.slice A7 m c7) M2 rfl (HOA.out _).own (wc.heap.size + 1) (some ⟨wc.heap.size, 0, none⟩) [s0] 1 1 rfl rfl (EK.Reads.lone sOk (W := wc) s0 _ _ rfl rfl) (by simp) HLA.out (HBA.out _) ?_; intro v2 w2 ho2 ht2 hf2; have HA2 := Lib.hid ((HOA.out _).app ho2 ht2 hf2 HM6'.out); have HO2 := Lib.hid (And.intro ((HOB.out _).turns ht2 (fun g' hg' => HO9.out.2 g' (by unfold ownB; rw [hg']; simp))) (show ∀ i ∈ ownB (.slice (some ⟨g5, o5, none⟩) n c5), i ∉ ownB v2 from fun i hi hm => by rcases hf2 i hm with h | h; (exact HO9.out.2 i hi h); (have := (HO9.out.1.foot i hi).2; simp at h; omega))); clear ho2 ht2 hf2)
            go_roundw
            case rel => exact ⟨k2 + 1, by omega, by go_num, Lib.hid ⟨_, by rw [HL3.out]; exact HA2.out, HO2.out.1, HO2.out.2⟩⟩
            case measure => simp [intOf] <;> omega
          · obtain ⟨m4, m6⟩ := HM4.out hv
            subst m4
            have HJX := Lib.hid (HJ8.out.next m6)
            have hv1 : (v0 != 1) = true := by simpa using hv
            clear HM4 HM5 m6 HJ8 hv
            go_wp2_with fail
            go_roundw
            case rel => exact ⟨k2 + 1, by omega, by go_num, Lib.hid ⟨M2, by rw [HL3.out]; exact HJX.out, HO8.out.1, HO8.out.2⟩⟩
            case measure => simp [intOf] <;> omega
        · have hge : decide ((k2 : Int) < (n : Int)) = false := by simp; omega
          obtain rfl : k2 = n := by omega
          have HPX : Hid (∃ L M, L.length ≤ sumP (l.take (k + 1)) ∧ L.length ≤ mo ∧ MeanI C w wr p mo u6 M L L (sumP (l.take (k + 1)))) := Lib.hid ⟨q.2, M2, by have := HQ.out; omega, HQ.out.2.1, hm2.lone, hm2.own, by
            have h1 := hm2.jn
            rw [HN.out, List.take_length] at h1
            have h2 := h1.stale a.own a.l
            rw [HQE.out]
            exact h2, by have := hm2.len; have := HQ.out; omega⟩
          have HLT := Lib.hid hlt
          clear hm2 ho2 hd2 HJ
          go_wp2_with fail
          exact ⟨⟨k + 1, HLT.out, by go_num, HPX⟩, by have := HLT.out; simp [intOf]; omega⟩
    · have hge : decide ((k : Int) < (NN : Int)) = false := by simp; omega
      have HT := Lib.hid hp.turns
      clear hp HP
      go_wp2_with fail
      refine (HK.out _).mono ?_
      rintro e w9 ⟨rfl, t9⟩
      have HT9 := Lib.hid (HT.out.then t9)
      clear t9
      go_wp2_with fail
      go_ret
      exact ⟨rfl, HT9.out⟩
end Go.Proofs.Ytadndefbdofodaa
