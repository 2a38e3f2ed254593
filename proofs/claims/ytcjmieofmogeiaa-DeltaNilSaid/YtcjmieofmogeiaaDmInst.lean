/- The program's Same of two meters; its meter keeps the contracts. -/
import Derived.Test.YtcjmieofmogeiaaDmPut
import Derived.Deep.RegionHeld3
import Derived.Test.YtcjmieofmogeiaaSrSame
namespace Go.Proofs.Ytcjmieofmogeiaa
open Go.RowKit

theorem newSr_any (most : Int) (w : World) :
    Calls Try.prog 23 #[.int .i64 most] w fun e w' => ∃ p b F, e = .returned (ptr p) ∧ @Sr plainHd w.heap.size w' p b F most.toNat (fun _ => none) [] ∧ Turns [] w w' :=
  (newSt_any most w).mono fun e w' ⟨p, b, he, hs, hf, ht⟩ => ⟨p, b, [p, b], he, ⟨hs, ⟨List.Pairwise.nil, by simp, fun x q hq => (by cases hq)⟩, fun i hi => (by
    rcases hi with rfl | rfl | ⟨x, q, hq, _⟩
    · simp
    · simp
    · cases hq), fun i hi => hf i (by simpa using hi)⟩, ht⟩
set_option maxHeartbeats 400000 in
theorem newM_any (most : Int) (w : World) :
    Calls Try.prog 10 #[.int .i64 most] w fun e w' => ∃ p b F, e = .returned (ptr p) ∧ @Sr (meterHd .zero) w.heap.size w' p b F most.toNat (fun _ => none) [] ∧ Turns [] w w' := by
  have HN := Lib.hid (newSr_any most w)
  go_enter Try.func10, Try.ntmps10
  go_wp2_with fail
  refine HN.out.mono ?_
  rintro e w1 ⟨q, b, F, rfl, hs, ht⟩
  have c0 := hs.sm.c0
  have c1 := hs.sm.c1
  have HS := Lib.hid hs
  have HT := Lib.hid ht
  clear hs ht HN
  have hmx : (most.toNat : Int) = max most 0 := by omega
  go_wp2
  go_ret
  exact ⟨_, b, _, rfl, HS.out.move (T' := .zero) (by unfold HeadM; rw [hmx]; exact heap_alloc_new w1 _) (Turns.alloc _ _) HT.out.size (Nat.le_refl _), HT.out.then (Turns.alloc _ _)⟩
section
variable {B : Nat} {w : World} {p b most : Nat} {F : List Nat} {T : Tl} {P : PM} {L : List One}
set_option maxHeartbeats 1000000 in
theorem tallyM_any (h : HeadM w p most b T) : Calls Try.prog 13 #[ptr p] w fun e w' => e = .returned T.val' ∧ Turns [] w w' := by
  have hplt := lt_of_block h
  obtain ⟨c2, c3, c4, c5, c6, c7, c8, -⟩ := h.cells
  clear h
  go_enter Try.func13, Try.ntmps13
  have hne : ¬ w.heap.size = p := by omega
  go_wp2
  exact bodyPost_ret (results_cell_row (P := Try.prog) rfl _ _ w.heap.size 34 #[.int .i64 (T.p : Int), .int .i64 (T.a : Int), .int .i64 (T.o : Int), .int .i64 (T.t : Int), .int .i64 (T.f : Int), .int .i64 (T.g : Int), .int .i64 (T.r : Int)] (0, 0) _ rfl (heap_alloc_new w _) tl_str rfl (by kernel_rfl)) rfl ⟨rfl, Turns.alloc _ _⟩
set_option maxHeartbeats 400000 in
theorem storeM_any (h : @Sr (meterHd T) B w p b F most P L) (hl : L.length ≤ 90000) :
    Calls Try.prog 14 #[ptr p] w fun e w' => ∃ q b2 G P2, e = .returned (ptr q) ∧ @Sr plainHd w.heap.size w' q b2 G most P2 L ∧ Turns [] w w' := by
  have HC := Lib.hid (copySt_any h hl)
  clear h hl
  go_enter Try.func14, Try.ntmps14
  go_wp2_with fail
  refine HC.out.mono ?_
  rintro e w1 ⟨q, b2, G, P2, rfl, hs, ht⟩
  have HS := Lib.hid hs
  have HT := Lib.hid ht
  clear hs ht HC
  go_wp2
  go_ret
  exact ⟨q, b2, G, P2, rfl, HS.out, HT.out⟩
set_option maxRecDepth 100000 in
set_option maxHeartbeats 4000000 in
theorem copyM_any (h : @Sr (meterHd T) B w p b F most P L) (hl : L.length ≤ 90000) :
    Calls Try.prog 19 #[ptr p] w fun e w' => ∃ q b2 G P2, e = .returned (ptr q) ∧ @Sr (meterHd T) w.heap.size w' q b2 G most P2 L ∧ Turns [] w w' := by
  have HH := Lib.hid h.sm.headM
  have HC : Hid (∀ W, Turns [] w W → W.cell? ⟨p, 2, none⟩ = some (.int .i64 (T.p : Int)) ∧ W.cell? ⟨p, 3, none⟩ = some (.int .i64 (T.a : Int)) ∧ W.cell? ⟨p, 4, none⟩ = some (.int .i64 (T.o : Int)) ∧ W.cell? ⟨p, 5, none⟩ = some (.int .i64 (T.t : Int)) ∧ W.cell? ⟨p, 6, none⟩ = some (.int .i64 (T.f : Int)) ∧ W.cell? ⟨p, 7, none⟩ = some (.int .i64 (T.g : Int)) ∧ W.cell? ⟨p, 8, none⟩ = some (.int .i64 (T.r : Int))) := Lib.hid (fun W ht => by
    obtain ⟨c2, c3, c4, c5, c6, c7, c8, _⟩ := (HH.out.pre ht).cells
    exact ⟨c2, c3, c4, c5, c6, c7, c8⟩)
  have HS := Lib.hid (fun W (ht : Turns [] w W) => copySt_any (show @Sr (meterHd T) B W p b F most P L from ⟨h.sm.pre ht, h.tel, h.cov, fun i hi => ⟨(h.foot i hi).1, Nat.lt_of_lt_of_le (h.foot i hi).2 ht.size⟩⟩) hl)
  obtain ⟨c2, c3, c4, c5, c6, c7, c8⟩ := HC.out w (Turns.refl _ _)
  have HD : Hid (Turns [] w w.drew) := Lib.hid (Turns.refl [] w).drew
  have hd0 := HC.out w (Turns.refl _ _)
  clear h hl
  go_enter Try.func19, Try.ntmps19
  go_wp2_with fail
  obtain ⟨d2, d3, d4, d5, d6, d7, d8⟩ := HC.out w.drew HD.out
  go_region_law ((go_simp; go_at_call 28; refine (HS.out _ (by first | exact Turns.refl _ _ | exact (Turns.refl _ _).drew)).mono ?_; rintro e w1 ⟨q, b2, G, P2, rfl, hs2, ht2⟩; have HT1 := Lib.hid ht2; have HR1 := Lib.hid hs2; obtain ⟨e2, e3, e4, e5, e6, e7, e8⟩ := HC.out w1 (HD.out.then ht2); have q0 := hs2.sm.c0; have q1 := hs2.sm.c1; clear hs2 ht2))
  all_goals
    go_wp2
    go_ret
    exact ⟨_, _, _, _, rfl, HR1.out.move (T' := T) (heap_alloc_new _ _) (Turns.alloc _ _) HT1.out.size (Nat.le_refl _), HD.out.then (HT1.out.then (Turns.alloc _ _))⟩
end
end Go.Proofs.Ytcjmieofmogeiaa

namespace Go.Proofs.Ytcjmieofmogeiaa
open Go.RowKit

set_option maxRecDepth 100000 in
set_option maxHeartbeats 4000000 in
theorem sameM_any {B1 B2 : Nat} {w : World} {p q b1 b2 m1 m2 : Nat} {F1 F2 : List Nat} {T1 T2 : Tl} {P1 P2 : PM} {L1 L2 : List One} (h1 : @Sr (meterHd T1) B1 w p b1 F1 m1 P1 L1) (h2 : @Sr (meterHd T2) B2 w q b2 F2 m2 P2 L2) (hl : L1.length ≤ 90000) (hl2 : L2.length ≤ 90000) :
    Calls Try.prog 21 #[ptr p, ptr q] w fun e w' => e = .returned (.bool (decide (m1 = m2 ∧ T1 = T2 ∧ L1 = L2))) ∧ Turns [] w w' := by
  have HC : Hid (∀ W, Turns [] w W → W.cell? ⟨p, 2, none⟩ = some (.int .i64 (T1.p : Int)) ∧ W.cell? ⟨p, 3, none⟩ = some (.int .i64 (T1.a : Int)) ∧ W.cell? ⟨p, 4, none⟩ = some (.int .i64 (T1.o : Int)) ∧ W.cell? ⟨p, 5, none⟩ = some (.int .i64 (T1.t : Int)) ∧ W.cell? ⟨p, 6, none⟩ = some (.int .i64 (T1.f : Int)) ∧ W.cell? ⟨p, 7, none⟩ = some (.int .i64 (T1.g : Int)) ∧ W.cell? ⟨p, 8, none⟩ = some (.int .i64 (T1.r : Int)) ∧ W.cell? ⟨q, 2, none⟩ = some (.int .i64 (T2.p : Int)) ∧ W.cell? ⟨q, 3, none⟩ = some (.int .i64 (T2.a : Int)) ∧ W.cell? ⟨q, 4, none⟩ = some (.int .i64 (T2.o : Int)) ∧ W.cell? ⟨q, 5, none⟩ = some (.int .i64 (T2.t : Int)) ∧ W.cell? ⟨q, 6, none⟩ = some (.int .i64 (T2.f : Int)) ∧ W.cell? ⟨q, 7, none⟩ = some (.int .i64 (T2.g : Int)) ∧ W.cell? ⟨q, 8, none⟩ = some (.int .i64 (T2.r : Int))) := Lib.hid (fun W ht => by
    obtain ⟨a0, a1, a2, a3, a4, a5, a6, -⟩ := (h1.sm.headM.pre ht).cells
    obtain ⟨b0, b1, b2, b3, b4, b5, b6, -⟩ := (h2.sm.headM.pre ht).cells
    exact ⟨a0, a1, a2, a3, a4, a5, a6, b0, b1, b2, b3, b4, b5, b6⟩)
  have HS := Lib.hid (fun W (ht : Turns [] w W) => sameSt_any (Sr.pre h1 ht) (Sr.pre h2 ht) hl hl2)
  have hd0 := HC.out w (Turns.refl _ _)
  obtain ⟨c0, c1, c2, c3, c4, c5, c6, d0, d1, d2, d3, d4, d5, d6⟩ := hd0
  have hd0 := HC.out w (Turns.refl _ _)
  have hgd := tl_guard
  have hnq := fun W => tl_eql T1 T2 W
  unfold Tl.val' at hnq
  have HD : Hid (Turns [] w w.drew) := Lib.hid (Turns.refl [] w).drew
  clear h1 h2 hl hl2
  by_cases he : T1 = T2
  · have hE : tlE T1 T2 = true := tlE_iff.2 he
    have HDE : Hid (decide (m1 = m2 ∧ T1 = T2 ∧ L1 = L2) = decide (m1 = m2 ∧ L1 = L2)) := Lib.hid (by simp [he])
    generalize decide (m1 = m2 ∧ L1 = L2) = al at HS HDE
    rw [hE] at hnq
    clear he hE
    go_enter Try.func21, Try.ntmps21
    go_wp2_with fail
    refine wp_region_noPanic ?_
    go_region_held (fun w' => w'.cell? ⟨p, 2, none⟩ = some (.int .i64 (T1.p : Int)) ∧ w'.cell? ⟨p, 3, none⟩ = some (.int .i64 (T1.a : Int)) ∧ w'.cell? ⟨p, 4, none⟩ = some (.int .i64 (T1.o : Int)) ∧ w'.cell? ⟨p, 5, none⟩ = some (.int .i64 (T1.t : Int)) ∧ w'.cell? ⟨p, 6, none⟩ = some (.int .i64 (T1.f : Int)) ∧ w'.cell? ⟨p, 7, none⟩ = some (.int .i64 (T1.g : Int)) ∧ w'.cell? ⟨p, 8, none⟩ = some (.int .i64 (T1.r : Int)) ∧ w'.cell? ⟨q, 2, none⟩ = some (.int .i64 (T2.p : Int)) ∧ w'.cell? ⟨q, 3, none⟩ = some (.int .i64 (T2.a : Int)) ∧ w'.cell? ⟨q, 4, none⟩ = some (.int .i64 (T2.o : Int)) ∧ w'.cell? ⟨q, 5, none⟩ = some (.int .i64 (T2.t : Int)) ∧ w'.cell? ⟨q, 6, none⟩ = some (.int .i64 (T2.f : Int)) ∧ w'.cell? ⟨q, 7, none⟩ = some (.int .i64 (T2.g : Int)) ∧ w'.cell? ⟨q, 8, none⟩ = some (.int .i64 (T2.r : Int))) (first | exact hd0 | exact hd1 | assumption) ((go_at_call 34; refine (HS.out _ (by first | exact Turns.refl _ _ | exact (Turns.refl _ _).drew)).mono ?_; rintro e w1 ⟨rfl, ht2⟩; have HT1 := Lib.hid ht2; have hd1 := HC.out w1 (HD.out.then ht2); clear ht2))
    all_goals
      refine NoPanic.normal ?_
      go_wp2
      go_ret
      exact ⟨by rw [HDE.out]; rfl, HD.out.then HT1.out⟩
  · have hE : tlE T1 T2 = false := by
      cases h : tlE T1 T2 with
      | false => rfl
      | true => exact absurd (tlE_iff.1 h) he
    have HDE : Hid (decide (m1 = m2 ∧ T1 = T2 ∧ L1 = L2) = false) := Lib.hid (by simp [he])
    have HDN := Lib.hid (fun n => (Turns.refl [] w).drewN n)
    rw [hE] at hnq
    clear he hE HS hd0
    go_enter Try.func21, Try.ntmps21
    go_wp2_with fail
    go_quiet (fail)
    go_wp2
    go_ret
    exact ⟨by rw [HDE.out]; rfl, HDN.out _⟩
def DmA (B : Nat) (w : World) (p : Nat) (F : List Nat) (most : Nat) (T : Tl) (L : List One) : Prop := ∃ b P, @Sr (meterHd T) B w p b F most P L
def dmC : MeC where
  At := DmA
  foot := fun ⟨_, _, h⟩ => h.foot
  low := fun {B B' w p F most T L} ⟨b, P, h⟩ hB => ⟨b, P, h.sm.lower hB, h.tel, h.cov, fun i hi => ⟨Nat.le_trans hB (h.foot i hi).1, (h.foot i hi).2⟩⟩
  turns := fun {B w w' p F most T L G} ⟨b, P, h⟩ ht hG => ⟨b, P, h.sm.turns ht (hG p (h.cov p (.inl rfl))) (fun i hi hin => hG i (h.cov i (.inr hin)) hi), h.tel, h.cov, fun i hi => ⟨(h.foot i hi).1, Nat.lt_of_lt_of_le (h.foot i hi).2 ht.size⟩⟩
  new := fun most w _ _ => (newM_any most w).mono fun e w' ⟨p, b, F, he, hs, ht⟩ => ⟨p, F, he, ⟨b, _, hs⟩, ht⟩
  put := fun {B w p F most T L l A c N} ⟨b, P, h⟩ hB hL hT hN hc _ hr hA owner _ hx hok => (putM_any h hB hL hT hN hc hr hA owner (fun x hm => (hx x hm).1) hok).mono fun e w' ⟨o, og, bm, he, hJ⟩ => by
    obtain ⟨F', P', h1, h2, h3, h4⟩ := hJ.ref
    exact ⟨o, og, F', he, hJ.seen, hJ.gains, ⟨b, P', h1⟩, hJ.tt, h2, h3, h4⟩
  tally := fun {B w p F most T L} ⟨b, P, h⟩ => tallyM_any h.sm.headM
  store := fun {B w p F most T L} ⟨b, P, h⟩ hl => (storeM_any h hl).mono fun e w' ⟨q, b2, G, P2, he, hs, ht⟩ => ⟨q, he, ht, fun X hX => lenM_any (hs.sm.pre hX)⟩
  copy := fun {B w p F most T L} ⟨b, P, h⟩ hl => (copyM_any h hl).mono fun e w' ⟨q, b2, G, P2, he, hs, ht⟩ => ⟨q, G, he, ⟨b2, P2, hs⟩, ht⟩
  same := fun {B1 B2 w p q F G m1 m2 T1 T2 L1 L2} ⟨b1, P1, h1⟩ ⟨b2, P2, h2⟩ hl1 hl2 => sameM_any h1 h2 hl1 hl2
  gain := fun ahead value w ha hv => (gainF_any ahead value ha hv w).mono fun e w' ⟨he, hw⟩ => ⟨he, hw ▸ Turns.refl _ _⟩
end Go.Proofs.Ytcjmieofmogeiaa
