/- The program's Gain and gain. -/
import Derived.Test.YtcjmieofmogeiaaSrCopy
import Derived.Test.YtcjmieofmogeiaaDlMem
import Derived.Test.YtcjmieofmogeiaaDlVerd
import Derived.Test.YtcjmieofmogeiaaDlPut
import Derived.Test.YtcjmieofmogeiaaFixSubP
namespace Go.Proofs.Ytcjmieofmogeiaa
open Go.RowKit

abbrev meterHd (T : Tl) : Hd := ⟨T.cells, 68, by show (68 : Nat) ≠ 71; decide⟩
/-- A meter's block. -/
def HeadM (w : World) (p most b : Nat) (T : Tl) : Prop := w.heap[p]? = some (.cells (List.toArray (.int .i64 (most : Int) :: .map (some b) :: T.cells)) 68 (0, 0))
section
variable {B : Nat} {w w' : World} {p q b most n : Nat} {T T' : Tl} {P : PM} {F : List Nat} {L : List One}
theorem HeadM.pre (h : HeadM w p most b T) (ht : Turns [] w w') : HeadM w' p most b T := (ht.block p (lt_of_block h) (by simp)).trans h
theorem HeadM.cells (h : HeadM w p most b T) : w.cell? ⟨p, 2, none⟩ = some (.int .i64 (T.p : Int)) ∧ w.cell? ⟨p, 3, none⟩ = some (.int .i64 (T.a : Int)) ∧ w.cell? ⟨p, 4, none⟩ = some (.int .i64 (T.o : Int)) ∧ w.cell? ⟨p, 5, none⟩ = some (.int .i64 (T.t : Int)) ∧ w.cell? ⟨p, 6, none⟩ = some (.int .i64 (T.f : Int)) ∧ w.cell? ⟨p, 7, none⟩ = some (.int .i64 (T.g : Int)) ∧ w.cell? ⟨p, 8, none⟩ = some (.int .i64 (T.r : Int)) ∧ ∀ j, w.frozen? ⟨p, j, none⟩ = false := by
  unfold HeadM Tl.cells at h
  refine ⟨?_, ?_, ?_, ?_, ?_, ?_, ?_, ?_⟩
  all_goals first | (simp [World.cell?, h]; done) | (intro j; simp [World.frozen?, h])
theorem HeadM.set (h : HeadM w p most b T) (T' : Tl) (j : Nat) (n : Int) (he : T.cells.set j (.int .i64 n) = T'.cells) : HeadM (w.setCell ⟨p, j + 2, none⟩ (.int .i64 n)) p most b T' := by
  have := heap_setCell_same w p (j + 2) _ _ (.int .i64 n) h
  unfold HeadM
  rw [this]
  rw [List.setIfInBounds_toArray]
  simp only [List.set_cons_succ, he]
theorem Sm.headM (h : @Sm (meterHd T) B w p b most P n) : HeadM w p most b T := h.head
/-- Only the block of its head is written. -/
theorem Sm.rehead {H1 : Hd} (h : @Sm H1 B w p b most P n) (hh : HeadM w' p most b T') (ht : Turns [p] w w') : @Sm (meterHd T') B w' p b most P n :=
  ⟨hh, h.map.turns ht (fun i hi hm => by
    rw [List.mem_singleton] at hi
    subst hi
    rcases hm with e | ⟨x, u, hu, e⟩
    · exact h.apart.1 e
    · exact h.apart.2 x u hu e), h.apart, h.low, h.nm⟩
theorem Sr.rehead {H1 : Hd} (h : @Sr H1 B w p b F most P L) (hh : HeadM w' p most b T') (ht : Turns [p] w w') : @Sr (meterHd T') B w' p b F most P L :=
  ⟨h.sm.rehead hh ht, h.tel, h.cov, fun i hi => ⟨(h.foot i hi).1, Nat.lt_of_lt_of_le (h.foot i hi).2 ht.size⟩⟩
/-- A store's map goes into another block. -/
theorem Sr.move {H1 : Hd} (h : @Sr H1 B w p b F most P L) (hh : HeadM w' q most b T') (ht : Turns [] w w') (hB : B ≤ w.heap.size) (hq : w.heap.size ≤ q) : @Sr (meterHd T') B w' q b (q :: F) most P L := by
  have hlt := h.sm.map.map.lt
  refine ⟨⟨hh, h.sm.map.pre ht, ⟨by omega, fun x u hu => ?_⟩, by omega, h.sm.nm⟩, h.tel, fun i hi => ?_, fun i hi => ?_⟩
  · have := lt_of_block (h.sm.map.blk x u hu).1
    omega
  · rcases hi with rfl | hi
    · simp
    · exact List.mem_cons_of_mem _ (h.cov i (.inr hi))
  · rcases List.mem_cons.1 hi with rfl | hi
    · exact ⟨by omega, lt_of_block hh⟩
    · exact ⟨(h.foot i hi).1, Nat.lt_of_lt_of_le (h.foot i hi).2 ht.size⟩
end
end Go.Proofs.Ytcjmieofmogeiaa

namespace Go.Proofs.Ytcjmieofmogeiaa
open Go.RowKit

set_option maxHeartbeats 400000 in
theorem gainF_any (ahead value : Int) (ha : -9223372036854775808 ≤ ahead ∧ ahead ≤ 9223372036854775807) (hv : -9223372036854775808 ≤ value ∧ value ≤ 9223372036854775807) (w : World) :
    Calls Try.prog 17 #[.int .i64 ahead, .int .i64 value] w fun e w' => e = .returned (.tuple #[.int .i64 (gainL ahead value).1, .bool (gainL ahead value).2]) ∧ w = w' := by
  by_cases h : value < ahead
  · have HE : Hid (gainL ahead value = (max value 0, true)) := Lib.hid (by
      unfold gainL
      rw [if_pos h]
      by_cases h0 : value < 0
      · rw [if_pos h0, Int.max_eq_right (by omega)]
      · rw [if_neg h0, Int.max_eq_left (by omega)])
    clear ha hv
    go_enter Try.func17, Try.ntmps17
    go_wp2
    go_ret2
    exact ⟨by rw [HE.out]; rfl, rfl⟩
  · have HS := Lib.hid (sub_any value ahead w hv.1 hv.2 ha.1 ha.2)
    have HE : Hid (gainL ahead value = ((sat (value - ahead)).1, false)) := Lib.hid (by
      unfold gainL
      rw [if_neg h]
      by_cases h1 : 9223372036854775807 < value - ahead
      · rw [if_pos h1, sat_most _ h1]
      · rw [if_neg h1, sat_in _ (by omega) (by omega)])
    clear ha hv
    go_enter Try.func17, Try.ntmps17
    go_wp2_with fail
    refine HS.out.mono ?_
    rintro e w1 ⟨rfl, rfl⟩
    go_wp2
    go_ret2
    exact ⟨by rw [HE.out]; rfl, rfl⟩
theorem gain_struct : Try.prog.underlying 54 = some (.struct (Try.prog.fieldsOf 54)) := by kernel_rfl
set_option maxRecDepth 100000 in
set_option maxHeartbeats 2000000 in
/-- gain counts, and tells. -/
theorem gainM_any {w : World} {p most b : Nat} {T : Tl} (h : HeadM w p most b T) (hT : (T.g : Int) ≤ 2000000 ∧ (T.r : Int) ≤ 2000000) (x : Sn) (hx : SnOk x) (hn : NmOk x.s.name) :
    Calls Try.prog 31 #[ptr p, .agg x.cells.toArray] w fun e w' => e = .returned (.agg (gainS x).cells.toArray) ∧ HeadM w' p most b (T.gain (gainL x.ahead x.s.val).2) ∧ Turns [p] w w' := by
  have HG := Lib.hid (fun W => gainF_any x.ahead x.s.val hx.2 hx.1 W)
  have HC := Lib.hid (fun W => clone_nm x.s.name W hn)
  have H := Lib.hid h
  have hplt := lt_of_block h
  have HGS := Lib.hid (show gainS x = ⟨x.s.name, x.s.tm, (gainL x.ahead x.s.val).1, (gainL x.ahead x.s.val).2⟩ from rfl)
  obtain ⟨hg0, hr0⟩ := hT
  generalize gainL x.ahead x.s.val = gl at HG HGS ⊢
  obtain ⟨gi, gr⟩ := gl
  simp only at HG HGS ⊢
  clear h hx hn
  unfold Sn.cells
  go_enter Try.func31, Try.ntmps31
  go_upto_region 1 with fail
  obtain ⟨W0, hW0⟩ : ∃ W0, (w.alloc (.cells #[.string x.s.name, .int .i64 x.s.val, .int .i64 x.s.tm, .bool x.s.cnt, .int .i64 x.v, .bool x.chain, .int .i64 x.ahead] 71)).alloc (.cells #[.string ⟨#[]⟩, .int .i64 0, .int .i64 0, .bool false] 54) = W0 := ⟨_, rfl⟩
  have hs0 : W0.heap.size = w.heap.size + 2 := by rw [← hW0]; simp
  have hT0 : Turns [] w W0 := by rw [← hW0]; exact (Turns.alloc (F := []) w _).then (Turns.alloc (F := []) _ _)
  have hb1 : W0.heap[w.heap.size]? = some (.cells #[.string x.s.name, .int .i64 x.s.val, .int .i64 x.s.tm, .bool x.s.cnt, .int .i64 x.v, .bool x.chain, .int .i64 x.ahead] 71 (0, 0)) := by
    rw [← hW0]
    exact ((Turns.alloc (F := []) (w.alloc _) _).block w.heap.size (by simp) (by simp)).trans (heap_alloc_new w _)
  have hb2 : W0.heap[w.heap.size + 1]? = some (.cells #[.string ⟨#[]⟩, .int .i64 0, .int .i64 0, .bool false] 54 (0, 0)) := by
    rw [← hW0]
    have := heap_alloc_new (w.alloc (.cells #[.string x.s.name, .int .i64 x.s.val, .int .i64 x.s.tm, .bool x.s.cnt, .int .i64 x.v, .bool x.chain, .int .i64 x.ahead] 71)) (.cells #[.string ⟨#[]⟩, .int .i64 0, .int .i64 0, .bool false] 54)
    rw [World.size_alloc] at this
    exact this
  have HB1 : Hid (∀ W, Turns [p] W0 W → W.cell? ⟨w.heap.size, 0, none⟩ = some (.string x.s.name) ∧ W.cell? ⟨w.heap.size, 1, none⟩ = some (.int .i64 x.s.val) ∧ W.cell? ⟨w.heap.size, 2, none⟩ = some (.int .i64 x.s.tm) ∧ W.cell? ⟨w.heap.size, 6, none⟩ = some (.int .i64 x.ahead)) := Lib.hid (fun W hW => by
    have h := (hW.block w.heap.size (by omega) (by simp; omega)).trans hb1
    refine ⟨?_, ?_, ?_, ?_⟩ <;> simp [World.cell?, h])
  have HB2 : Hid (∀ W, Turns [p] W0 W → W.heap[w.heap.size + 1]? = some (.cells #[.string ⟨#[]⟩, .int .i64 0, .int .i64 0, .bool false] 54 (0, 0))) := Lib.hid (fun W hW => (hW.block (w.heap.size + 1) (by omega) (by simp; omega)).trans hb2)
  have HT0 := Lib.hid hT0
  have HP0 := Lib.hid (H.out.pre hT0)
  have HS0 := Lib.hid hs0
  have hbp : ¬ w.heap.size = p := by omega
  have hrp : ¬ w.heap.size + 1 = p := by omega
  obtain ⟨bx, hbx⟩ : ∃ bx, bx = w.heap.size := ⟨_, rfl⟩
  rw [hW0]
  rw [← hbx] at HB1 HB2 HS0 hbp hrp ⊢
  have HBX := Lib.hid hbx
  clear hW0 hs0 hT0 hb1 hb2 hbx
  obtain ⟨k0, k1, k2, k6⟩ := HB1.out W0 (Turns.refl _ _)
  go_upto_region 2 with ((go_at_call 17; refine (HG.out _).mono ?_; rintro e w1 ⟨rfl, rfl⟩))
  obtain ⟨-, -, -, -, -, q7, q8, qf⟩ := HP0.out.cells
  go_upto_region 3 with fail
  have HP1 := Lib.hid (HP0.out.set (T.gain false) 5 ((T.g : Int) + 1) (by simp [Tl.cells, Tl.gain]))
  have HT1 := Lib.hid (Turns.setCell (F := [p]) W0 ⟨p, 5 + 2, none⟩ (.int .i64 ((T.g : Int) + 1)) (by simp))
  simp only [Nat.reduceAdd] at HP1 HT1
  cases gr with
  | false =>
    go_upto_region 5 with fail
    generalize W0.setCell ⟨p, 7, none⟩ (.int .i64 ((T.g : Int) + 1)) = W1 at HP1 HT1 ⊢
    clear k0 k1 k2 k6 q7 q8 qf
    obtain ⟨k0, k1, k2, k6⟩ := HB1.out _ HT1.out
    go_upto_region 6 with ((go_at_call 40; refine (HC.out _).mono ?_; rintro e w3 ⟨rfl, ht3⟩; have HT3 := Lib.hid ht3; clear ht3))
    have HT4 := Lib.hid (HT1.out.trans HT3.out (by simp))
    have HP4 := Lib.hid (HP1.out.pre HT3.out)
    have HC4 : Hid (w3.cell? ⟨bx + 1, 0, none⟩ = some (.string ⟨#[]⟩) ∧ w3.cell? ⟨bx + 1, 1, none⟩ = some (.int .i64 0) ∧ w3.cell? ⟨bx + 1, 2, none⟩ = some (.int .i64 0) ∧ w3.cell? ⟨bx + 1, 3, none⟩ = some (.bool false) ∧ ∀ j, w3.frozen? ⟨bx + 1, j, none⟩ = false) := Lib.hid (by
      have h := HB2.out w3 HT4.out
      refine ⟨?_, ?_, ?_, ?_, ?_⟩
      all_goals first | (simp [World.cell?, h]; done) | (intro j; simp [World.frozen?, h]))
    clear k0 k1 k2 k6
    obtain ⟨k0, k1, k2, k6⟩ := HB1.out w3 HT4.out
    obtain ⟨r0, r1, r2, r3, rf⟩ := HC4.out
    go_wp2_with fail
    have s1 := heap_setCell_same _ (bx + 1) 3 _ _ (.bool false) (heap_setCell_same _ (bx + 1) 2 _ _ (.int .i64 gi) (heap_setCell_same _ (bx + 1) 1 _ _ (.int .i64 x.s.tm) (heap_setCell_same w3 (bx + 1) 0 _ _ (.string x.s.name) (HB2.out w3 HT4.out))))
    have st : Turns [bx + 1] w3 ((((w3.setCell ⟨bx + 1, 0, none⟩ (.string x.s.name)).setCell ⟨bx + 1, 1, none⟩ (.int .i64 x.s.tm)).setCell ⟨bx + 1, 2, none⟩ (.int .i64 gi)).setCell ⟨bx + 1, 3, none⟩ (.bool false)) := ((((Turns.setCell (F := [bx + 1]) w3 _ _ (by simp)).then (Turns.setCell _ _ _ (by simp))).then (Turns.setCell _ _ _ (by simp))).then (Turns.setCell _ _ _ (by simp)))
    refine bodyPost_ret (results_cell_row (P := Try.prog) rfl _ _ (bx + 1) 54 #[.string x.s.name, .int .i64 x.s.tm, .int .i64 gi, .bool false] (0, 0) _ rfl s1 gain_struct rfl (by kernel_rfl)) rfl ?_
    have hbx := HBX.out
    exact ⟨by rw [HGS.out]; rfl, (st.block p (lt_of_block HP4.out) (by simp; omega)).trans HP4.out, ((HT0.out.mono (by simp)).then HT4.out).trans st fun i hi => .inr (by rw [List.mem_singleton] at hi; omega)⟩
  | true =>
    generalize W0.setCell ⟨p, 7, none⟩ (.int .i64 ((T.g : Int) + 1)) = W1 at HP1 HT1 ⊢
    clear k0 k1 k2 k6 q7 q8 qf
    obtain ⟨-, -, -, -, -, q7, q8, qf⟩ := HP1.out.cells
    have hr1 : ((T.gain false).r : Int) ≤ 2000000 := by simpa [Tl.gain] using hr0
    go_upto_region 5 with fail
    have HP2 := Lib.hid (HP1.out.set (T.gain true) 6 (((T.gain false).r : Int) + 1) (by simp [Tl.cells, Tl.gain]))
    have HT2 := Lib.hid (HT1.out.then (Turns.setCell (F := [p]) W1 ⟨p, 6 + 2, none⟩ (.int .i64 (((T.gain false).r : Int) + 1)) (by simp)))
    simp only [Nat.reduceAdd] at HP2 HT2
    generalize W1.setCell ⟨p, 8, none⟩ (.int .i64 (((T.gain false).r : Int) + 1)) = W2 at HP2 HT2 ⊢
    clear q7 q8 qf
    obtain ⟨k0, k1, k2, k6⟩ := HB1.out _ HT2.out
    go_upto_region 6 with ((go_at_call 40; refine (HC.out _).mono ?_; rintro e w3 ⟨rfl, ht3⟩; have HT3 := Lib.hid ht3; clear ht3))
    have HT4 := Lib.hid (HT2.out.trans HT3.out (by simp))
    have HP4 := Lib.hid (HP2.out.pre HT3.out)
    have HC4 : Hid (w3.cell? ⟨bx + 1, 0, none⟩ = some (.string ⟨#[]⟩) ∧ w3.cell? ⟨bx + 1, 1, none⟩ = some (.int .i64 0) ∧ w3.cell? ⟨bx + 1, 2, none⟩ = some (.int .i64 0) ∧ w3.cell? ⟨bx + 1, 3, none⟩ = some (.bool false) ∧ ∀ j, w3.frozen? ⟨bx + 1, j, none⟩ = false) := Lib.hid (by
      have h := HB2.out w3 HT4.out
      refine ⟨?_, ?_, ?_, ?_, ?_⟩
      all_goals first | (simp [World.cell?, h]; done) | (intro j; simp [World.frozen?, h]))
    clear k0 k1 k2 k6
    obtain ⟨k0, k1, k2, k6⟩ := HB1.out w3 HT4.out
    obtain ⟨r0, r1, r2, r3, rf⟩ := HC4.out
    go_wp2_with fail
    have s1 := heap_setCell_same _ (bx + 1) 3 _ _ (.bool true) (heap_setCell_same _ (bx + 1) 2 _ _ (.int .i64 gi) (heap_setCell_same _ (bx + 1) 1 _ _ (.int .i64 x.s.tm) (heap_setCell_same w3 (bx + 1) 0 _ _ (.string x.s.name) (HB2.out w3 HT4.out))))
    have st : Turns [bx + 1] w3 ((((w3.setCell ⟨bx + 1, 0, none⟩ (.string x.s.name)).setCell ⟨bx + 1, 1, none⟩ (.int .i64 x.s.tm)).setCell ⟨bx + 1, 2, none⟩ (.int .i64 gi)).setCell ⟨bx + 1, 3, none⟩ (.bool true)) := ((((Turns.setCell (F := [bx + 1]) w3 _ _ (by simp)).then (Turns.setCell _ _ _ (by simp))).then (Turns.setCell _ _ _ (by simp))).then (Turns.setCell _ _ _ (by simp)))
    refine bodyPost_ret (results_cell_row (P := Try.prog) rfl _ _ (bx + 1) 54 #[.string x.s.name, .int .i64 x.s.tm, .int .i64 gi, .bool true] (0, 0) _ rfl s1 gain_struct rfl (by kernel_rfl)) rfl ?_
    have hbx := HBX.out
    exact ⟨by rw [HGS.out]; rfl, (st.block p (lt_of_block HP4.out) (by simp; omega)).trans HP4.out, ((HT0.out.mono (by simp)).then HT4.out).trans st fun i hi => .inr (by rw [List.mem_singleton] at hi; omega)⟩
end Go.Proofs.Ytcjmieofmogeiaa
