/- The program's take, walked. -/
import Derived.Test.YtaepgcicgmbbeaaWhTakeL
namespace Go.Proofs.Ytaepgcicgmbbeaa
open Go.RowKit

set_option maxRecDepth 100000 in
set_option maxHeartbeats 4000000 in
theorem take_laid {B : Nat} {w : World} {bw : Nat} {T : Int} {L L' : List Fi} {F : List Nat} {bs bp : Nat} {S : Sl} {P : Pc} (h : WhAt B w bw T L F) (h3 : Laid B w bw T L F bs bp S P) (hd : Ids L) {x : Fi} (hp : L.Perm (x :: L')) (w1 : -9223372036854775808 ≤ x.1 ∧ x.1 ≤ 9223372036854775807) (w2 : -9223372036854775808 ≤ x.2 ∧ x.2 ≤ 9223372036854775807) (hwf : ∀ y ∈ L, -9223372036854775808 ≤ y.1 ∧ y.1 ≤ 9223372036854775807) (hL : L.length ≤ 1000) :
    Calls Try.prog 28 #[.pointer (some ⟨bw, 0, none⟩), .int .i64 x.1] w (TakeP B w bw T L' F) := by
  have hxL : x ∈ L := hp.symm.subset (List.mem_cons_self ..)
  obtain ⟨v, l, i, e1, e2, e3⟩ := h3.found hxL
  obtain ⟨g, cap, rfl, hg0, hg2, hc1, hc2, gF, gw, gs, gp, hcell, hfz⟩ := h3.form e1
  have hil : i < l.length := (List.getElem?_eq_some_iff.1 e2).1
  obtain ⟨y, hy⟩ : ∃ y, l[l.length - 1]? = some y := ⟨_, List.getElem?_eq_getElem (by omega)⟩
  have hyL : y ∈ L := ((h3.mem e1 y).1 (List.mem_of_getElem? hy)).1
  obtain ⟨_, c1, c2, _⟩ := h3.cells
  have hbw := h.cells.2.2
  have hlp := h3.places.lookup keyI Try.underlying3 Try.underlying48 aread_inj (zeroP w) (aread_mk 0 0) (wfI w1)
  rw [e3] at hlp
  simp only [Option.map_some, Option.getD_some, placeV] at hlp
  obtain ⟨W1, hW1⟩ : ∃ W1, W1 = w.alloc (.cells #[.int .i64 (part x.2), .int .i64 (i : Int)] 62) := ⟨_, rfl⟩
  have HT1 : Turns [] w W1 := by rw [hW1]; exact Turns.alloc _ _
  have b1 := (HT1.cell hbw (by simp) 1).trans c1
  have b2 := (HT1.cell hbw (by simp) 2).trans c2
  have px : w.heap.size < W1.heap.size := by rw [hW1]; simp
  have p0 : W1.cell? ⟨w.heap.size, 0, none⟩ = some (.int .i64 (part x.2)) := by rw [hW1]; simp
  have p1 : W1.cell? ⟨w.heap.size, 1, none⟩ = some (.int .i64 (i : Int)) := by rw [hW1]; simp
  have HPT := Lib.hid (part_wf w2)
  have HLS := Lib.hid (fun W (ht : Turns [] w W) => by
    obtain ⟨n, hs⟩ := h3.slots
    have := (hs.turns ht (by simp)).lookup keyL Try.underlying2 Try.underlying47 sread_inj (zeroS W) (zd := .agg [.lit (.int .i64 0), .lit (.int .i64 0)]) (zp := []) rfl (wfI HPT.out)
    rw [e1] at this
    exact this)
  have k1 := HLS.out W1 HT1
  have kq := fun q => HLS.out (W1.drewN q) (HT1.drewN q)
  simp only [Option.map_some, Option.getD_some] at k1 kq
  obtain ⟨m, hm⟩ : ∃ m, m = l.length - 1 := ⟨_, rfl⟩
  have hll := h3.len_le e1
  have hwr : wrap64 ((l.length : Int) - 1) = (m : Int) := by simp [wrap64]; omega
  have hm1 : (m : Int) < (l.length : Int) := by omega
  have hm0 : (0 : Int) ≤ (m : Int) := by omega
  have hi1 : (i : Int) < (l.length : Int) := by omega
  have hi0 : (0 : Int) ≤ (i : Int) := by omega
  rw [← hm] at hy
  have HM := Lib.hid hm
  clear hm hll
  have H := Lib.hid h
  have H3 := Lib.hid h3
  have HD := Lib.hid hd
  have HP := Lib.hid hp
  have HW1 := Lib.hid w1
  have HWY := Lib.hid (hwf y hyL)
  have HL := Lib.hid hL
  have E1 := Lib.hid e1
  have E2 := Lib.hid e2
  have HY := Lib.hid hy
  have HIL := Lib.hid hil
  have HG := Lib.hid (And.intro hg0 (And.intro hg2 (And.intro hc1 (And.intro hc2 (And.intro gF (And.intro gw (And.intro gs gp)))))))
  have HCL := Lib.hid hcell
  have HFZ := Lib.hid hfz
  have HTT := Lib.hid HT1
  have HW := Lib.hid hW1
  clear h h3 hd hp w1 w2 hwf hL hxL e1 e2 e3 hg0 hc1 hc2 gF gw gs gp hcell hfz hil hy hyL HT1 HLS hg2
  go_enter Try.func28, Try.ntmps28
  go_wp2
  rw [← hW1]
  clear hW1 hlp c1 c2
  go_quiet (fail)
  go_wp2
  obtain ⟨W2, hW2⟩ : ∃ W2, W2 = W1.drewN nq := ⟨_, rfl⟩
  have HT2 : Turns [] w W2 := by rw [hW2]; exact HTT.out.drewN nq
  have d1 : W2.cell? ⟨bw, 1, none⟩ = some (.map (some bs)) := by rw [hW2]; exact b1
  have d2 : W2.cell? ⟨bw, 2, none⟩ = some (.map (some bp)) := by rw [hW2]; exact b2
  have q0 : W2.cell? ⟨w.heap.size, 0, none⟩ = some (.int .i64 (part x.2)) := by rw [hW2]; exact p0
  have q1 : W2.cell? ⟨w.heap.size, 1, none⟩ = some (.int .i64 (i : Int)) := by rw [hW2]; exact p1
  have q2 : w.heap.size < W2.heap.size := by rw [hW2]; exact px
  rw [← hW2]
  clear hW2 b1 b2 p0 p1 px k1 kq
  have g1 := (HT2.cell HG.out.2.1 (by simp) (m * 2)).trans (HCL.out m y HY.out).1
  have g2 := (HT2.cell HG.out.2.1 (by simp) (m * 2 + 1)).trans (HCL.out m y HY.out).2
  have g3 := (HT2.cell HG.out.2.1 (by simp) (i * 2)).trans (HCL.out i x E2.out).1
  have g4 := (HT2.cell HG.out.2.1 (by simp) (i * 2 + 1)).trans (HCL.out i x E2.out).2
  have g5 := (HT2.frozen HG.out.2.1 (by simp) (i * 2)).trans (HFZ.out _)
  have g6 := (HT2.frozen HG.out.2.1 (by simp) (i * 2 + 1)).trans (HFZ.out _)
  have HTW := Lib.hid HT2
  clear HT2
  go_region
  obtain ⟨W3, hW3⟩ : ∃ W3, W3 = ((W2.setCell ⟨g, i * 2, none⟩ (.int .i64 y.1)).setCell ⟨g, i * 2 + 1, none⟩ (.int .i64 y.2)).drew := ⟨_, rfl⟩
  have T3 : Turns [g] W2 W3 := by rw [hW3]; exact (((Turns.setCell (F := [g]) W2 ⟨g, i * 2, none⟩ (.int .i64 y.1) (by simp)).then (Turns.setCell (F := [g]) _ ⟨g, i * 2 + 1, none⟩ (.int .i64 y.2) (by simp)))).drew
  have O3 : fK.Own B W3 (.slice (some ⟨g, 0, none⟩) l.length cap) (l.set i y) := by
    have h1 := own_set ((H3.out.own _ _ _ E1.out).1.turns HTW.out (by simp)) i y
    rw [hW3]
    exact h1.drew
  rw [← hW3]
  clear hW3
  have hgw : bw ∉ [g] := by simpa using fun e : bw = g => HG.out.2.2.2.2.2.1 e.symm
  have hgx : w.heap.size ∉ [g] := by have := HG.out.2.1; simp; omega
  have hb2 : bw < W2.heap.size := Nat.lt_of_lt_of_le hbw HTW.out.size
  have r1 := (T3.cell hb2 hgw 1).trans d1
  have r2 := (T3.cell hb2 hgw 2).trans d2
  have r3 := (T3.cell q2 hgx 0).trans q0
  have r4 := (T3.cell q2 hgx 1).trans q1
  have r5 : W3.cell? ⟨g, i * 2, none⟩ = some (.int .i64 y.1) := by
    have h1 := World.ownsRow.cells O3 (g := g) rfl _ _ (fK_flat_at (show (l.set i y)[i]? = some y by rw [List.getElem?_set_self HIL.out])).1
    rwa [add_plain', Nat.zero_add] at h1
  have hd3 : bs ≠ bp ∧ bw ≠ bp ∧ bw ≠ bs := ⟨H3.out.heads.2.2.1, H3.out.heads.2.1, H3.out.heads.1⟩
  have hbpx : w.heap.size ≠ bp ∧ w.heap.size ≠ bs := ⟨fun e => by have := (H.out.1 bp H3.out.heads.2.2.2.2.2).2; omega, fun e => by have := (H.out.1 bs H3.out.heads.2.2.2.2.1).2; omega⟩
  obtain ⟨w4, hrun4, M4, T4'⟩ := (((H3.out.places.turns HTW.out (by simp)).turns T3 (by simpa using fun e : bp = g => HG.out.2.2.2.2.2.2.2 e.symm)).turns ((Turns.refl [] W3).drew) (by simp)).store keyI Try.underlying3 Try.underlying48 (show L.length < maxLen by unfold maxLen; have := HL.out; omega) (wfI HWY.out) (v := placeV (part x.2, i)) (aread_mk _ _)
  have T4 : Turns [bp] W3 w4 := ((Turns.refl [bp] W3).drew).then T4'
  simp only [placeV] at hrun4
  have hlen := HP.out.length_eq
  have hyL : y ∈ L := ((H3.out.mem E1.out y).1 (List.mem_of_getElem? HY.out)).1
  have hxL : x ∈ L := HP.out.symm.subset (List.mem_cons_self ..)
  have hPy : (P y.1).isSome = true := by obtain ⟨_, _, _, _, _, e⟩ := H3.out.found hyL; rw [e]; rfl
  have hPx : (P x.1).isSome = true := by obtain ⟨_, _, _, _, _, e⟩ := H3.out.found hxL; rw [e]; rfl
  have hS4 : (if ((P y.1).map placeV).isSome then L.length else L.length + 1) = L.length := by rw [Option.isSome_map, hPy]; rfl
  rw [hS4] at M4
  obtain ⟨w5, hrun5, M5', T5⟩ := M4.drop keyI Try.underlying3 Try.underlying48 (wfI HW1.out) 0
  have hS5 : (if ((fun z => if z = y.1 then some (placeV (part x.2, i)) else (P z).map placeV) x.1).isSome then L.length - 1 else L.length) = L'.length := by
    have : ((fun z => if z = y.1 then some (placeV (part x.2, i)) else (P z).map placeV) x.1).isSome = true := by
      show (if x.1 = y.1 then some (placeV (part x.2, i)) else (P x.1).map placeV).isSome = true
      split
      · rfl
      · rw [Option.isSome_map]; exact hPx
    rw [if_pos this, hlen]
    rfl
  rw [hS5] at M5'
  have hb3 : bw < W3.heap.size := Nat.lt_of_lt_of_le hb2 T3.size
  have hx3 : w.heap.size < W3.heap.size := Nat.lt_of_lt_of_le q2 T3.size
  have T45 : Turns [bp] W3 w5 := T4.then T5
  have s0 := (T4.cell hb3 (by simpa using hd3.2.1) 2).trans r2
  have s1 := (T45.cell hb3 (by simpa using hd3.2.1) 1).trans r1
  have s2 := (T45.cell hx3 (by simpa using hbpx.1) 0).trans r3
  obtain ⟨n, MS, hn⟩ := H3.out.slotsN
  have MS5 := ((MS.turns HTW.out (by simp)).turns T3 (by simpa using fun e : bs = g => HG.out.2.2.2.2.2.2.1 e.symm)).turns T45 (by simpa using hd3.1)
  have HQ := Lib.hid (And.intro HTW.out (And.intro O3 (And.intro T3 (And.intro T4 (And.intro T5 M5')))))
  have HG2 := Lib.hid (And.intro HG.out.2.2.2.2.2.2.1 HG.out.2.2.2.2.2.2.2)
  have hmc : (m : Int) ≤ (cap : Int) := by have := HG.out.2.2.1; have := HM.out; omega
  have hmn : ¬ cap < m := by omega
  clear hgw hgx hb2 T3 O3 HTW T4 T4' T45 M5' M4 hS4 hS5 hPy hPx hyL hxL hlen d1 d2 q0 q1 q2 g1 g2 g3 g4 g5 g6 hd3 hbpx MS hb3 hx3
  by_cases hm00 : m = 0
  · obtain ⟨w6, hrun6, M6, T6'⟩ := (MS5.turns ((Turns.refl [] w5).drew) (by simp)).drop keyL Try.underlying2 Try.underlying47 (wfI HPT.out) 0
    have T6 : Turns [bs] w5 w6 := ((Turns.refl [bs] w5).drew).then T6'
    have HE := Lib.hid (take_end H.out H3.out HD.out HP.out E1.out E2.out HY.out HM.out HG2.out ⟨HQ.out.1, HQ.out.2.1, HQ.out.2.2.1, HQ.out.2.2.2.1, HQ.out.2.2.2.2.1, HQ.out.2.2.2.2.2, T6, _, by rw [if_pos hm00]; exact M6⟩)
    have hmz : ((m : Int) == 0) = true := by rw [hm00]; rfl
    clear hm00 M6 T6' T6 MS5 T5
    go_wp2
    go_region
    go_wp2
    go_region
    go_wp2
    exact bodyPost_end (v := .tuple #[]) (by simp [results, Try.f28, go_sem]) rfl HE.out
  · obtain ⟨w6, hrun6, M6, T6'⟩ := (MS5.turns ((Turns.refl [] w5).drew) (by simp)).store keyL Try.underlying2 Try.underlying47 (show n < maxLen by unfold maxLen; have := HL.out; omega) (wfI HPT.out) (v := .slice (some ⟨g, 0, none⟩) m cap) rfl
    have T6 : Turns [bs] w5 w6 := ((Turns.refl [bs] w5).drew).then T6'
    have HE := Lib.hid (take_end H.out H3.out HD.out HP.out E1.out E2.out HY.out HM.out HG2.out ⟨HQ.out.1, HQ.out.2.1, HQ.out.2.2.1, HQ.out.2.2.2.1, HQ.out.2.2.2.2.1, HQ.out.2.2.2.2.2, T6, _, by rw [if_neg hm00]; exact M6⟩)
    have hmz : ((m : Int) == 0) = false := by simpa using hm00
    clear hm00 M6 T6' T6 MS5 T5
    go_wp2
    go_region
    go_wp2
    go_region
    go_wp2
    exact bodyPost_end (v := .tuple #[]) (by simp [results, Try.f28, go_sem]) rfl HE.out
end Go.Proofs.Ytaepgcicgmbbeaa
