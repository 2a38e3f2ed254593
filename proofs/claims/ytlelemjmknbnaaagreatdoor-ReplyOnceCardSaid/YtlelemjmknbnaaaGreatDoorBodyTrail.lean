/- A byte of what stands behind the last size line. -/
import Derived.Test.YtlelemjmknbnaaaGreatDoorBodySizeL
namespace Go.Proofs.YtlelemjmknbnaaaGreatDoor
open Go.RowKit

set_option maxRecDepth 100000 in
set_option maxHeartbeats 8000000 in
theorem trailer_any {B : Nat} {w : World} {p : Nat} {d : Dc} {lv bv nv : Value} {K : List Nat} (h : DecR B w p d lv bv nv) (c : UInt8) (hl : d.line.length ≤ 500000) (hm : GX w) (hB : 1 < B) (hr : d.trail ≤ 1000000) :
    Calls Tryz.prog 49 #[.pointer (some ⟨p, 0, none⟩), .int .u8 (c.toNat : Int)] w (StP B w p lv bv K (d.trail1 c)) := by
  have HD := Lib.hid h
  have hBs : B ≤ (w.alloc (.cells #[.int .u8 (c.toNat : Int)] 5)).heap.size := Nat.le_trans (Nat.le_of_lt (Nat.lt_of_le_of_lt h.low h.lt)) (by simp)
  have HBS := Lib.hid hBs
  have HLE := Lib.hid (show d.line.length + [c].length ≤ 1000000 by simp; omega)
  obtain ⟨-, -, -, -, c4, -, -, -, hf⟩ := h.cells
  have f4 := hf 4
  have HGX := Lib.hid hm
  have HLF := Lib.hid (fun g (hg : g ∈ foot p lv bv) => Nat.lt_of_lt_of_le hB (h.ltF g hg).1)
  have HLL := Lib.hid (show (d.line ++ [c]).length ≤ 500001 by simp; omega)
  have HS1 : Hid (d.trail1 c = if 8192 < d.trail + 1 then { d with line := d.line ++ [c], trail := d.trail + 1 }.fail 12
    else if c ≠ 10 then { d with line := d.line ++ [c], trail := d.trail + 1, nx := .trailer }
    else if d.line ++ [c] = tEnd then { d with line := [], trail := d.trail + 1, nx := .none }
    else if trailL (d.line ++ [c]) = true then { d with line := [], trail := d.trail + 1, nx := .trailer }
    else { d with line := [], trail := d.trail + 1 }.fail 12) := Lib.hid rfl
  generalize d.trail1 c = dq at HS1 ⊢
  clear hBs hf hm h
  go_enter Tryz.func49, Tryz.ntmps49
  go_upto_region 2 with (at_builtin; refine wpList_append_bytesT rfl (.tmp 10) (.tmp 12) rfl B lv d.line rfl (HD.out.line.alloc _) (w.heap.size + 1) (some ⟨w.heap.size, 0, none⟩) [c] 1 rfl (breads_one w _ c _ rfl) (fun h => by cases h) HLE.out HBS.out ?_; intro v1 w2 hown2 ht2 hl2; obtain ⟨m4, n4⟩ := HD.out.cell4 (Turns.alloc (F := []) w _) ht2; have HG := Lib.hid (HD.out.grownLine (Turns.alloc (F := []) w _) hown2 ht2 hl2); obtain ⟨A1, cap1, rfl, -⟩ := hown2.reads; obtain ⟨n, hn⟩ : ∃ n, n = (d.line ++ [c]).length := ⟨_, rfl⟩; rw [← hn] at HG ⊢; have HN0 := Lib.hid hn; clear hown2 ht2 hl2 hn)
  obtain ⟨hd3, ht3, hf3⟩ := HG.out
  clear m4 n4 HG c4 f4
  generalize w2.setCell ⟨p, 4, none⟩ (.slice A1 n cap1) = w3 at hd3 ht3 ⊢
  have HT2 := Lib.hid ht3
  have HF3 := Lib.hid hf3
  obtain ⟨l, hll⟩ : ∃ l, l = d.line ++ [c] := ⟨_, rfl⟩
  rw [← hll] at HS1 HLL HN0 hd3
  have HD2 := Lib.hid hd3
  have hlz := HLL.out
  obtain ⟨-, -, -, -, -, c5, -, -, cf⟩ := hd3.cells
  change w3.cell? ⟨p, 5, none⟩ = some (.int .i64 (d.trail : Int)) at c5
  have f5 := cf 5
  have k5 : IntKind.i64.wrap ((d.trail : Int) + 1) = (d.trail : Int) + 1 := by rw [IntKind.wrap_i64]; omega
  have HTS : Hid (Turns [p] w3 (w3.setCell ⟨p, 5, none⟩ (.int .i64 ((d.trail : Int) + 1)))) := Lib.hid (Turns.setCell w3 ⟨p, 5, none⟩ _ (List.mem_singleton.2 rfl))
  have HDS : Hid (DecR B (w3.setCell ⟨p, 5, none⟩ (.int .i64 ((d.trail : Int) + 1))) p { d with line := l, trail := d.trail + 1 } (.slice A1 n cap1) bv nv) := Lib.hid (HD2.out.set HTS.out (heap_setCell_same _ p 5 _ _ _ HD2.out.head) rfl rfl)
  clear hd3 ht3 hf3 hll HBS HLE hl cf HD
  go_upto_region 3 with fail
  have HT3 := Lib.hid (HT2.out.trans HTS.out (fun i hi => .inl (foot_p (lv := lv) (bv := bv) i hi)))
  generalize w3.setCell ⟨p, 5, none⟩ (.int .i64 ((d.trail : Int) + 1)) = w3b at HDS HT3 ⊢
  obtain ⟨-, -, -, -, -, c5, -, -, -⟩ := HDS.out.cells
  change w3b.cell? ⟨p, 5, none⟩ = some (.int .i64 ((d.trail : Int) + 1)) at c5
  have HFN : Hid (∀ g ∈ foot p (.slice none 0 0) bv, g ∈ foot p lv bv ∨ w.heap.size ≤ g) := Lib.hid (fun g hg => .inl (foot_nil g hg))
  clear k5 f5 HTS HT2 HD2
  by_cases h8 : 8192 < d.trail + 1
  · have HE := Lib.hid (show dq = { d with line := l, trail := d.trail + 1 }.fail 12 by rw [HS1.out, if_pos h8])
    have HF := Lib.hid (fail_any HDS.out 12)
    change Hid (Calls _ _ #[_, .int .i64 12] _ _) at HF
    have g8 : (8192 : Int) < (d.trail : Int) + 1 := by omega
    clear HS1
    go_wp2_with fail
    refine (Hid.out HF).mono ?_
    rintro e w6 ⟨rfl, hd6, ht6⟩
    have HD6 := Lib.hid hd6
    have HT6 := Lib.hid (HT3.out.trans ht6 (fun i hi => .inl (foot_p (lv := lv) (bv := bv) i hi)))
    clear hd6 ht6
    go_wp2
    go_ret
    exact StP.mk' (v := .nilFunc) (K' := []) (HE.out ▸ HD6.out) (by rw [HE.out]; exact ⟨rfl, rfl⟩) HT6.out HFN.out (by simp) (by simp) rfl
  · have g8 : decide ((8192 : Int) < (d.trail : Int) + 1) = false := by simp; omega
    by_cases hc : c ≠ 10
    · have g1 : ((c.toNat : Int) != 10) = true := by
        simp
        intro e
        exact hc (UInt8.toNat_inj.1 (show c.toNat = 10 by omega))
      have HE := Lib.hid (show dq = { d with line := l, trail := d.trail + 1, nx := .trailer } by rw [HS1.out, if_neg h8, if_pos hc])
      clear HS1 hc
      go_wp2
      go_ret
      exact StP.mk' (v := fnS 49) (K' := []) (HE.out ▸ HDS.out.nxAny .trailer) (by rw [HE.out]; exact ⟨rfl, rfl⟩) HT3.out HF3.out (by simp) (by simp) rfl
    · obtain rfl : c = 10 := Classical.byContradiction hc
      have HEN := Lib.hid (ended_any HDS.out)
      change Hid (Calls _ _ _ _ fun en w' => en = .returned (.string ⟨l.toArray⟩) ∧ _) at HEN
      have HIT : Hid (∀ W, GX W → Calls Tryz.prog 61 #[.string ⟨l.toArray⟩] W fun e w' => e = .returned (.bool (trailL l)) ∧ ∃ n, w' = W.drewN n) := Lib.hid (fun W hg => isTrailer_any ⟨l.toArray⟩ W (by rw [Lib.size_eq]; show l.length ≤ _; omega) hg.1)
      show Code.wp _ _ _ _ _
      by_cases ht : l = tEnd
      · have HE := Lib.hid (show dq = { d with line := [], trail := d.trail + 1, nx := .none } by rw [HS1.out, if_neg h8, if_neg hc, if_pos ht])
        rw [ht] at HEN
        clear HS1 hc ht
        change Hid (Calls _ _ _ _ fun en w' => en = .returned (.string ⟨#[13, 10]⟩) ∧ _) at HEN
        go_wp2_with fail
        refine (Hid.out HEN).mono ?_
        rintro e w4 ⟨rfl, hd4, ht4⟩
        have HD4 := Lib.hid hd4
        have HT4 := Lib.hid (HT3.out.trans ht4 (fun i hi => .inl (foot_p (lv := lv) (bv := bv) i hi)))
        clear hd4 ht4 HEN c5 HDS
        go_wp2
        go_ret
        exact StP.mk' (v := .nilFunc) (K' := []) (HE.out ▸ HD4.out.nxAny .none) (by rw [HE.out]; exact ⟨rfl, rfl⟩) HT4.out HFN.out (by simp) (by simp) rfl
      · have ht' : ¬ l = [13, 10] := ht
        have bq2 : (l == [13, 10]) = false := by simpa using ht'
        clear ht'
        cases hx : trailL l with
        | true =>
          have HE := Lib.hid (show dq = { d with line := [], trail := d.trail + 1, nx := .trailer } by rw [HS1.out, if_neg h8, if_neg hc, if_neg ht, if_pos hx])
          rw [hx] at HIT
          clear HS1 hc ht hx
          go_wp2_with fail
          refine (Hid.out HEN).mono ?_
          rintro e w4 ⟨rfl, hd4, ht4⟩
          have HD4 := Lib.hid hd4
          have HT4 := Lib.hid (HT3.out.trans ht4 (fun i hi => .inl (foot_p (lv := lv) (bv := bv) i hi)))
          clear hd4 ht4 HEN c5 HDS
          go_wp2_with fail
          refine (HIT.out w4 (HGX.out.turns HT4.out HLF.out)).mono ?_
          rintro e w5 ⟨rfl, nq, rfl⟩
          have HD5 := Lib.hid (HD4.out.below (below_drewN w4 nq))
          have HT5 := Lib.hid (HT4.out.trans (Turns.of_below (below_drewN w4 nq) (Nat.le_refl _)) (by simp))
          go_wp2
          go_ret
          exact StP.mk' (v := fnS 49) (K' := []) (HE.out ▸ HD5.out.nxAny .trailer) (by rw [HE.out]; exact ⟨rfl, rfl⟩) HT5.out HFN.out (by simp) (by simp) rfl
        | false =>
          have HE := Lib.hid (show dq = { d with line := [], trail := d.trail + 1 }.fail 12 by rw [HS1.out, if_neg h8, if_neg hc, if_neg ht, if_neg (by rw [hx]; decide)])
          rw [hx] at HIT
          clear HS1 hc ht hx
          go_wp2_with fail
          refine (Hid.out HEN).mono ?_
          rintro e w4 ⟨rfl, hd4, ht4⟩
          have HD4 := Lib.hid hd4
          have HT4 := Lib.hid (HT3.out.trans ht4 (fun i hi => .inl (foot_p (lv := lv) (bv := bv) i hi)))
          clear hd4 ht4 HEN c5 HDS
          go_wp2_with fail
          refine (HIT.out w4 (HGX.out.turns HT4.out HLF.out)).mono ?_
          rintro e w5 ⟨rfl, nq, rfl⟩
          have HD5 := Lib.hid (HD4.out.below (below_drewN w4 nq))
          have HT5 := Lib.hid (HT4.out.trans (Turns.of_below (below_drewN w4 nq) (Nat.le_refl _)) (by simp))
          have HF := Lib.hid (fail_any HD5.out 12)
          change Hid (Calls _ _ #[_, .int .i64 12] _ _) at HF
          go_wp2_with fail
          refine (Hid.out HF).mono ?_
          rintro e w6 ⟨rfl, hd6, ht6⟩
          have HD6 := Lib.hid hd6
          have HT6 := Lib.hid (HT5.out.trans ht6 (fun i hi => .inl (foot_p (lv := lv) (bv := bv) i hi)))
          clear hd6 ht6
          go_wp2
          go_ret
          exact StP.mk' (v := .nilFunc) (K' := []) (HE.out ▸ HD6.out) (by rw [HE.out]; exact ⟨rfl, rfl⟩) HT6.out HFN.out (by simp) (by simp) rfl
end Go.Proofs.YtlelemjmknbnaaaGreatDoor
