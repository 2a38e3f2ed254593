/- The chapter's rows of answers. -/
import Derived.Test.YtlelemjmknbnaaaGreatDoorReplyLaw
namespace Go.Proofs.YtlelemjmknbnaaaGreatDoor
open Go.RowKit

def FinR (w : World) (e : Ending) (w' : World) : Prop := e = .returned (.bool true) ∧ Below w.heap.size w w'
def kR0 : List UInt8 := [72, 84, 84, 80, 47, 49, 46, 49, 32, 50, 48, 48, 32, 79, 75, 13, 10, 67, 111, 110, 116, 101, 110, 116, 45, 76, 101, 110, 103, 116, 104, 58, 32, 50, 13, 10, 13, 10, 97, 98]
def kR1 : List UInt8 := [72, 84, 84, 80, 47, 49, 46, 49, 32, 52, 48, 52, 32, 78, 111, 13, 10, 32, 13, 10]
def kR2 : List UInt8 := [72, 84, 84, 80, 47, 49, 46, 49, 32, 52, 48, 52, 32, 78, 111, 13, 10, 13, 10]
theorem kR0_is : (Rp.made 9).push kR0 = ⟨[], ⟨200, 2, false, false⟩, true, some ⟨0, .none, false, 0, [], 0, [97, 98], 0⟩, 0, 9, 0, false⟩ := by rfl
theorem kR1_is : (Rp.made 9).push kR1 = ⟨[], hd0, false, none, 10, 9, 0, false⟩ := by rfl
theorem kR2_is : (Rp.made 9).push kR2 = ⟨[], ⟨404, -1, false, true⟩, true, none, 14, 9, 0, false⟩ := by rfl
/-- A text's bytes, pushed into a new reader. -/
theorem push_text (W : World) (B q : Nat) (F : List Nat) (s : ByteArray) (hs : s.size ≤ 1000) (h : Rdr B W q (Rp.made 9) 9 F) (hF : ∀ g ∈ F, g < W.heap.size) (hm : GX W) (hB : 1 < B) :
    ∃ cap w1, (convert 9 22 (.string s)).run Tryz.prog W = .ok (.slice (some ⟨W.heap.size, 0, none⟩) s.size cap) w1 ∧ Calls Tryz.prog 7 #[.pointer (some ⟨q, 0, none⟩), .slice (some ⟨W.heap.size, 0, none⟩) s.size cap] w1 fun e w' => (∃ v, e = .returned v) ∧ ∃ F', Rdr B w' q ((Rp.made 9).push s.data.toList) 9 F' ∧ Below B w1 w' ∧ Below W.heap.size W w1 := by
  obtain ⟨cap, w1, hcv, hmu, hb, hc, -⟩ := conv_mut W s (by unfold maxLen; omega)
  refine ⟨cap, w1, hcv, ?_⟩
  have hl : s.data.toList.length = s.size := (Lib.size_eq s).symm
  have h1 : Rdr B w1 q (Rp.made 9) 9 F := by
    obtain ⟨av, dv, R, h2, rfl⟩ := h
    exact ⟨av, dv, R, h2.below hb, rfl⟩
  have hlow : ∀ g ∈ F, B ≤ g := by
    obtain ⟨av, dv, R, h2, rfl⟩ := h
    obtain ⟨-, rfl⟩ := (show BodyR B W none dv R from h2.body)
    exact h2.lowF
  have hB1 : B ≤ w1.heap.size := by
    obtain ⟨av, dv, R, h2, rfl⟩ := h1
    exact Nat.le_trans h2.low (Nat.le_of_lt h2.lt)
  have hp := push_rdr h1 (Got.made 9) (A := some ⟨W.heap.size, 0, none⟩) (c := cap) (l := s.data.toList) (by omega) (by decide) (.inr ⟨W.heap.size, 0, rfl, hmu.lt, fun j c hj => by rw [Nat.zero_add]; exact (hmu.cell j c hj).1⟩) (by omega) (fun h => by cases h) (fun _ a e hm => by cases e; exact Nat.lt_irrefl _ (hF _ hm)) (by simp; omega) (by decide) (by decide) (hm.grown hb) hB
  rw [hl] at hp
  refine hp.mono fun e w' hh => ?_
  obtain ⟨hv, F', h3, h4, h5⟩ := hh
  exact ⟨hv, F', h3, h4.below hlow hB1, hb⟩
set_option maxRecDepth 100000 in
set_option maxHeartbeats 4000000 in
theorem known8_yes (w : World) (hm : GX w) : Calls Tryz.prog 5 #[] w (FinR w) := by
  have hba := (below_alloc (B := w.heap.size) (w := w) (Nat.le_refl _) (.cells #[.string ⟨#[72, 84, 84, 80, 47, 49, 46, 49, 32, 50, 48, 48, 32, 79, 75, 13, 10, 67, 111, 110, 116, 101, 110, 116, 45, 76, 101, 110, 103, 116, 104, 58, 32, 50, 13, 10, 13, 10, 97, 98]⟩, .string ⟨#[72, 84, 84, 80, 47, 49, 46, 49, 32, 52, 48, 52, 32, 78, 111, 13, 10, 32, 13, 10]⟩, .string ⟨#[72, 84, 84, 80, 47, 49, 46, 49, 32, 52, 48, 52, 32, 78, 111, 13, 10, 13, 10]⟩] 9)).alloc (by simp) (.cells #[.int .i64 0, .int .i64 10, .int .i64 14] 29)
  have HGX : Hid (∀ W, Below w.heap.size w W → GX W) := Lib.hid (fun W hb => hm.grown hb)
  have HB1 := Lib.hid hm.lt
  have hs2 : ((w.alloc (.cells #[.string ⟨#[72, 84, 84, 80, 47, 49, 46, 49, 32, 50, 48, 48, 32, 79, 75, 13, 10, 67, 111, 110, 116, 101, 110, 116, 45, 76, 101, 110, 103, 116, 104, 58, 32, 50, 13, 10, 13, 10, 97, 98]⟩, .string ⟨#[72, 84, 84, 80, 47, 49, 46, 49, 32, 52, 48, 52, 32, 78, 111, 13, 10, 32, 13, 10]⟩, .string ⟨#[72, 84, 84, 80, 47, 49, 46, 49, 32, 52, 48, 52, 32, 78, 111, 13, 10, 13, 10]⟩] 9)).alloc (.cells #[.int .i64 0, .int .i64 10, .int .i64 14] 29)).heap.size = w.heap.size + 2 := by simp
  have a0 : ((w.alloc (.cells #[.string ⟨#[72, 84, 84, 80, 47, 49, 46, 49, 32, 50, 48, 48, 32, 79, 75, 13, 10, 67, 111, 110, 116, 101, 110, 116, 45, 76, 101, 110, 103, 116, 104, 58, 32, 50, 13, 10, 13, 10, 97, 98]⟩, .string ⟨#[72, 84, 84, 80, 47, 49, 46, 49, 32, 52, 48, 52, 32, 78, 111, 13, 10, 32, 13, 10]⟩, .string ⟨#[72, 84, 84, 80, 47, 49, 46, 49, 32, 52, 48, 52, 32, 78, 111, 13, 10, 13, 10]⟩] 9)).alloc (.cells #[.int .i64 0, .int .i64 10, .int .i64 14] 29)).cell? ⟨w.heap.size, 0, none⟩ = some (.string ⟨#[72, 84, 84, 80, 47, 49, 46, 49, 32, 50, 48, 48, 32, 79, 75, 13, 10, 67, 111, 110, 116, 101, 110, 116, 45, 76, 101, 110, 103, 116, 104, 58, 32, 50, 13, 10, 13, 10, 97, 98]⟩) := by simp
  have a1 : ((w.alloc (.cells #[.string ⟨#[72, 84, 84, 80, 47, 49, 46, 49, 32, 50, 48, 48, 32, 79, 75, 13, 10, 67, 111, 110, 116, 101, 110, 116, 45, 76, 101, 110, 103, 116, 104, 58, 32, 50, 13, 10, 13, 10, 97, 98]⟩, .string ⟨#[72, 84, 84, 80, 47, 49, 46, 49, 32, 52, 48, 52, 32, 78, 111, 13, 10, 32, 13, 10]⟩, .string ⟨#[72, 84, 84, 80, 47, 49, 46, 49, 32, 52, 48, 52, 32, 78, 111, 13, 10, 13, 10]⟩] 9)).alloc (.cells #[.int .i64 0, .int .i64 10, .int .i64 14] 29)).cell? ⟨w.heap.size, 1, none⟩ = some (.string ⟨#[72, 84, 84, 80, 47, 49, 46, 49, 32, 52, 48, 52, 32, 78, 111, 13, 10, 32, 13, 10]⟩) := by simp
  have a2 : ((w.alloc (.cells #[.string ⟨#[72, 84, 84, 80, 47, 49, 46, 49, 32, 50, 48, 48, 32, 79, 75, 13, 10, 67, 111, 110, 116, 101, 110, 116, 45, 76, 101, 110, 103, 116, 104, 58, 32, 50, 13, 10, 13, 10, 97, 98]⟩, .string ⟨#[72, 84, 84, 80, 47, 49, 46, 49, 32, 52, 48, 52, 32, 78, 111, 13, 10, 32, 13, 10]⟩, .string ⟨#[72, 84, 84, 80, 47, 49, 46, 49, 32, 52, 48, 52, 32, 78, 111, 13, 10, 13, 10]⟩] 9)).alloc (.cells #[.int .i64 0, .int .i64 10, .int .i64 14] 29)).cell? ⟨w.heap.size, 2, none⟩ = some (.string ⟨#[72, 84, 84, 80, 47, 49, 46, 49, 32, 52, 48, 52, 32, 78, 111, 13, 10, 13, 10]⟩) := by simp
  have he := heap_alloc_new (w.alloc (.cells #[.string ⟨#[72, 84, 84, 80, 47, 49, 46, 49, 32, 50, 48, 48, 32, 79, 75, 13, 10, 67, 111, 110, 116, 101, 110, 116, 45, 76, 101, 110, 103, 116, 104, 58, 32, 50, 13, 10, 13, 10, 97, 98]⟩, .string ⟨#[72, 84, 84, 80, 47, 49, 46, 49, 32, 52, 48, 52, 32, 78, 111, 13, 10, 32, 13, 10]⟩, .string ⟨#[72, 84, 84, 80, 47, 49, 46, 49, 32, 52, 48, 52, 32, 78, 111, 13, 10, 13, 10]⟩] 9)) (.cells #[.int .i64 0, .int .i64 10, .int .i64 14] 29)
  rw [show (w.alloc (.cells #[.string ⟨#[72, 84, 84, 80, 47, 49, 46, 49, 32, 50, 48, 48, 32, 79, 75, 13, 10, 67, 111, 110, 116, 101, 110, 116, 45, 76, 101, 110, 103, 116, 104, 58, 32, 50, 13, 10, 13, 10, 97, 98]⟩, .string ⟨#[72, 84, 84, 80, 47, 49, 46, 49, 32, 52, 48, 52, 32, 78, 111, 13, 10, 32, 13, 10]⟩, .string ⟨#[72, 84, 84, 80, 47, 49, 46, 49, 32, 52, 48, 52, 32, 78, 111, 13, 10, 13, 10]⟩] 9)).heap.size = w.heap.size + 1 by simp] at he
  obtain ⟨e0, e1, e2, -⟩ := three_read he
  clear he
  clear hm
  go_enter Tryz.func5, Tryz.ntmps5
  go_wp2
  generalize (w.alloc (.cells #[.string ⟨#[72, 84, 84, 80, 47, 49, 46, 49, 32, 50, 48, 48, 32, 79, 75, 13, 10, 67, 111, 110, 116, 101, 110, 116, 45, 76, 101, 110, 103, 116, 104, 58, 32, 50, 13, 10, 13, 10, 97, 98]⟩, .string ⟨#[72, 84, 84, 80, 47, 49, 46, 49, 32, 52, 48, 52, 32, 78, 111, 13, 10, 32, 13, 10]⟩, .string ⟨#[72, 84, 84, 80, 47, 49, 46, 49, 32, 52, 48, 52, 32, 78, 111, 13, 10, 13, 10]⟩] 9)).alloc (.cells #[.int .i64 0, .int .i64 10, .int .i64 14] 29) = w2 at *
  have HBA := Lib.hid hba
  have HS2 := Lib.hid hs2
  have HA0 := Lib.hid a0
  have HE0 := Lib.hid e0
  have HA1 := Lib.hid a1
  have HE1 := Lib.hid e1
  have HA2 := Lib.hid a2
  have HE2 := Lib.hid e2
  clear hba hs2 a0 e0 a1 e1 a2 e2
  go_loopw [3] (fun iv wr => ∃ i : Nat, iv = .int .i64 (i : Int) ∧ i ≤ 3 ∧ Hid (Below (w.heap.size + 2) w2 wr)) (fun iv _ => 3 - (intOf iv).toNat)
  case atStart => exact ⟨0, rfl, by decide, Lib.hid (Below.refl _ _)⟩
  case round =>
    obtain ⟨i, rfl, hi, HW⟩ := hrel
    have HWB : Hid (Below w.heap.size w wr) := Lib.hid (HBA.out.trans (HW.out.mono (by omega)))
    have HSR : Hid (w.heap.size + 2 ≤ wr.heap.size) := Lib.hid (by have := HW.out.size; have := HS2.out; omega)
    rcases (show i = 0 ∨ i = 1 ∨ i = 2 ∨ i = 3 by omega) with rfl | rfl | rfl | rfl
    · have ca : wr.cell? ⟨w.heap.size, 0, none⟩ = some (.string ⟨#[72, 84, 84, 80, 47, 49, 46, 49, 32, 50, 48, 48, 32, 79, 75, 13, 10, 67, 111, 110, 116, 101, 110, 116, 45, 76, 101, 110, 103, 116, 104, 58, 32, 50, 13, 10, 13, 10, 97, 98]⟩) := (HW.out.cell (p := ⟨w.heap.size, 0, none⟩) (by simp)).trans HA0.out
      have ce : wr.cell? ⟨w.heap.size + 1, 0, none⟩ = some (.int .i64 0) := (HW.out.cell (p := ⟨w.heap.size + 1, 0, none⟩) (by simp)).trans HE0.out
      have HN := Lib.hid (rnew_any (B := w.heap.size + 2) wr HSR.out 9 9 rfl)
      go_wp2_with fail
      refine (HN.out).mono ?_
      rintro e w3 ⟨rfl, hr3, hb3⟩
      obtain ⟨cap, w4, hcv, hpu⟩ := push_text w3 (w.heap.size + 2) wr.heap.size [wr.heap.size] ⟨#[72, 84, 84, 80, 47, 49, 46, 49, 32, 50, 48, 48, 32, 79, 75, 13, 10, 67, 111, 110, 116, 101, 110, 116, 45, 76, 101, 110, 103, 116, 104, 58, 32, 50, 13, 10, 13, 10, 97, 98]⟩ (by decide) hr3 (fun g hg => by
        rw [List.mem_singleton] at hg
        subst hg
        obtain ⟨av, dv, R, h2, -⟩ := hr3
        exact h2.lt) ((HGX.out wr HWB.out).grown hb3) (by have := HB1.out; omega)
      change (convert _ _ _).run Tryz.prog w3 = .ok (.slice (some ⟨w3.heap.size, 0, none⟩) 40 cap) w4 at hcv
      have HPU : Hid (Calls Tryz.prog 7 #[.pointer (some ⟨wr.heap.size, 0, none⟩), .slice (some ⟨w3.heap.size, 0, none⟩) 40 cap] w4 fun e w' => (∃ v, e = .returned v) ∧ ∃ F', Rdr (w.heap.size + 2) w' wr.heap.size ((Rp.made 9).push kR0) 9 F' ∧ Below (w.heap.size + 2) w4 w' ∧ Below w3.heap.size w3 w4) := Lib.hid hpu
      rw [kR0_is] at HPU
      have d3 : w3.cell? ⟨w.heap.size, 0, none⟩ = some (.string ⟨#[72, 84, 84, 80, 47, 49, 46, 49, 32, 50, 48, 48, 32, 79, 75, 13, 10, 67, 111, 110, 116, 101, 110, 116, 45, 76, 101, 110, 103, 116, 104, 58, 32, 50, 13, 10, 13, 10, 97, 98]⟩) := (hb3.cell (p := ⟨w.heap.size, 0, none⟩) (by have := HSR.out; show w.heap.size < _; omega)).trans ca
      have f3 : w3.cell? ⟨w.heap.size + 1, 0, none⟩ = some (.int .i64 0) := (hb3.cell (p := ⟨w.heap.size + 1, 0, none⟩) (by have := HSR.out; show w.heap.size + 1 < _; omega)).trans ce
      have HB3 := Lib.hid hb3
      clear hpu hb3 hr3 HN ca ce
      go_wp2_with fail
      refine (HPU.out).mono ?_
      rintro e w5 ⟨⟨v5, rfl⟩, F5, hr5, hb5, hb4⟩
      have HB5 : Hid (Below (w.heap.size + 2) wr w5) := Lib.hid (((HB3.out.mono HSR.out).trans (hb4.mono (Nat.le_trans HSR.out HB3.out.size))).trans hb5)
      have f5 : w5.cell? ⟨w.heap.size + 1, 0, none⟩ = some (.int .i64 0) := (((hb4.mono (Nat.le_trans HSR.out HB3.out.size)).trans hb5).cell (p := ⟨w.heap.size + 1, 0, none⟩) (by simp)).trans f3
      obtain ⟨av5, dv5, R5, hd5, -⟩ := hr5
      have HD5 := Lib.hid hd5
      have HRY := Lib.hid (reply_any hd5 (fun d hd => by cases hd; decide))
      change Hid (Calls _ _ _ _ fun e w' => (∃ v, e = .returned (.tuple #[.agg #[.int .i64 200, v, .bool true], .int .i64 0]) ∧ Owned w5.heap.size w' v [97, 98]) ∧ Below w5.heap.size w5 w') at HRY
      clear hd5 hb5 hb4 d3 f3 HPU hcv
      go_wp2_with fail
      refine (HRY.out).mono ?_
      rintro e w6 ⟨⟨v6, rfl, ho6⟩, hb6⟩
      obtain ⟨A6, c6, rfl, -⟩ := ho6.reads
      have HO6 := Lib.hid ho6
      have hba6 := hb6.alloc hb6.size (.cells #[.int .i64 200, .slice A6 2 c6, .bool true] 28)
      have f6 : (w6.alloc (.cells #[.int .i64 200, .slice A6 2 c6, .bool true] 28)).cell? ⟨w.heap.size + 1, 0, none⟩ = some (.int .i64 0) := (hba6.cell (p := ⟨w.heap.size + 1, 0, none⟩) (by have := HB5.out.size; have := HSR.out; show w.heap.size + 1 < _; omega)).trans f5
      have HOV := Lib.hid (over_rd (HD5.out.below hba6))
      change Hid (Calls _ _ _ _ fun e w' => e = .returned (.bool true) ∧ ∃ n, w' = (w6.alloc (.cells #[.int .i64 200, .slice A6 2 c6, .bool true] 28)).drewN n) at HOV
      have HCV : Hid (∀ n, (convert 22 9 (.slice A6 2 c6)).run Tryz.prog ((w6.alloc (.cells #[.int .i64 200, .slice A6 2 c6, .bool true] 28)).drewN n) = .ok (.string ⟨#[97, 98]⟩) ((w6.alloc (.cells #[.int .i64 200, .slice A6 2 c6, .bool true] 28)).drewN n)) := Lib.hid (fun n => by
        obtain ⟨A', c', hv, hcv⟩ := owned_text ((HO6.out.alloc (.cells #[.int .i64 200, .slice A6 2 c6, .bool true] 28)).below (below_drewN _ n))
        cases hv
        exact hcv)
      have HBW : Hid (∀ n, Below (w.heap.size + 2) w2 ((w6.alloc (.cells #[.int .i64 200, .slice A6 2 c6, .bool true] 28)).drewN n)) := Lib.hid (fun n => (HW.out.trans (HB5.out.trans (hba6.mono (Nat.le_trans HSR.out HB5.out.size)))).trans (below_drewN _ n))
      obtain ⟨x0, x1, x2, -⟩ := three_read (heap_alloc_new w6 (.cells #[.int .i64 200, .slice A6 2 c6, .bool true] 28))
      have hcv := HCV.out
      clear hb6 hba6 ho6 f5 HRY
      go_wp2_with (go_at_call 11; refine (HOV.out).mono ?_; rintro e w7 ⟨rfl, n7, rfl⟩)
      go_round
      case rel => exact ⟨1, rfl, by decide, Lib.hid (HBW.out n7)⟩
      case measure => decide
    · have ca : wr.cell? ⟨w.heap.size, 1, none⟩ = some (.string ⟨#[72, 84, 84, 80, 47, 49, 46, 49, 32, 52, 48, 52, 32, 78, 111, 13, 10, 32, 13, 10]⟩) := (HW.out.cell (p := ⟨w.heap.size, 1, none⟩) (by simp)).trans HA1.out
      have ce : wr.cell? ⟨w.heap.size + 1, 1, none⟩ = some (.int .i64 10) := (HW.out.cell (p := ⟨w.heap.size + 1, 1, none⟩) (by simp)).trans HE1.out
      have HN := Lib.hid (rnew_any (B := w.heap.size + 2) wr HSR.out 9 9 rfl)
      go_wp2_with fail
      refine (HN.out).mono ?_
      rintro e w3 ⟨rfl, hr3, hb3⟩
      obtain ⟨cap, w4, hcv, hpu⟩ := push_text w3 (w.heap.size + 2) wr.heap.size [wr.heap.size] ⟨#[72, 84, 84, 80, 47, 49, 46, 49, 32, 52, 48, 52, 32, 78, 111, 13, 10, 32, 13, 10]⟩ (by decide) hr3 (fun g hg => by
        rw [List.mem_singleton] at hg
        subst hg
        obtain ⟨av, dv, R, h2, -⟩ := hr3
        exact h2.lt) ((HGX.out wr HWB.out).grown hb3) (by have := HB1.out; omega)
      change (convert _ _ _).run Tryz.prog w3 = .ok (.slice (some ⟨w3.heap.size, 0, none⟩) 20 cap) w4 at hcv
      have HPU : Hid (Calls Tryz.prog 7 #[.pointer (some ⟨wr.heap.size, 0, none⟩), .slice (some ⟨w3.heap.size, 0, none⟩) 20 cap] w4 fun e w' => (∃ v, e = .returned v) ∧ ∃ F', Rdr (w.heap.size + 2) w' wr.heap.size ((Rp.made 9).push kR1) 9 F' ∧ Below (w.heap.size + 2) w4 w' ∧ Below w3.heap.size w3 w4) := Lib.hid hpu
      rw [kR1_is] at HPU
      have d3 : w3.cell? ⟨w.heap.size, 1, none⟩ = some (.string ⟨#[72, 84, 84, 80, 47, 49, 46, 49, 32, 52, 48, 52, 32, 78, 111, 13, 10, 32, 13, 10]⟩) := (hb3.cell (p := ⟨w.heap.size, 1, none⟩) (by have := HSR.out; show w.heap.size < _; omega)).trans ca
      have f3 : w3.cell? ⟨w.heap.size + 1, 1, none⟩ = some (.int .i64 10) := (hb3.cell (p := ⟨w.heap.size + 1, 1, none⟩) (by have := HSR.out; show w.heap.size + 1 < _; omega)).trans ce
      have HB3 := Lib.hid hb3
      clear hpu hb3 hr3 HN ca ce
      go_wp2_with fail
      refine (HPU.out).mono ?_
      rintro e w5 ⟨⟨v5, rfl⟩, F5, hr5, hb5, hb4⟩
      have HB5 : Hid (Below (w.heap.size + 2) wr w5) := Lib.hid (((HB3.out.mono HSR.out).trans (hb4.mono (Nat.le_trans HSR.out HB3.out.size))).trans hb5)
      have f5 : w5.cell? ⟨w.heap.size + 1, 1, none⟩ = some (.int .i64 10) := (((hb4.mono (Nat.le_trans HSR.out HB3.out.size)).trans hb5).cell (p := ⟨w.heap.size + 1, 1, none⟩) (by simp)).trans f3
      obtain ⟨av5, dv5, R5, hd5, -⟩ := hr5
      have HD5 := Lib.hid hd5
      have HRY := Lib.hid (reply_any hd5 (fun d hd => by cases hd))
      change Hid (Calls _ _ _ _ fun e w' => (∃ v, e = .returned (.tuple #[.agg #[.int .i64 0, v, .bool false], .int .i64 10]) ∧ Owned w5.heap.size w' v []) ∧ Below w5.heap.size w5 w') at HRY
      clear hd5 hb5 hb4 d3 f3 HPU hcv
      go_wp2_with fail
      refine (HRY.out).mono ?_
      rintro e w6 ⟨⟨v6, rfl, ho6⟩, hb6⟩
      obtain ⟨A6, c6, rfl, -⟩ := ho6.reads
      have hba6 := hb6.alloc hb6.size (.cells #[.int .i64 0, .slice A6 0 c6, .bool false] 28)
      have f6 : (w6.alloc (.cells #[.int .i64 0, .slice A6 0 c6, .bool false] 28)).cell? ⟨w.heap.size + 1, 1, none⟩ = some (.int .i64 10) := (hba6.cell (p := ⟨w.heap.size + 1, 1, none⟩) (by have := HB5.out.size; have := HSR.out; show w.heap.size + 1 < _; omega)).trans f5
      have HOV := Lib.hid (over_rd (HD5.out.below hba6))
      change Hid (Calls _ _ _ _ fun e w' => e = .returned (.bool true) ∧ ∃ n, w' = (w6.alloc (.cells #[.int .i64 0, .slice A6 0 c6, .bool false] 28)).drewN n) at HOV
      have HBW : Hid (∀ n, Below (w.heap.size + 2) w2 ((w6.alloc (.cells #[.int .i64 0, .slice A6 0 c6, .bool false] 28)).drewN n)) := Lib.hid (fun n => (HW.out.trans (HB5.out.trans (hba6.mono (Nat.le_trans HSR.out HB5.out.size)))).trans (below_drewN _ n))
      clear hb6 hba6 ho6 f5 HRY
      go_wp2_with (go_at_call 11; refine (HOV.out).mono ?_; rintro e w7 ⟨rfl, n7, rfl⟩)
      go_round
      case rel => exact ⟨2, rfl, by decide, Lib.hid (HBW.out n7)⟩
      case measure => decide
    · have ca : wr.cell? ⟨w.heap.size, 2, none⟩ = some (.string ⟨#[72, 84, 84, 80, 47, 49, 46, 49, 32, 52, 48, 52, 32, 78, 111, 13, 10, 13, 10]⟩) := (HW.out.cell (p := ⟨w.heap.size, 2, none⟩) (by simp)).trans HA2.out
      have ce : wr.cell? ⟨w.heap.size + 1, 2, none⟩ = some (.int .i64 14) := (HW.out.cell (p := ⟨w.heap.size + 1, 2, none⟩) (by simp)).trans HE2.out
      have HN := Lib.hid (rnew_any (B := w.heap.size + 2) wr HSR.out 9 9 rfl)
      go_wp2_with fail
      refine (HN.out).mono ?_
      rintro e w3 ⟨rfl, hr3, hb3⟩
      obtain ⟨cap, w4, hcv, hpu⟩ := push_text w3 (w.heap.size + 2) wr.heap.size [wr.heap.size] ⟨#[72, 84, 84, 80, 47, 49, 46, 49, 32, 52, 48, 52, 32, 78, 111, 13, 10, 13, 10]⟩ (by decide) hr3 (fun g hg => by
        rw [List.mem_singleton] at hg
        subst hg
        obtain ⟨av, dv, R, h2, -⟩ := hr3
        exact h2.lt) ((HGX.out wr HWB.out).grown hb3) (by have := HB1.out; omega)
      change (convert _ _ _).run Tryz.prog w3 = .ok (.slice (some ⟨w3.heap.size, 0, none⟩) 19 cap) w4 at hcv
      have HPU : Hid (Calls Tryz.prog 7 #[.pointer (some ⟨wr.heap.size, 0, none⟩), .slice (some ⟨w3.heap.size, 0, none⟩) 19 cap] w4 fun e w' => (∃ v, e = .returned v) ∧ ∃ F', Rdr (w.heap.size + 2) w' wr.heap.size ((Rp.made 9).push kR2) 9 F' ∧ Below (w.heap.size + 2) w4 w' ∧ Below w3.heap.size w3 w4) := Lib.hid hpu
      rw [kR2_is] at HPU
      have d3 : w3.cell? ⟨w.heap.size, 2, none⟩ = some (.string ⟨#[72, 84, 84, 80, 47, 49, 46, 49, 32, 52, 48, 52, 32, 78, 111, 13, 10, 13, 10]⟩) := (hb3.cell (p := ⟨w.heap.size, 2, none⟩) (by have := HSR.out; show w.heap.size < _; omega)).trans ca
      have f3 : w3.cell? ⟨w.heap.size + 1, 2, none⟩ = some (.int .i64 14) := (hb3.cell (p := ⟨w.heap.size + 1, 2, none⟩) (by have := HSR.out; show w.heap.size + 1 < _; omega)).trans ce
      have HB3 := Lib.hid hb3
      clear hpu hb3 hr3 HN ca ce
      go_wp2_with fail
      refine (HPU.out).mono ?_
      rintro e w5 ⟨⟨v5, rfl⟩, F5, hr5, hb5, hb4⟩
      have HB5 : Hid (Below (w.heap.size + 2) wr w5) := Lib.hid (((HB3.out.mono HSR.out).trans (hb4.mono (Nat.le_trans HSR.out HB3.out.size))).trans hb5)
      have f5 : w5.cell? ⟨w.heap.size + 1, 2, none⟩ = some (.int .i64 14) := (((hb4.mono (Nat.le_trans HSR.out HB3.out.size)).trans hb5).cell (p := ⟨w.heap.size + 1, 2, none⟩) (by simp)).trans f3
      obtain ⟨av5, dv5, R5, hd5, -⟩ := hr5
      have HD5 := Lib.hid hd5
      have HRY := Lib.hid (reply_any hd5 (fun d hd => by cases hd))
      change Hid (Calls _ _ _ _ fun e w' => (∃ v, e = .returned (.tuple #[.agg #[.int .i64 0, v, .bool false], .int .i64 14]) ∧ Owned w5.heap.size w' v []) ∧ Below w5.heap.size w5 w') at HRY
      clear hd5 hb5 hb4 d3 f3 HPU hcv
      go_wp2_with fail
      refine (HRY.out).mono ?_
      rintro e w6 ⟨⟨v6, rfl, ho6⟩, hb6⟩
      obtain ⟨A6, c6, rfl, -⟩ := ho6.reads
      have hba6 := hb6.alloc hb6.size (.cells #[.int .i64 0, .slice A6 0 c6, .bool false] 28)
      have f6 : (w6.alloc (.cells #[.int .i64 0, .slice A6 0 c6, .bool false] 28)).cell? ⟨w.heap.size + 1, 2, none⟩ = some (.int .i64 14) := (hba6.cell (p := ⟨w.heap.size + 1, 2, none⟩) (by have := HB5.out.size; have := HSR.out; show w.heap.size + 1 < _; omega)).trans f5
      have HOV := Lib.hid (over_rd (HD5.out.below hba6))
      change Hid (Calls _ _ _ _ fun e w' => e = .returned (.bool true) ∧ ∃ n, w' = (w6.alloc (.cells #[.int .i64 0, .slice A6 0 c6, .bool false] 28)).drewN n) at HOV
      have HBW : Hid (∀ n, Below (w.heap.size + 2) w2 ((w6.alloc (.cells #[.int .i64 0, .slice A6 0 c6, .bool false] 28)).drewN n)) := Lib.hid (fun n => (HW.out.trans (HB5.out.trans (hba6.mono (Nat.le_trans HSR.out HB5.out.size)))).trans (below_drewN _ n))
      clear hb6 hba6 ho6 f5 HRY
      go_wp2_with (go_at_call 11; refine (HOV.out).mono ?_; rintro e w7 ⟨rfl, n7, rfl⟩)
      go_round
      case rel => exact ⟨3, rfl, by decide, Lib.hid (HBW.out n7)⟩
      case measure => decide
    · go_wp2
      go_ret
      exact ⟨rfl, HWB.out⟩
end Go.Proofs.YtlelemjmknbnaaaGreatDoor
