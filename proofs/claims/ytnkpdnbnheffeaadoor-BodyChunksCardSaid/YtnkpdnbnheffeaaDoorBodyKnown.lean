/- The chapter's rows of bodies. -/
import Derived.Test.YtnkpdnbnheffeaaDoorBodyDk
import Derived.Test.YtnkpdnbnheffeaaDoorHeadKnown
namespace Go.Proofs.YtnkpdnbnheffeaaDoor
open Go.RowKit

def kA : List UInt8 := [97, 98, 99, 100]
def kB : List UInt8 := [50, 59, 120, 61, 49, 13, 10, 97, 98, 13, 10, 48, 13, 10, 13, 10]
def kC : List UInt8 := [103, 13, 10]
theorem kA_is : (Dc.made 3 false 10).push kA = (3, ⟨0, .none, false, 0, [], 0, [97, 98, 99], 0⟩) := by rfl
theorem kB_is : (Dc.made (-1) true 10).push kB = (16, ⟨0, .none, false, 8, [], 2, [97, 98], 0⟩) := by rfl
theorem kC_is : (Dc.made (-1) true 10).push kC = (3, ⟨0, .none, false, 10, [], 0, [], 12⟩) := by rfl
theorem chunked_any (w : World) : Calls Tryd.prog 13 #[] w fun e w' => e = .returned (.agg #[.int .i64 200, .int .i64 (-1), .bool true, .bool false]) ∧ Below w.heap.size w w' := by
  have HB := Lib.hid (fun o => below_alloc (B := w.heap.size) (w := w) (Nat.le_refl _) o)
  obtain ⟨t0, t1, t2, t3, -⟩ := read_cells (heap_alloc_new w (.cells #[.int .i64 200, .int .i64 (-1), .bool true, .bool false] 25))
  go_enter Tryd.func13, Tryd.ntmps13
  go_wp2
  exact bodyPost_ret (v := .agg #[.int .i64 200, .int .i64 (-1), .bool true, .bool false]) (by simp [results, Tryd.f13, go_sem, t0, t1, t2, t3]) rfl ⟨rfl, HB.out _⟩
theorem push_lit {B : Nat} {W : World} {p : Nat} {d : Dc} {R : List Nat} (h : Dk B W p d R) (l : List UInt8) (C : Array Value) (fr : Nat × Nat) (q n : Nat) (hC : C = (l.map bcell).toArray) (hq : q = W.heap.size) (hn : n = l.length) (hb : Bnd d l.length) (hm : GX W) (hB : 1 < B) :
    Calls Tryd.prog 14 #[.pointer (some ⟨p, 0, none⟩), .slice (some ⟨q, 0, none⟩) n n] (W.alloc (.cells C 5 fr)) fun e w' => e = .returned (.int .i64 ((d.push l).1 : Int)) ∧ ∃ R', Dk B w' p (d.push l).2 R' ∧ Turns R W w' ∧ ∀ g ∈ R', g ∈ R ∨ W.heap.size ≤ g := by
  subst hn
  have hba := below_alloc (B := W.heap.size) (w := W) (Nat.le_refl _) (.cells C 5 fr)
  refine (push_dk (h.below hba) (lit_reads' W q 5 l C fr hC hq) (Nat.le_refl _) (fun a e hm => ?_) hb (hm.grown hba) hB).mono fun e w' hh => ?_
  · cases e
    have := h.lt _ hm
    simp at this
    omega
  · obtain ⟨he, R', h1, h2, h3⟩ := hh
    exact ⟨he, R', h1, ((Turns.of_below hba (Nat.le_refl _)).mono (by simp)).trans h2 (fun i hi => .inl hi), fun g hg => (h3 g hg).imp id (fun h => by simp at h; omega)⟩
theorem GX.lt {w : World} (h : GX w) : 1 < w.heap.size := by
  obtain ⟨-, ev, h1, -⟩ := h
  simpa using World.block_lt_of_cell? w ⟨1, 0, none⟩ h1
theorem bnd_made {len : Int} {ch : Bool} {room n : Nat} (hr : room < 4611686018427387904) (hn : n ≤ 100000) : Bnd (Dc.made len ch room) n := by
  unfold Dc.made
  split
  · exact ⟨by simpa using hn, by simp; omega, by simp; omega, by show 0 < 4611686018427387904; decide, hr⟩
  · split
    · exact ⟨by simpa using hn, by simp; omega, by simp; omega, hr, by show 0 < 4611686018427387904; decide⟩
    · split
      · exact ⟨by simpa using hn, by simp; omega, by simp; omega, by show 0 < 4611686018427387904; decide, by show 0 < 4611686018427387904; decide⟩
      · exact ⟨by simpa using hn, by simp; omega, by simp; omega, by show len.toNat < _; omega, by show 0 < 4611686018427387904; decide⟩
set_option maxRecDepth 100000 in
set_option maxHeartbeats 4000000 in
theorem known7_yes (w : World) (hm : GX w) : Calls Tryd.prog 10 #[] w fun e w' => e = .returned (.bool true) ∧ Below w.heap.size w w' := by
  have hcs := conv_lit
  have hB := hm.lt
  have HB := Lib.hid hB
  have HGX : Hid (∀ W, Below w.heap.size w W → GX W) := Lib.hid (fun W hb => hm.grown hb)
  have HN1 := Lib.hid (new_dk w (Nat.le_refl _) 0 3 10 false false 10 rfl (by decide))
  clear hm hB
  go_enter Tryd.func10, Tryd.ntmps10
  go_wp2_with fail
  refine (Hid.out HN1).mono ?_
  rintro e w1 ⟨pd, Rd, rfl, hd1, hb1, hr1⟩
  have HD1 := Lib.hid hd1
  have HB1 := Lib.hid hb1
  have HR1 := Lib.hid hr1
  clear hd1 hb1 hr1 HN1
  go_wp2_with fail
  refine (chunked_any w1).mono ?_
  rintro e w2 ⟨rfl, hb2⟩
  have HB2 := Lib.hid (HB1.out.trans (hb2.mono HB1.out.size))
  have HD2 := Lib.hid (HD1.out.below hb2)
  have HS2 := Lib.hid (show w1.heap.size ≤ w2.heap.size from hb2.size)
  clear hb2
  have HN2 := Lib.hid (new_dk (B := w.heap.size) w2 HB2.out.size 200 (-1) 10 true false 10 rfl (by decide))
  go_wp2_with fail
  refine (Hid.out HN2).mono ?_
  rintro e w3 ⟨po, Ro, rfl, ho3, hb3, hr3⟩
  have HB3 := Lib.hid (HB2.out.trans (hb3.mono HB2.out.size))
  have HD3 := Lib.hid (HD2.out.below hb3)
  have HO3 := Lib.hid ho3
  have HR3 := Lib.hid hr3
  clear hb3 hr3 ho3 HN2
  go_wp2_with fail
  refine (chunked_any w3).mono ?_
  rintro e w4 ⟨rfl, hb4⟩
  have HB4 := Lib.hid (HB3.out.trans (hb4.mono HB3.out.size))
  have HD4 := Lib.hid (HD3.out.below hb4)
  have HO4 := Lib.hid (HO3.out.below hb4)
  have HS4 := Lib.hid (show w3.heap.size ≤ w4.heap.size from hb4.size)
  clear hb4
  have HN4 := Lib.hid (new_dk (B := w.heap.size) w4 HB4.out.size 200 (-1) 10 true false 10 rfl (by decide))
  go_wp2_with fail
  refine (Hid.out HN4).mono ?_
  rintro e w5 ⟨px, Rx, rfl, hx5, hb5, hr5⟩
  have HB5 := Lib.hid (HB4.out.trans (hb5.mono HB4.out.size))
  have HD5 := Lib.hid (HD4.out.below hb5)
  have HO5 := Lib.hid (HO4.out.below hb5)
  have HX5 := Lib.hid hx5
  have HR5 := Lib.hid hr5
  have HS5 := Lib.hid (show w4.heap.size ≤ w5.heap.size from hb5.size)
  clear hb5 hr5 hx5 HN4
  have HP1 := Lib.hid (push_lit HD5.out kA (kA.map bcell).toArray (4, 5) w5.heap.size 4 rfl rfl rfl (bnd_made (by decide) (by decide)) (HGX.out _ HB5.out) HB.out)
  rw [kA_is] at HP1
  go_wp2_with fail
  refine (Hid.out HP1).mono ?_
  rintro e w6 ⟨rfl, Rd', hd6, ht6, hf6⟩
  have hRd (g : Nat) (hg : g ∈ Rd) : w.heap.size ≤ g ∧ g < w1.heap.size := ⟨HR1.out g hg, HD1.out.lt g hg⟩
  have hRo (g : Nat) (hg : g ∈ Ro) : w2.heap.size ≤ g ∧ g < w3.heap.size := ⟨HR3.out g hg, HO3.out.lt g hg⟩
  have hRx (g : Nat) (hg : g ∈ Rx) : w4.heap.size ≤ g ∧ g < w5.heap.size := ⟨HR5.out g hg, HX5.out.lt g hg⟩
  have s2 := HS2.out
  have s4 := HS4.out
  have s5 := HS5.out
  have s0 := HB1.out.size
  have s6 := ht6.size
  have s3 : w2.heap.size ≤ w3.heap.size := by
    obtain ⟨lv, bv, nv, K, hdd, -, -, hR⟩ := HO3.out
    have := hRo po (by rw [hR]; simp [foot])
    omega
  have HO6 := Lib.hid (HO5.out.turns ht6 (fun g hg hm => by have := hRd g hm; have := hRo g hg; omega))
  have HX6 := Lib.hid (HX5.out.turns ht6 (fun g hg hm => by have := hRd g hm; have := hRx g hg; omega))
  have HD6 := Lib.hid hd6
  have HB6 := Lib.hid (HB5.out.trans (ht6.below (B := w.heap.size) (fun g hg => (hRd g hg).1) HB5.out.size))
  have HF6 := Lib.hid (fun g (hg : g ∈ Rd') => show (w.heap.size ≤ g ∧ g < w1.heap.size) ∨ w5.heap.size ≤ g from (hf6 g hg).imp (hRd g) id)
  have HRO := Lib.hid hRo
  have HRX := Lib.hid hRx
  have HS := Lib.hid (show w.heap.size ≤ w1.heap.size ∧ w1.heap.size ≤ w2.heap.size ∧ w2.heap.size ≤ w3.heap.size ∧ w3.heap.size ≤ w4.heap.size ∧ w4.heap.size ≤ w5.heap.size ∧ w5.heap.size ≤ w6.heap.size from ⟨s0, s2, s3, s4, s5, s6⟩)
  clear hd6 ht6 hf6 hRd hRo hRx s0 s2 s3 s4 s5 s6 HP1
  have HP2 := Lib.hid (push_lit HO6.out kB (kB.map bcell).toArray (16, 17) w6.heap.size 16 rfl rfl rfl (bnd_made (by decide) (by decide)) (HGX.out _ HB6.out) HB.out)
  rw [kB_is] at HP2
  go_wp2_with fail
  refine (Hid.out HP2).mono ?_
  rintro e w7 ⟨rfl, Ro', ho7, ht7, hf7⟩
  obtain ⟨s0, s2, s3, s4, s5, s6⟩ := HS.out
  have s7 := ht7.size
  have HD7 := Lib.hid (HD6.out.turns ht7 (fun g hg hm => by have := HF6.out g hg; have := HRO.out g hm; omega))
  have HX7 := Lib.hid (HX6.out.turns ht7 (fun g hg hm => by have := HRX.out g hg; have := HRO.out g hm; omega))
  have HO7 := Lib.hid ho7
  have HB7 := Lib.hid (HB6.out.trans (ht7.below (B := w.heap.size) (fun g hg => by have := HRO.out g hg; omega) HB6.out.size))
  have HF7 := Lib.hid (fun g (hg : g ∈ Ro') => show (w2.heap.size ≤ g ∧ g < w3.heap.size) ∨ w6.heap.size ≤ g from (hf7 g hg).imp (HRO.out g) id)
  clear ho7 ht7 hf7 s0 s2 s3 s4 s5 s6 s7 HP2
  have HP3 := Lib.hid (push_lit HX7.out kC (kC.map bcell).toArray (3, 4) w7.heap.size 3 rfl rfl rfl (bnd_made (by decide) (by decide)) (HGX.out _ HB7.out) HB.out)
  rw [kC_is] at HP3
  go_wp2_with fail
  refine (Hid.out HP3).mono ?_
  rintro e w8 ⟨rfl, Rx', hx8, ht8, hf8⟩
  obtain ⟨s0, s2, s3, s4, s5, s6⟩ := HS.out
  have s8 := ht8.size
  have HD8 := Lib.hid (HD7.out.turns ht8 (fun g hg hm => by have := HF6.out g hg; have := HRX.out g hm; omega))
  have HO8 := Lib.hid (HO7.out.turns ht8 (fun g hg hm => by have := HF7.out g hg; have := HRX.out g hm; omega))
  have HX8 := Lib.hid hx8
  have HB8 := Lib.hid (HB7.out.trans (ht8.below (B := w.heap.size) (fun g hg => by have := HRX.out g hg; omega) HB7.out.size))
  clear hx8 ht8 hf8 s0 s2 s3 s4 s5 s6 s8 HP3
  have HDN : Hid (∀ W, Below w8.heap.size w8 W → Calls Tryd.prog 15 #[.pointer (some ⟨pd, 0, none⟩)] W fun en w' => en = .returned (.bool true) ∧ W = w') := Lib.hid (fun W hb => done_dk (HD8.out.below hb))
  have HDB : Hid (∀ W, Below w8.heap.size w8 W → Calls Tryd.prog 16 #[.pointer (some ⟨pd, 0, none⟩)] W fun e w' => (∃ v', e = .returned v' ∧ Owned W.heap.size w' v' [97, 98, 99]) ∧ Below W.heap.size W w') := Lib.hid (fun W hb => body_dk (HD8.out.below hb) (by decide))
  have HON : Hid (∀ W, Below w8.heap.size w8 W → Calls Tryd.prog 15 #[.pointer (some ⟨po, 0, none⟩)] W fun en w' => en = .returned (.bool true) ∧ W = w') := Lib.hid (fun W hb => done_dk (HO8.out.below hb))
  have HOB : Hid (∀ W, Below w8.heap.size w8 W → Calls Tryd.prog 16 #[.pointer (some ⟨po, 0, none⟩)] W fun e w' => (∃ v', e = .returned v' ∧ Owned W.heap.size w' v' [97, 98]) ∧ Below W.heap.size W w') := Lib.hid (fun W hb => body_dk (HO8.out.below hb) (by decide))
  have HXW : Hid (∀ W, Below w8.heap.size w8 W → Calls Tryd.prog 18 #[.pointer (some ⟨px, 0, none⟩)] W fun en w' => en = .returned (.int .i64 12) ∧ W = w') := Lib.hid (fun W hb => wrong_dk (HX8.out.below hb))
  have HXN : Hid (∀ W, Below w8.heap.size w8 W → Calls Tryd.prog 15 #[.pointer (some ⟨px, 0, none⟩)] W fun en w' => en = .returned (.bool false) ∧ W = w') := Lib.hid (fun W hb => done_dk (HX8.out.below hb))
  clear HD1 HD2 HD3 HD4 HD5 HD6 HD7 HO3 HO4 HO5 HO6 HO7 HX5 HX6 HX7 HF6 HF7 HRO HRX HS HR1 HR3 HR5 HS2 HS4 HS5 HB1 HB2 HB3 HB4 HB5 HB6 HB7 HD8 HO8 HX8 hcs
  go_wp2_with fail
  refine (HDN.out w8 (Below.refl _ _)).mono ?_
  rintro e w9 ⟨rfl, rfl⟩
  go_wp2_with fail
  refine (HDB.out w8 (Below.refl _ _)).mono ?_
  rintro e w9 ⟨⟨v1, rfl, ho1⟩, hb9⟩
  obtain ⟨A1, c1, rfl, hcv1⟩ := owned_text ho1
  change (convert 22 9 (.slice A1 3 c1)).run Tryd.prog w9 = .ok (.string ⟨#[97, 98, 99]⟩) w9 at hcv1
  have HB9 := Lib.hid hb9
  clear hb9 ho1
  go_wp2_with fail
  refine (HON.out w9 HB9.out).mono ?_
  rintro e w10 ⟨rfl, rfl⟩
  go_wp2_with fail
  refine (HOB.out w9 HB9.out).mono ?_
  rintro e w10 ⟨⟨v2, rfl, ho2⟩, hb10⟩
  obtain ⟨A2, c2, rfl, hcv2⟩ := owned_text ho2
  change (convert 22 9 (.slice A2 2 c2)).run Tryd.prog w10 = .ok (.string ⟨#[97, 98]⟩) w10 at hcv2
  have HB10 := Lib.hid (HB9.out.trans (hb10.mono HB9.out.size))
  clear hb10 ho2
  go_wp2_with fail
  refine (HXW.out w10 HB10.out).mono ?_
  rintro e w11 ⟨rfl, rfl⟩
  go_wp2_with fail
  refine (HXN.out w10 HB10.out).mono ?_
  rintro e w11 ⟨rfl, rfl⟩
  go_wp2
  go_ret
  exact ⟨rfl, HB8.out.trans (HB10.out.mono HB8.out.size)⟩
end Go.Proofs.YtnkpdnbnheffeaaDoor
