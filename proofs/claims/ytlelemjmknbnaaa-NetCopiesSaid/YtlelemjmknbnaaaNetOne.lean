/- A net of one connection, whose number is 1; the laws' own helper: the chapter's row. -/
import Derived.Test.YtlelemjmknbnaaaNetDial
import Derived.Lib.SlBytesConst
namespace Go.Proofs.Ytlelemjmknbnaaa
open Go.RowKit

/-- A net that has just the connection x, number 1. -/
structure OneAt (B : Nat) (w : World) (bn bm : Nat) (most : Int) (x : NE) : Prop where
  net : NetAt B w bn bm most 1 [x]
  id : x.1.id = 1
theorem OneAt.wf {B : Nat} {w : World} {bn bm : Nat} {most : Int} {x : NE} (h : OneAt B w bn bm most x) : (Lit.int .i64 (x.1.id : Int)).wf = true := by rw [h.id]; rfl
theorem OneAt.foot {B : Nat} {w : World} {bn bm : Nat} {most : Int} {x : NE} (h : OneAt B w bn bm most x) : ∀ i ∈ x.2.foot, B ≤ i ∧ i < w.heap.size := (NetAt.footOf (L1 := []) (L2 := []) h.net).2
theorem OneAt.low {B : Nat} {w : World} {bn bm : Nat} {most : Int} {x : NE} (h : OneAt B w bn bm most x) : B ≤ w.heap.size := by
  have := h.net.lt bn (by simp)
  omega
theorem OneAt.below {B : Nat} {w w' : World} {bn bm : Nat} {most : Int} {x : NE} (h : OneAt B w bn bm most x) (ht : Turns x.2.foot w w') : Below B w w' := ht.below (fun i hi => (h.foot i hi).1) h.low
theorem OneAt.still {B : Nat} {w w' : World} {bn bm : Nat} {most : Int} {x : NE} (h : OneAt B w bn bm most x) (ht : Turns [] w w') : OneAt B w' bn bm most x ∧ Below B w w' := ⟨⟨h.net.kept ht (by simp), h.id⟩, ht.below (by simp) h.low⟩
theorem one_accept {B : Nat} {w : World} {bn bm : Nat} {most : Int} {x : NE} (h : OneAt B w bn bm most x) (hz : x.1.st = 1) :
    Calls Try.prog 15 #[.pointer (some ⟨bn, 0, none⟩), .int .i64 1] w fun e w' => e = .returned (.int .i64 0) ∧ OneAt B w' bn bm most ({ x.1 with st := 2 }, x.2) ∧ Below B w w' := by
  have hc := accept_ok (L1 := []) (L2 := []) h.net h.wf hz
  rw [h.id] at hc
  exact hc.mono fun e w' ⟨h1, h2, h3⟩ => ⟨h1, ⟨h2, h.id⟩, h.below h3⟩
theorem one_end {B : Nat} {w : World} {bn bm : Nat} {most : Int} {x : NE} (h : OneAt B w bn bm most x) (hz : x.1.st = 2) :
    Calls Try.prog 17 #[.pointer (some ⟨bn, 0, none⟩), .int .i64 1] w fun e w' => e = .returned (.int .i64 0) ∧ OneAt B w' bn bm most ({ x.1 with st := 3 }, x.2) ∧ Below B w w' := by
  have hc := end_ok (L1 := []) (L2 := []) h.net h.wf hz
  rw [h.id] at hc
  exact hc.mono fun e w' ⟨h1, h2, h3⟩ => ⟨h1, ⟨h2, h.id⟩, h.below h3⟩
theorem one_arrive {B : Nat} {w : World} {bn bm : Nat} {most : Int} {x : NE} (h : OneAt B w bn bm most x) (hz : x.1.st = 2) (Bx : Nat) (A : Option Addr) (l : List UInt8) (c : Nat) (hr : BReads w Bx A l) (hBx : Bx ≤ w.heap.size) (hc : A = none → c = 0) (hlen : x.1.inn.length + l.length ≤ 1000000) :
    Calls Try.prog 16 #[.pointer (some ⟨bn, 0, none⟩), .int .i64 1, .slice A l.length c] w fun e w' => e = .returned (.int .i64 0) ∧ (∃ x', OneAt B w' bn bm most x' ∧ x'.1.st = 2 ∧ x'.1.inn = x.1.inn ++ l) ∧ Below B w w' := by
  have hcc := arrive_ok (L1 := []) (L2 := []) h.net h.wf hz Bx A l c hr hBx hc hlen
  rw [h.id] at hcc
  exact hcc.mono fun e w' ⟨h1, ⟨v', h2⟩, h3⟩ => ⟨h1, ⟨_, ⟨h2, h.id⟩, hz, rfl⟩, h.below h3⟩
theorem one_shut {B : Nat} {w : World} {bn bm : Nat} {most : Int} {x : NE} (h : OneAt B w bn bm most x) (hz : x.1.st ≠ 2) (v : Value) :
    Calls Try.prog 16 #[.pointer (some ⟨bn, 0, none⟩), .int .i64 1, v] w fun e w' => e = .returned (.int .i64 7) ∧ OneAt B w' bn bm most x ∧ Below B w w' := by
  have hg : getE [x] 1 = some x := by
    have := getE_self (L1 := []) (L2 := []) h.net.rise
    rw [h.id] at this
    exact this
  have hv : codeV (getE [x] 1) [2] = 7 := by rw [hg]; exact if_neg (by simpa using hz)
  have hcc := arrive_no h.net 1 rfl (by rw [hv]; decide) v
  rw [hv] at hcc
  exact hcc.mono fun e w' ⟨h1, h2⟩ => ⟨h1, (h.still h2).1, (h.still h2).2⟩
theorem one_read {B : Nat} {w : World} {bn bm : Nat} {most : Int} {x : NE} (h : OneAt B w bn bm most x) :
    Calls Try.prog 18 #[.pointer (some ⟨bn, 0, none⟩), .int .i64 1] w fun e w' => ∃ v, e = .returned v ∧ (∃ x', OneAt B w' bn bm most x' ∧ x'.1.st = x.1.st ∧ x'.1.inn = []) ∧ Owned B w' v x.1.inn ∧ Below B w w' := by
  have hcc := read_ok (L1 := []) (L2 := []) h.net h.wf
  rw [h.id] at hcc
  have ho := own_off (L1 := []) (L2 := []) h.net
  refine hcc.mono fun e w' ⟨h1, h2, h3⟩ => ⟨_, h1, ⟨_, ⟨h2, h.id⟩, rfl, rfl⟩, (NetAt.conn (L1 := []) (L2 := []) h.net).2.1.turns h3 (fun g hg hm => ho.1 ?_), h3.below (fun i hi => ?_) h.low⟩
  · rw [List.mem_singleton] at hm
    rw [← hm]
    exact ownB_mem hg
  · rw [List.mem_singleton] at hi
    rw [hi]
    exact (h.foot _ (Pl.mem_foot.2 (.inl rfl))).1
theorem one_left {B : Nat} {w : World} {bn bm : Nat} {most : Int} {x : NE} (h : OneAt B w bn bm most x) :
    Calls Try.prog 40 #[.pointer (some ⟨bn, 0, none⟩), .int .i64 1] w fun e w' => e = .returned (.int .i64 (x.1.inn.length : Int)) ∧ OneAt B w' bn bm most x ∧ Below B w w' := by
  have hcc := left_some (L1 := []) (L2 := []) h.net h.wf
  rw [h.id] at hcc
  exact hcc.mono fun e w' ⟨h1, h2⟩ => ⟨h1, (h.still h2).1, (h.still h2).2⟩
/-- A net that is new, and its first connection. -/
theorem one_new (B : Nat) (w : World) (most : Int) (hB : B ≤ w.heap.size) (hm : 0 < most) :
    Calls Try.prog 6 #[.int .i64 most] w fun e w' => (∃ bn bm, e = .returned (.pointer (some ⟨bn, 0, none⟩)) ∧ NetAt B w' bn bm most 0 []) ∧ Below B w w' := by
  have h := new_any B most w hB
  rw [show max most 0 = most by omega] at h
  exact h.mono fun e w' ⟨h1, h2, h3⟩ => ⟨⟨_, _, h1, h2⟩, h3.below (by simp) hB⟩
theorem one_dial {B : Nat} {w : World} {bn bm : Nat} {most : Int} (h : NetAt B w bn bm most 0 []) (hm : 0 < most) (host : ByteArray) (hh : host.size ≤ 1000000) :
    Calls Try.prog 14 #[.pointer (some ⟨bn, 0, none⟩), .string host] w fun e w' => e = .returned (.tuple #[.int .i64 1, .int .i64 0]) ∧ (∃ x, OneAt B w' bn bm most x ∧ x.1.st = 1 ∧ x.1.inn = []) ∧ Below B w w' := by
  have hcc := dial_ok (N := 0) h host hh (by omega) (by simpa using hm)
  have hlt := h.lt
  exact hcc.mono fun e w' ⟨h1, ⟨nb, _, h2⟩, h3⟩ => ⟨h1, ⟨_, ⟨h2, rfl⟩, rfl, rfl⟩, h3.below (fun i hi => (hlt i (by simp at hi ⊢; rcases hi with hi | hi <;> simp [hi])).1) (by have := hlt bn (by simp); omega)⟩
theorem breads_ab (w : World) (t : TypeId) : BReads (w.alloc (.cells #[.int .u8 97, .int .u8 98] t (2, 3))) (w.heap.size + 1) (some ⟨w.heap.size, 0, none⟩) [97, 98] := by
  refine .inr ⟨w.heap.size, 0, rfl, Nat.lt_succ_self _, fun j x hj => ?_⟩
  rw [World.cell?_alloc_mark]
  match j, hj with
  | 0, hj => cases hj; rfl
  | 1, hj => cases hj; rfl
  | j + 2, hj => cases hj
set_option maxRecDepth 100000 in
set_option maxHeartbeats 4000000 in
theorem known_yes (B : Nat) (w : World) (hB : B ≤ w.heap.size) :
    Calls Try.prog 5 #[] w fun e w' => e = .returned (.bool true) ∧ Below B w w' := by
  have HNW := Lib.hid (one_new B w 3 hB (by decide))
  have hcs := fun (w : World) (C : Array Value) (n c : Nat) => Lib.run_convert_bytes_const (P := Try.prog) w 30 5 C n c Try.underlying30 Try.underlying5
  go_enter Try.func5, Try.ntmps5
  go_wp2_with fail
  refine (Hid.out HNW).mono ?_
  rintro e w1 ⟨⟨bn, bm, rfl, hn1⟩, hb1⟩
  have HB1 := Lib.hid hb1
  have HD := Lib.hid (one_dial hn1 (by decide) ⟨#[97]⟩ (by decide))
  clear hb1 hn1
  go_wp2_with fail
  refine (Hid.out HD).mono ?_
  rintro e w2 ⟨rfl, ⟨x2, ho2, hs2, hi2⟩, hb2⟩
  have HB2 := Lib.hid (HB1.out.trans hb2)
  have HA := Lib.hid (one_accept ho2 hs2)
  have HI2 := Lib.hid hi2
  clear hb2 ho2 hs2 hi2
  go_wp2_with fail
  refine (Hid.out HA).mono ?_
  rintro e w3 ⟨rfl, ho3, hb3⟩
  have HB3 := Lib.hid (HB2.out.trans hb3)
  have HO3 := Lib.hid ho3
  have hB3 : B ≤ w3.heap.size := HO3.out.low
  have HR3 : Hid (Calls Try.prog 16 #[.pointer (some ⟨bn, 0, none⟩), .int .i64 1, .slice (some ⟨w3.heap.size, 0, none⟩) 2 2] (w3.alloc (.cells #[.int .u8 97, .int .u8 98] 5 (2, 3))) fun e w' => e = .returned (.int .i64 0) ∧ (∃ x', OneAt B w' bn bm 3 x' ∧ x'.1.st = 2 ∧ x'.1.inn = [97, 98]) ∧ Below B w3 w') := Lib.hid (by
    have h := one_arrive (HO3.out.still (Turns.alloc _ (.cells #[.int .u8 97, .int .u8 98] 5 (2, 3)))).1 rfl (w3.heap.size + 1) (some ⟨w3.heap.size, 0, none⟩) [97, 98] 2 (breads_ab w3 _) (by simp) (fun h => by cases h) (by simp [HI2.out])
    exact h.mono fun e w' ⟨h1, ⟨x', h2, h3, h4⟩, h5⟩ => ⟨h1, ⟨x', h2, h3, by rw [h4]; show x2.1.inn ++ [97, 98] = _; rw [HI2.out]; rfl⟩, (below_alloc hB3 _).trans h5⟩)
  clear hb3 ho3
  go_wp2_with fail
  refine (Hid.out HR3).mono ?_
  rintro e w4 ⟨rfl, ⟨x4, ho4, hs4, hi4⟩, hb4⟩
  have HB4 := Lib.hid (HB3.out.trans hb4)
  have HE := Lib.hid (one_end ho4 hs4)
  have HI4 := Lib.hid hi4
  clear hb4 ho4 hs4 hi4
  go_wp2_with fail
  refine (Hid.out HE).mono ?_
  rintro e w5 ⟨rfl, ho5, hb5⟩
  have HB5 := Lib.hid (HB4.out.trans hb5)
  have HO5 := Lib.hid ho5
  have hB5 : B ≤ w5.heap.size := HO5.out.low
  have HS := Lib.hid (fun v => one_shut (HO5.out.still (Turns.alloc _ (.cells #[.int .u8 99] 5 (1, 2)))).1 (by show (3 : Int) ≠ 2; decide) v)
  clear hb5 ho5
  go_wp2_with fail
  refine (HS.out _).mono ?_
  rintro e w6 ⟨rfl, ho6, hb6⟩
  have HB6 := Lib.hid ((HB5.out.trans (below_alloc hB5 _)).trans hb6)
  have HRD := Lib.hid (one_read ho6)
  clear hb6 ho6
  go_wp2_with fail
  refine (Hid.out HRD).mono ?_
  rintro e w7 ⟨v, rfl, _, hown, hb7⟩
  have HB7 := Lib.hid (HB6.out.trans hb7)
  have hown2 : Owned B w7 v [97, 98] := by rw [← HI4.out]; exact hown
  obtain ⟨A, cap, rfl, hcv⟩ := owned_text hown2
  have hcv' : (convert 30 9 (.slice A 2 cap)).run Try.prog w7 = .ok (.string ⟨#[97, 98]⟩) w7 := hcv
  clear hb7 hown hown2 hcv
  go_wp2
  go_ret
  exact ⟨rfl, HB7.out⟩
end Go.Proofs.Ytlelemjmknbnaaa
