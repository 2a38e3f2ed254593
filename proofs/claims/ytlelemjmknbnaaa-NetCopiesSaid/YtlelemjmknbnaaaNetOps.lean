/- The program's other calls of a net. -/
import Derived.Test.YtlelemjmknbnaaaNetAll
namespace Go.Proofs.Ytlelemjmknbnaaa
open Go.RowKit

set_option maxRecDepth 100000 in
set_option maxHeartbeats 1000000 in
theorem clone_any (A : Option Addr) (l : List UInt8) (c : Nat) (w : World) (hr : BReads w w.heap.size A l) (hc : A = none → c = 0) (hl : l.length ≤ 1000000) :
    Calls Try.prog 34 #[.slice A l.length c] w fun e w' => (∃ v, e = .returned v ∧ Owned w.heap.size w' v l) ∧ Turns [] w w' := by
  cases A with
  | none =>
    have h0 := hr.hnone rfl
    obtain rfl := List.eq_nil_of_length_eq_zero h0
    obtain rfl := hc rfl
    exact (nil_clone w).mono fun e w' ⟨he, hw⟩ => ⟨⟨_, he, World.ownsRow_nil _ _ _ _⟩, by rw [← hw]; exact Turns.refl _ _⟩
  | some ad =>
    have he : ∀ w, (binOp .eql 30 (.slice (some ad) l.length c) (.slice none 0 0)).run Try.prog w = .ok (.bool false) w := fun w => by kernel_rfl
    have HO : Hid (Owned w.heap.size (w.alloc (.cells #[] 5)) (.slice (some ⟨w.heap.size, 0, none⟩) 0 0) []) := Lib.hid ⟨rfl, .inr ⟨w.heap.size, 0, #[], rfl, Nat.le_refl _, heap_alloc_new w _, Nat.le_refl _, by unfold maxLen; omega, rfl, rfl⟩⟩
    have HR := Lib.hid (hr.below (below_alloc (Nat.le_refl _) (.cells #[] 5)))
    have HL := Lib.hid (show ([] : List UInt8).length + l.length ≤ 1000000 by simpa using hl)
    generalize hn : l.length = NN at he ⊢
    have HN := Lib.hid hn
    clear hr hl hc hn
    go_enter Try.func34, Try.ntmps34
    go_wp2_with (at_builtin; refine wpList_append_bytesT rfl (.tmp 5) (.tmp 6) rfl w.heap.size (.slice (some ⟨w.heap.size, 0, none⟩) 0 0) [] rfl HO.out w.heap.size (some ad) l c (by rw [HN.out]; rfl) HR.out (fun h => by cases h) HL.out (by simp) ?_; intro v2 w2 hown2 ht2 hl2; have HOW := Lib.hid hown2; have HT2 := Lib.hid ht2; clear hown2 ht2 hl2; obtain ⟨A5, c5, rfl, _⟩ := HOW.out.reads; rw [List.nil_append] at HOW ⊢; rw [HN.out] at HOW ⊢)
    go_ret
    exact ⟨⟨_, rfl, HOW.out⟩, (Turns.alloc w _).trans (F := []) HT2.out (fun i hi => .inr (Nat.le_of_eq (show w.heap.size = i by simpa [ownB, Value.ownBlock, eq_comm] using hi)))⟩
set_option maxRecDepth 100000 in
set_option maxHeartbeats 2000000 in
theorem arrive_ok2 {B : Nat} {w : World} {bn bm : Nat} {most last : Int} {L1 L2 : List NE} {x : NE} (h : NetAt B w bn bm most last (L1 ++ x :: L2)) (hk : (Lit.int .i64 (x.1.id : Int)).wf = true) (hz : x.1.st = 2) (Bx : Nat) (A : Option Addr) (l : List UInt8) (c : Nat) (hr : BReads w Bx A l) (hBx : Bx ≤ w.heap.size) (hc : A = none → c = 0)
    (hlen : x.1.inn.length + l.length ≤ 1000000) :
    Calls Try.prog 16 #[.pointer (some ⟨bn, 0, none⟩), .int .i64 (x.1.id : Int), .slice A l.length c] w fun e w' => e = .returned (.int .i64 0) ∧ (∃ v', NetAt B w' bn bm most last (L1 ++ ({ x.1 with inn := x.1.inn ++ l }, { x.2 with va := v' }) :: L2) ∧ (v'.ownBlock = x.2.va.ownBlock ∨ v'.ownBlock = some (w.heap.size + 1))) ∧ Turns x.2.foot w w' := by
  have hA := h.alloc (.cells #[.int .i64 2] 58)
  have hin := in_any hA (x.1.id : Int) hk w.heap.size 1 [2] (by simp) (st_one w 2 _)
  rw [getE_self h.rise, show inV (some x) [2] = .tuple #[.pointer (some ⟨x.2.b, 0, none⟩), .int .i64 0] from if_pos (by rw [hz]; simp)] at hin
  change Calls _ _ #[_, _, .slice _ 1 1] _ _ at hin
  have HI := Lib.hid hin
  have HO := Lib.hid hA.conn.2.1
  obtain ⟨_, k1, k2, k3, k4⟩ := cell_conn hA.conn.1
  have HR := Lib.hid (show BReads (w.alloc (.cells #[.int .i64 2] 58)) Bx A l from hr.keep fun p hp => World.cell?_alloc_lt _ _ p (Nat.lt_of_lt_of_le hp hBx))
  have HL := Lib.hid hlen
  have HCC := Lib.hid hc
  have HBS := Lib.hid (show B ≤ (w.alloc (.cells #[.int .i64 2] 58)).heap.size from Nat.le_trans (h.lt bn (by simp)).1 (Nat.le_trans (Nat.le_of_lt (h.lt bn (by simp)).2) (by simp)))
  have HM := Lib.hid (fun (w2 : World) (v' : Value) ho ht hl => h.arrived (w2 := w2) (v' := v') (l := l) (Turns.alloc w (.cells #[.int .i64 2] 58)) ho ht hl)
  have kf := k4 2
  clear hin hA h hr hlen hz hk hc k4
  go_enter Try.func16, Try.ntmps16
  go_wp2_with fail
  refine (Hid.out HI).mono ?_
  rintro e w1 ⟨rfl, rfl⟩
  go_wp2_with (at_builtin; refine wpList_append_bytesT rfl (.tmp 22) (.tmp 23) rfl B x.2.va x.1.inn rfl HO.out Bx A l c rfl HR.out HCC.out HL.out HBS.out ?_; intro v2 w2 hown2 ht2 hl2; have HM2 := Lib.hid (HM.out w2 v2 hown2 ht2 hl2); obtain ⟨_, _, _, _, f4⟩ := cell_conn HM2.out.2.2; have f4' := f4 2; have f5 := (cell_conn HM2.out.2.2).2.2.1; have HOW := Lib.hid hown2; have HL2 := Lib.hid hl2; clear hown2 ht2 hl2 f4; obtain ⟨A5, c5, rfl, _⟩ := HOW.out.reads; clear HOW; generalize (x.1.inn ++ l).length = NN at HM2 HL2 ⊢)
  go_ret
  exact ⟨rfl, ⟨_, HM2.out.1, by have := HL2.out; rwa [World.size_alloc] at this⟩, HM2.out.2.1⟩
set_option maxRecDepth 100000 in
set_option maxHeartbeats 2000000 in
theorem send_ok2 {B : Nat} {w : World} {bn bm : Nat} {most last : Int} {L1 L2 : List NE} {x : NE} (h : NetAt B w bn bm most last (L1 ++ x :: L2)) (hk : (Lit.int .i64 (x.1.id : Int)).wf = true) (hz : x.1.st = 2) (Bx : Nat) (A : Option Addr) (l : List UInt8) (c : Nat) (hr : BReads w Bx A l) (hBx : Bx ≤ w.heap.size) (hc : A = none → c = 0)
    (hlen : x.1.out.length + l.length ≤ 1000000) :
    Calls Try.prog 27 #[.pointer (some ⟨bn, 0, none⟩), .int .i64 (x.1.id : Int), .slice A l.length c] w fun e w' => e = .returned (.int .i64 0) ∧ (∃ v', NetAt B w' bn bm most last (L1 ++ ({ x.1 with out := x.1.out ++ l }, { x.2 with vs := v' }) :: L2) ∧ (v'.ownBlock = x.2.vs.ownBlock ∨ v'.ownBlock = some (w.heap.size + 1))) ∧ Turns x.2.foot w w' := by
  have hA := h.alloc (.cells #[.int .i64 2] 58)
  have hin := in_any hA (x.1.id : Int) hk w.heap.size 1 [2] (by simp) (st_one w 2 _)
  rw [getE_self h.rise, show inV (some x) [2] = .tuple #[.pointer (some ⟨x.2.b, 0, none⟩), .int .i64 0] from if_pos (by rw [hz]; simp)] at hin
  change Calls _ _ #[_, _, .slice _ 1 1] _ _ at hin
  have HI := Lib.hid hin
  have HO := Lib.hid hA.conn.2.2
  obtain ⟨_, k1, k2, k3, k4⟩ := cell_conn hA.conn.1
  have HR := Lib.hid (show BReads (w.alloc (.cells #[.int .i64 2] 58)) Bx A l from hr.keep fun p hp => World.cell?_alloc_lt _ _ p (Nat.lt_of_lt_of_le hp hBx))
  have HL := Lib.hid hlen
  have HCC := Lib.hid hc
  have HBS := Lib.hid (show B ≤ (w.alloc (.cells #[.int .i64 2] 58)).heap.size from Nat.le_trans (h.lt bn (by simp)).1 (Nat.le_trans (Nat.le_of_lt (h.lt bn (by simp)).2) (by simp)))
  have HM := Lib.hid (fun (w2 : World) (v' : Value) ho ht hl => h.sendd (w2 := w2) (v' := v') (l := l) (Turns.alloc w (.cells #[.int .i64 2] 58)) ho ht hl)
  have kf := k4 3
  clear hin hA h hr hlen hz hk hc k4
  go_enter Try.func27, Try.ntmps27
  go_wp2_with fail
  refine (Hid.out HI).mono ?_
  rintro e w1 ⟨rfl, rfl⟩
  go_wp2_with (at_builtin; refine wpList_append_bytesT rfl (.tmp 22) (.tmp 23) rfl B x.2.vs x.1.out rfl HO.out Bx A l c rfl HR.out HCC.out HL.out HBS.out ?_; intro v2 w2 hown2 ht2 hl2; have HM2 := Lib.hid (HM.out w2 v2 hown2 ht2 hl2); obtain ⟨_, _, _, _, f4⟩ := cell_conn HM2.out.2.2; have f4' := f4 3; have f5 := (cell_conn HM2.out.2.2).2.2.2.1; have HOW := Lib.hid hown2; have HL2 := Lib.hid hl2; clear hown2 ht2 hl2 f4; obtain ⟨A5, c5, rfl, _⟩ := HOW.out.reads; clear HOW; generalize (x.1.out ++ l).length = NN at HM2 HL2 ⊢)
  go_ret
  exact ⟨rfl, ⟨_, HM2.out.1, by have := HL2.out; rwa [World.size_alloc] at this⟩, HM2.out.2.1⟩
/-! what is told of a connection -/
def stC (o : Option NE) : Int := match o with | some x => x.1.st | none => 0
def outC (o : Option NE) : List UInt8 := match o with | some x => x.1.out | none => []
def innC (o : Option NE) : List UInt8 := match o with | some x => x.1.inn | none => []
theorem owned_slice {B : Nat} {w : World} {v : Value} {l : List UInt8} (h : Owned B w v l) : ∃ A c, v = .slice A l.length c ∧ BReads w w.heap.size A l ∧ (A = none → c = 0) := by
  rcases h.form with ⟨rfl, rfl⟩ | ⟨g, cap, rfl, _⟩
  · exact ⟨none, 0, rfl, BReads.nil _ _ _, fun _ => rfl⟩
  · obtain ⟨A, c, e, hr, _⟩ := h.reads
    cases e
    exact ⟨_, _, rfl, hr, fun h => by cases h⟩
set_option maxRecDepth 100000 in
set_option maxHeartbeats 1000000 in
theorem look_any {B : Nat} {w : World} {bn bm : Nat} {most last : Int} {L : List NE} (h : NetAt B w bn bm most last L) (k : Int) (hk : (Lit.int .i64 k).wf = true) :
    Calls Try.prog 33 #[.pointer (some ⟨bn, 0, none⟩), .int .i64 k] w fun e w' => (∃ hv va vs, e = .returned (.agg #[hv, .int .i64 (stC (getE L k)), va, vs]) ∧ Owned 0 w va (innC (getE L k)) ∧ Owned 0 w vs (outC (getE L k))) ∧ Turns [] w w' := by
  cases hg : getE L k with
  | none =>
    refine (look_none h k hk hg).mono fun e w' ⟨he, ht⟩ => ⟨⟨_, _, _, he, World.ownsRow_nil _ _ _ _, World.ownsRow_nil _ _ _ _⟩, ht⟩
  | some x =>
    obtain ⟨L1, L2, rfl, rfl⟩ := getE_split hg
    exact (look_some h hk).mono fun e w' ⟨he, ht⟩ => ⟨⟨_, _, _, he, Owned.low h.conn.2.1 (Nat.zero_le _), Owned.low h.conn.2.2 (Nat.zero_le _)⟩, ht⟩
set_option maxRecDepth 100000 in
set_option maxHeartbeats 1000000 in
theorem state_any {B : Nat} {w : World} {bn bm : Nat} {most last : Int} {L : List NE} (h : NetAt B w bn bm most last L) (k : Int) (hk : (Lit.int .i64 k).wf = true) :
    Calls Try.prog 38 #[.pointer (some ⟨bn, 0, none⟩), .int .i64 k] w fun e w' => e = .returned (.int .i64 (stC (getE L k))) ∧ Turns [] w w' := by
  have HL := Lib.hid (look_any h k hk)
  clear h hk
  have hfd := field_1
  go_enter Try.func38, Try.ntmps38
  go_wp2_with fail
  refine (Hid.out HL).mono ?_
  rintro e w1 ⟨⟨hv, va, vs, rfl, ho1, ho2⟩, ht⟩
  have HT := Lib.hid ht
  clear ht ho1 ho2
  go_wp2
  go_ret
  exact ⟨rfl, HT.out⟩
set_option maxRecDepth 100000 in
set_option maxHeartbeats 1000000 in
theorem left_any {B : Nat} {w : World} {bn bm : Nat} {most last : Int} {L : List NE} (h : NetAt B w bn bm most last L) (k : Int) (hk : (Lit.int .i64 k).wf = true) :
    Calls Try.prog 40 #[.pointer (some ⟨bn, 0, none⟩), .int .i64 k] w fun e w' => e = .returned (.int .i64 ((innC (getE L k)).length : Int)) ∧ Turns [] w w' := by
  cases hg : getE L k with
  | none => exact left_none h k hk hg
  | some x =>
    obtain ⟨L1, L2, rfl, rfl⟩ := getE_split hg
    exact left_some h hk
set_option maxRecDepth 100000 in
set_option maxHeartbeats 1000000 in
theorem sent_any {B : Nat} {w : World} {bn bm : Nat} {most last : Int} {L : List NE} (h : NetAt B w bn bm most last L) (k : Int) (hk : (Lit.int .i64 k).wf = true) (hl : (outC (getE L k)).length ≤ 1000000) :
    Calls Try.prog 37 #[.pointer (some ⟨bn, 0, none⟩), .int .i64 k] w fun e w' => (∃ v, e = .returned v ∧ Owned w.heap.size w' v (outC (getE L k))) ∧ Turns [] w w' := by
  have HL := Lib.hid (look_any h k hk)
  have HLN := Lib.hid hl
  clear h hk hl
  have hfd := field_3
  go_enter Try.func37, Try.ntmps37
  go_wp2_with fail
  refine (Hid.out HL).mono ?_
  rintro e w1 ⟨⟨hv, va, vs, rfl, ho1, ho2⟩, ht⟩
  obtain ⟨A, c, rfl, hr, hc⟩ := owned_slice (ho2.turns ht (by simp))
  have HC := Lib.hid (clone_any A _ c w1 hr hc HLN.out)
  have HT := Lib.hid ht
  clear ht ho1 ho2 hr hc
  go_wp2_with fail
  refine HC.out.mono ?_
  rintro e w2 ⟨⟨v, rfl, hov⟩, ht2⟩
  have HOV := Lib.hid (Owned.low hov HT.out.size)
  have HT2 := Lib.hid (HT.out.trans ht2 (by simp))
  clear hov ht2
  obtain ⟨A5, c5, rfl, _⟩ := HOV.out.reads
  go_wp2_with fail
  go_ret
  exact ⟨⟨_, rfl, HOV.out⟩, HT2.out⟩
end Go.Proofs.Ytlelemjmknbnaaa
