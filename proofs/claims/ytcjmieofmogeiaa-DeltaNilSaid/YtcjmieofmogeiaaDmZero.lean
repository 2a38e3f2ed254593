/- A zero meter: what it counts, Put. -/
import Derived.Test.YtcjmieofmogeiaaDmPut
import Derived.Test.YtcjmieofmogeiaaSrZeroP
namespace Go.Proofs.Ytcjmieofmogeiaa
open Go.RowKit

/-- A zero meter's block, its counts told. -/
def HeadZ (w : World) (z : Nat) (T : Tl) : Prop := w.heap[z]? = some (.cells (List.toArray (.int .i64 0 :: .map none :: T.cells)) 68 (0, 0))
section
variable {w w' : World} {z : Nat} {T T' : Tl}
theorem HeadZ.zs (h : HeadZ w z T) : @Zs (meterHd T) w z := h
theorem HeadZ.pre (h : HeadZ w z T) (ht : Turns [] w w') : HeadZ w' z T := (ht.block z (lt_of_block h) (by simp)).trans h
theorem HeadZ.cells (h : HeadZ w z T) : w.cell? ⟨z, 2, none⟩ = some (.int .i64 (T.p : Int)) ∧ w.cell? ⟨z, 3, none⟩ = some (.int .i64 (T.a : Int)) ∧ w.cell? ⟨z, 4, none⟩ = some (.int .i64 (T.o : Int)) ∧ w.cell? ⟨z, 5, none⟩ = some (.int .i64 (T.t : Int)) ∧ w.cell? ⟨z, 6, none⟩ = some (.int .i64 (T.f : Int)) ∧ w.cell? ⟨z, 7, none⟩ = some (.int .i64 (T.g : Int)) ∧ w.cell? ⟨z, 8, none⟩ = some (.int .i64 (T.r : Int)) ∧ ∀ j, w.frozen? ⟨z, j, none⟩ = false := by
  unfold HeadZ Tl.cells at h
  refine ⟨?_, ?_, ?_, ?_, ?_, ?_, ?_, ?_⟩
  all_goals first | (simp [World.cell?, h]; done) | (intro j; simp [World.frozen?, h])
theorem HeadZ.set (h : HeadZ w z T) (T' : Tl) (j : Nat) (n : Int) (he : T.cells.set j (.int .i64 n) = T'.cells) : HeadZ (w.setCell ⟨z, j + 2, none⟩ (.int .i64 n)) z T' := by
  have := heap_setCell_same w z (j + 2) _ _ (.int .i64 n) h
  unfold HeadZ
  rw [this]
  rw [List.setIfInBounds_toArray]
  simp only [List.set_cons_succ, he]
end
/-- How far a zero meter's Put has come. -/
structure ZJ (w : World) (z bm : Nat) (T : Tl) (S : List Sn) (o : Value) (W : World) : Prop where
  head : HeadZ W z T
  seen : nK.Own w.heap.size W o S
  vm : ∃ n, MapG verdKD vread W bm (cntF z) n
  zlt : z < w.heap.size
  tt : Turns [z] w W
section
variable {w W W' : World} {z bm : Nat} {T T' : Tl} {S : List Sn} {o : Value}
theorem ZJ.next (h : ZJ w z bm T S o W) (ht : Turns [] W W') : ZJ w z bm T S o W' := by
  obtain ⟨n, hn⟩ := h.vm
  exact ⟨h.head.pre ht, h.seen.turns ht (by simp), ⟨n, hn.turns ht (by simp)⟩, h.zlt, h.tt.trans ht (by simp)⟩
theorem ZJ.write (h : ZJ w z bm T S o W) (hh : HeadZ W' z T') (ht : Turns [z] W W') : ZJ w z bm T' S o W' := by
  obtain ⟨n, hn⟩ := h.vm
  have hhd := h.head
  have hz := h.zlt
  refine ⟨hh, h.seen.turns ht fun g hg hm => ?_, ⟨n, hn.turns ht fun hm => ?_⟩, h.zlt, h.tt.then ht⟩
  · rw [List.mem_singleton] at hm
    have := (h.seen.foot g (by unfold ownB; rw [hg]; simp)).1
    omega
  · rw [List.mem_singleton] at hm
    subst hm
    obtain ⟨es, cl, hc⟩ := hn.blk
    unfold HeadZ at hhd
    rw [hc] at hhd
    cases hhd
theorem ZJ.look4 (h : ZJ w z bm T S o W) : (Instr.lookup 78 (.map (some bm)) (.int .i64 4) false).run Try.prog W = .ok (.pointer (some ⟨z, 6, none⟩)) W := by
  obtain ⟨n, hn⟩ := h.vm
  exact hn.lookup (t := 78) (e := 81) verd_keyed Try.underlying78 vread_inj (z := .pointer none) (by kernel_rfl) (zd := .nil) (zp := []) rfl (x := 4) (by
    show (Lit.int .i64 4).wf = true
    rfl)
end
def tZ (k : Nat) : Tl := if k = 0 then .zero else ⟨1, 0, 0, 0, 1, 0, 0⟩
set_option maxRecDepth 100000 in
set_option maxHeartbeats 8000000 in
/-- One sample to a zero meter: there is no room. -/
theorem putMZ_any {w : World} {z g : Nat} (h : HeadZ w z .zero) (owner : Int) (x : Smp) (hx : NmOk x.name) (hg : w.heap[g]? = some (.cells #[.string x.name, .int .i64 x.val, .int .i64 x.tm, .bool x.cnt] 52 (0, 0))) :
    Calls Try.prog 16 #[ptr z, .int .i64 owner, .slice (some ⟨g, 0, none⟩) 1 1] w fun e w' => ∃ o bm, e = .returned (.tuple #[o, .slice none 0 0]) ∧ ZJ w z bm (tZ 1) [⟨x, 4, false, 0⟩] o w' := by
  have HP := Lib.hid (putZ h.zs owner x hx hg)
  have H := Lib.hid h
  clear h hx hg
  go_enter Try.func16, Try.ntmps16
  go_wp2_with fail
  refine HP.out.mono ?_
  rintro e w1 ⟨⟨o, rfl, ho1⟩, ht1⟩
  have HO1 := Lib.hid ho1
  have HT1 := Lib.hid ht1
  obtain ⟨A1, c1, rfl, -, -, -⟩ := ho1.reads
  clear HP ho1 ht1
  simp only [List.length_cons, List.length_nil, Nat.zero_add] at HO1 ⊢
  go_wp2_with fail
  refine (byVerd_any z 2 w1).mono ?_
  rintro e w2 ⟨bm, n, rfl, hbm, hM, ht2⟩
  have HM : Hid (ZJ w z bm (tZ 0) [⟨x, 4, false, 0⟩] (.slice A1 1 c1) w2) := Lib.hid ⟨(H.out.pre HT1.out).pre ht2, HO1.out.turns ht2 (by simp), ⟨n, hM⟩, lt_of_block H.out, (HT1.out.then ht2).mono (by simp)⟩
  clear hbm hM ht2 HO1 HT1
  go_wp2_with fail
  go_loopw [10, 27] (fun og iv wr => ∃ k : Nat, k ≤ 1 ∧ og = .slice none 0 0 ∧ iv = .int .i64 (k : Int) ∧ Hid (ZJ w z bm (tZ k) [⟨x, 4, false, 0⟩] (.slice A1 1 c1) wr)) (fun _ iv _ => 1 - (intOf iv).toNat)
  case atStart => exact ⟨0, Nat.zero_le _, rfl, rfl, HM⟩
  case round =>
    obtain ⟨k, hk, rfl, rfl, HX⟩ := hrel
    obtain rfl | rfl : k = 0 ∨ k = 1 := by omega
    · obtain ⟨A1', c1', e1, hr1, -⟩ := HX.out.seen.reads
      obtain ⟨e11, -, e13⟩ := Value.slice.inj e1
      subst e11 e13
      obtain ⟨g5, o5, rfl, hg5, hcl5⟩ := hr1.at nOk (by simp)
      have hc5 := hcl5 0 _ rfl
      have k0 := hc5 0 _ rfl
      have k1 := hc5 1 _ rfl
      have k2 := hc5 2 _ rfl
      have k3 := hc5 3 _ rfl
      have k4 := hc5 4 _ rfl
      have k5 := hc5 5 _ rfl
      have k6 := hc5 6 _ rfl
      simp only [nK, Nat.add_zero, Nat.zero_mul, ← Nat.add_assoc] at k0 k1 k2 k3 k4 k5 k6
      clear e1 hr1 hg5 hcl5 hc5
      go_upto_region 9 with fail
      obtain ⟨bx, hbxe⟩ : ∃ bx, bx = wr.heap.size := ⟨_, rfl⟩
      have HX2 := Lib.hid (HX.out.next (Turns.alloc (F := []) wr (.cells #[.string x.name, .int .i64 x.val, .int .i64 x.tm, .bool x.cnt, .int .i64 4, .bool false, .int .i64 0] 71)))
      have hbx := heap_alloc_new wr (.cells #[.string x.name, .int .i64 x.val, .int .i64 x.tm, .bool x.cnt, .int .i64 4, .bool false, .int .i64 0] 71)
      have hrm : z < wr.heap.size := lt_of_block HX.out.head
      rw [← hbxe] at hbx hrm ⊢
      generalize wr.alloc (.cells #[.string x.name, .int .i64 x.val, .int .i64 x.tm, .bool x.cnt, .int .i64 4, .bool false, .int .i64 0] 71) = w2 at HX2 hbx ⊢
      have HC3 : Hid (∀ W : World, Turns [z] w2 W → W.cell? ⟨bx, 3, none⟩ = some (.bool x.cnt) ∧ W.cell? ⟨bx, 4, none⟩ = some (.int .i64 4) ∧ W.cell? ⟨bx, 5, none⟩ = some (.bool false)) := Lib.hid (fun W hW => by
        have h := (hW.block bx (lt_of_block hbx) (by simp; omega)).trans hbx
        refine ⟨?_, ?_, ?_⟩ <;> simp [World.cell?, h])
      have hbr : ¬ bx = z := by omega
      have hrb : ¬ z = bx := by omega
      obtain ⟨t1, -, -, -, -, -, -, tf⟩ := HX2.out.head.cells
      clear k0 k1 k2 k3 k4 k5 k6 HX hbx hrm hbxe
      rw [show ((tZ 0).p : Int) = 0 from rfl] at t1
      go_upto_region 10 with fail
      have HX3 := Lib.hid (HX2.out.write (HX2.out.head.set ⟨1, 0, 0, 0, 0, 0, 0⟩ 0 1 (by simp [Tl.cells, tZ, Tl.zero])) (Turns.setCell (F := [z]) w2 ⟨z, 0 + 2, none⟩ (.int .i64 1) (by simp)))
      have HT3 := Lib.hid (Turns.setCell (F := [z]) w2 ⟨z, 0 + 2, none⟩ (.int .i64 1) (by simp))
      simp only [Nat.zero_add] at HX3 HT3
      generalize w2.setCell ⟨z, 2, none⟩ (.int .i64 1) = w3 at HX3 HT3 ⊢
      clear HX2 t1 tf
      have hlk := HX3.out.look4
      obtain ⟨-, -, -, -, t6, -, -, tf⟩ := HX3.out.head.cells
      have HX4 := Lib.hid (HX3.out.write (HX3.out.head.set (tZ 1) 4 1 (by simp [Tl.cells, tZ])) (Turns.setCell (F := [z]) w3 ⟨z, 4 + 2, none⟩ (.int .i64 1) (by simp)))
      have HT4 := Lib.hid (HT3.out.then (Turns.setCell (F := [z]) w3 ⟨z, 4 + 2, none⟩ (.int .i64 1) (by simp)))
      simp only [Nat.reduceAdd] at HX4 HT4
      obtain ⟨k3, k4, k5⟩ := HC3.out w3 HT3.out
      go_upto_region 11 with fail
      generalize w3.setCell ⟨z, 6, none⟩ (.int .i64 1) = w4 at HX4 HT4 ⊢
      clear k3 k4 k5 hlk t6 tf HX3 HT3
      obtain ⟨k3, k4, k5⟩ := HC3.out w4 HT4.out
      go_wp2_with fail
      go_roundw
      case rel => exact ⟨1, by omega, rfl, rfl, HX4⟩
      case measure => simp [intOf]
    · go_wp2_with fail
      go_ret2
      exact ⟨_, _, rfl, HX.out⟩
end Go.Proofs.Ytcjmieofmogeiaa
