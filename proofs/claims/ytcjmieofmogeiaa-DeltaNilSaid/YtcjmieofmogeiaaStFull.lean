/- The document's one: a sample of a new series. -/
import Derived.Test.YtcjmieofmogeiaaStOne
namespace Go.Proofs.Ytcjmieofmogeiaa
open Go.RowKit

theorem Turns.drew0 {w : World} {W : World} (h : Turns [] w W) : Turns [] w W.drew := ⟨h.os, h.tape, h.output, h.size, h.block⟩
theorem Turns.drewN0 {F : List Nat} {w w' : World} (h : Turns F w w') (n : Nat) : Turns F w (w'.drewN n) := ⟨h.os, h.tape, h.output, h.size, h.block⟩
section
variable {B : Nat} {w : World} {rv : Nat} {v : Value} {most : Nat} {L : List One}
set_option maxRecDepth 100000 in
set_option maxHeartbeats 4000000 in
theorem rone_full (h : RefS B w rv v most L) (hB : B ≤ w.heap.size) (hL : L.length ≤ 1000000) (owner : Int) (x : Smp) (hi : ofN x.name L = none) (hm : most ≤ L.length) :
    Calls Try.prog 43 #[.pointer (some ⟨rv, 0, none⟩), .int .i64 owner, x.val'] w (OneR B w rv v most (oneP most owner x L)) := by
  have H := Lib.hid h
  have HO : Hid (∀ W, Turns [] w W → Calls Try.prog 49 #[.pointer (some ⟨rv, 0, none⟩), .string x.name] W fun e w' => e = .returned (.int .i64 (-1)) ∧ W = w') := Lib.hid (fun W ht => by
    have := rofS_any (H.out.pre ht) hL x.name
    rw [hi] at this
    exact this)
  have HE := Lib.hid (show oneP most owner x L = (⟨x, 4, false, 0⟩, L) by unfold oneP; rw [hi]; simp only; rw [if_pos hm])
  obtain ⟨A, c, hv, _⟩ := h.form
  have HBW := Lib.hid hB
  have HLW := Lib.hid (show rv < w.heap.size from h.lt)
  have HOV := Lib.hid (show ∀ j ∈ ownB v, j < w.heap.size from fun j hj => (h.own.foot j hj).2)
  have HN := Lib.hid (OneB.new w x)
  have HV := Lib.hid hv
  have f1 : decide ((most : Int) ≤ (L.length : Int)) = true := by rw [decide_eq_true_eq]; omega
  have f2 : (most : Int) ≤ (L.length : Int) := by omega
  have f5 : (L.length : Int) ≤ 1000000 := by omega
  obtain ⟨q, hq⟩ : ∃ q, q = oneP most owner x L := ⟨_, rfl⟩
  rw [← hq] at HE ⊢
  clear hq h hL hi hm hv hB
  unfold Smp.val'
  go_enter Try.func43, Try.ntmps43
  go_upto_region 1 with fail
  generalize (w.alloc (.cells #[.string x.name, .int .i64 x.val, .int .i64 x.tm, .bool x.cnt] 52)).alloc (.cells #[.string ⟨#[]⟩, .int .i64 0, .int .i64 0, .bool false, .int .i64 0, .bool false, .int .i64 0] 71) = W0 at HN ⊢
  obtain ⟨x0, x1, x2, x3, z0, z1, z2, z3, z4, z5, z6, zf⟩ := HN.out.facts
  go_wp2_with fail
  refine (HO.out _ HN.out.old).mono ?_
  rintro e w1 ⟨rfl, rfl⟩
  have HN1 := Lib.hid (HN.out.next (Turns.alloc (F := []) W0 (.cells #[.string x.name, .int .i64 x.val, .int .i64 x.tm, .bool x.cnt, .bool true, .int .i64 owner] 88)) (by simp))
  obtain ⟨y0, y1, y2, y3, u0, u1, u2, u3, u4, u5, u6, uf⟩ := HN1.out.facts
  obtain ⟨r0, r1, _⟩ := (H.out.pre HN1.out.old).cells
  rw [HV.out] at r0
  have HX := Lib.hid (fun n => one_fin (w := w) ⟨x, 4, false, 0⟩ (H.out.pre (HN1.out.old.drewN0 n)) HBW.out (HN1.out.old.drewN0 n) (by simp) (fun j hj => .inl hj) HLW.out HOV.out)
  have HFU := Lib.hid (fun n => putN_full (W := (W0.alloc (.cells #[.string x.name, .int .i64 x.val, .int .i64 x.tm, .bool x.cnt, .bool true, .int .i64 owner] 88)).drewN n) ⟨x, 4, false, 0⟩ HN1.out.rb)
  unfold putN at HX HFU
  simp only at HX HFU
  go_wp2_with fail
  go_quiet (fail)
  go_wp2
  refine bodyPost_ret (results_cell_row (P := Try.prog) rfl _ _ (w.heap.size + 1) 71 #[.string x.name, .int .i64 x.val, .int .i64 x.tm, .bool x.cnt, .int .i64 4, .bool false, .int .i64 0] (0, 0) _ rfl (HFU.out _) seen_struct rfl (by kernel_rfl)) rfl ?_
  rw [HE.out]
  exact HX.out _
end
end Go.Proofs.Ytcjmieofmogeiaa
