/- The document's Parse: plainly. -/
import Derived.Test.YtnkpdnbnheffeaaDoorHeadRSays
import Derived.Test.YtnkpdnbnheffeaaDoorHeadParse
namespace Go.Proofs.YtnkpdnbnheffeaaDoor
open Go.RowKit

/-- Where the version's digit and the number's digits stand. -/
theorem first_places {l : List UInt8} {old : Bool} {st : Nat} (h : firstL l = some (old, st)) : ∃ v x y z : UInt8, l[7]? = some v ∧ (v == 48) = old ∧ l[9]? = some x ∧ l[10]? = some y ∧ l[11]? = some z ∧ digB x = true ∧ digB y = true ∧ digB z = true ∧ st = 100 * (x.toNat - 48) + 10 * (y.toNat - 48) + (z.toNat - 48) := by
  obtain ⟨a, d, t, rfl, hd, -, hs, ha⟩ := firstL_some h
  obtain ⟨x, y, z, rfl, hx, hy, hz⟩ := num3 hd
  have hn : st = 100 * (x.toNat - 48) + 10 * (y.toNat - 48) + (z.toNat - 48) := by
    rw [hs]
    simp [numL]
    omega
  rcases ha with ⟨rfl, rfl⟩ | ⟨rfl, rfl⟩
  · exact ⟨48, x, y, z, rfl, rfl, rfl, rfl, rfl, hx, hy, hz, hn⟩
  · exact ⟨49, x, y, z, rfl, rfl, rfl, rfl, rfl, hx, hy, hz, hn⟩
theorem read_first {l : List UInt8} {old : Bool} {st : Nat} {fs : List Fld} {n : Nat} (h : readL l = .whole old st fs n) : firstL (cutL (l.take 8192)) = some (old, st) := by
  unfold readL readB at h
  split at h
  · split at h
    · cases h
    · rename_i o2 st2 hf
      cases hr : rowsN (l.take 8192).length (cutR (l.take 8192)) [] with
      | part => rw [hr] at h; exact absurd h (partL_no _)
      | bad => rw [hr] at h; cases h
      | whole fs1 r =>
        rw [hr] at h
        cases h
        exact hf
  · exact absurd h (partL_no _)
/-- What the lines tell, as the document has it. -/
theorem tell_says (old : Bool) (st : Nat) (fs : List Fld) : tellL old st fs =
    if agreeL (valuesL tLen fs) = false ∨ (0 < (valuesL tLen fs).length ∧ 0 < (valuesL tCod fs).length) then .inr 11
    else if 0 < (valuesL tCod fs).length ∧ (old = true ∨ 1 < (valuesL tCod fs).length ∨ smallL ((valuesL tCod fs).headD []) ≠ tChunked) then .inr 12
    else .inl ⟨st, if 0 < (valuesL tLen fs).length then (numL ((valuesL tLen fs).headD []) : Int) else -1, decide (0 < (valuesL tCod fs).length),
      (saysL tClose (valuesL tCon fs) || (decide ((if 0 < (valuesL tLen fs).length then (numL ((valuesL tLen fs).headD []) : Int) else -1) < 0) && !decide (0 < (valuesL tCod fs).length))) || (old && !saysL tKeep (valuesL tCon fs))⟩ := by
  unfold tellL
  simp only [closes_says]
  split
  · rfl
  · split
    · rfl
    · congr 2
      generalize decide ((if 0 < (valuesL tLen fs).length then (numL ((valuesL tLen fs).headD []) : Int) else -1) < 0) = p
      generalize decide (0 < (valuesL tCod fs).length) = q
      generalize saysL tClose (valuesL tCon fs) = a
      generalize saysL tKeep (valuesL tCon fs) = b
      cases p <;> cases q <;> cases a <;> cases b <;> cases old <;> rfl
/-- The result's cells and those of the empty head are as they were made. -/
structure RP (w W : World) : Prop where
  rq : RQ w W
  zero : W.heap[w.heap.size + 1]? = some (.cells #[.int .i64 0, .int .i64 0, .bool false, .bool false] 25 (0, 0))
theorem RP.next {w W W' : World} (h : RP w W) (hb : Below W.heap.size W W') : RP w W' := ⟨h.rq.next hb, (hb.block _ (lt_of_block h.zero)).trans h.zero⟩
theorem rp_made (w : World) : RP w ((w.alloc (.cells #[.int .i64 0, .int .i64 0, .bool false, .bool false] 25)).alloc (.cells #[.int .i64 0, .int .i64 0, .bool false, .bool false] 25)) := by
  refine ⟨(rq_made w).next (below_alloc (Nat.le_refl _) _), ?_⟩
  have h := heap_alloc_new (w.alloc (.cells #[.int .i64 0, .int .i64 0, .bool false, .bool false] 25)) (.cells #[.int .i64 0, .int .i64 0, .bool false, .bool false] 25)
  rw [show (w.alloc (.cells #[.int .i64 0, .int .i64 0, .bool false, .bool false] 25)).heap.size = w.heap.size + 1 by simp] at h
  exact h
theorem RP.cells {w W : World} (h : RP w W) : W.cell? ⟨w.heap.size + 1, 0, none⟩ = some (.int .i64 0) ∧ W.cell? ⟨w.heap.size + 1, 1, none⟩ = some (.int .i64 0) ∧ W.cell? ⟨w.heap.size + 1, 2, none⟩ = some (.bool false) ∧ W.cell? ⟨w.heap.size + 1, 3, none⟩ = some (.bool false) ∧ ∀ j, W.frozen? ⟨w.heap.size + 1, j, none⟩ = false := read_cells h.zero
set_option maxRecDepth 100000 in
set_option maxHeartbeats 1000000 in
theorem rparse_short {w : World} {A : Option Addr} {c : Nat} {l : List UInt8} (hr : BReads w w.heap.size A l) (hc : l.length ≤ c) (hn : A = none → c = 0) (hl : l.length ≤ 1000000) (hw : ∀ old st fs m, readL l ≠ .whole old st fs m) :
    Calls Tryd.prog 9 #[.slice A l.length c] w fun e w' => e = .returned (PsV (parseL l)) ∧ Below w.heap.size w w' := by
  have HRD : Hid (∀ W, Hid (Below w.heap.size w W) → Calls Tryd.prog 22 #[.slice A l.length c] W fun e w' => RrP W.heap.size (cutL (l.take 8192)) (readL l) e w' ∧ Below W.heap.size W w') := Lib.hid (fun W hb => rread_any ((hr.below hb.out).more hb.out.size) hc hn (by omega))
  obtain ⟨PL, hPL⟩ : ∃ PL, PL = parseR (readL l) := ⟨_, rfl⟩
  have HPL := Lib.hid hPL
  show Calls _ _ _ _ fun e w' => e = .returned (PsV (parseR (readL l))) ∧ _
  rw [← hPL]
  obtain ⟨n, hnn⟩ : ∃ n, n = l.length := ⟨_, rfl⟩
  rw [← hnn] at HRD ⊢
  clear hPL hr hc hn hl hnn
  have HQ0 := Lib.hid (rp_made w)
  unfold RrP at HRD
  cases hrd : readL l with
  | err e0 =>
    rw [hrd] at HRD HPL
    have HR := Lib.hid (show PL = .err e0 from HPL.out)
    have he := readL_err hrd
    clear hrd HPL
    go_enter Tryd.func9, Tryd.ntmps9
    go_wp2_with fail
    refine (HRD.out _ (Lib.hid HQ0.out.rq.below)).mono ?_
    rintro e w1 ⟨rfl, hb1⟩
    have HQ1 := Lib.hid (HQ0.out.next hb1)
    clear hb1 HRD
    obtain ⟨q0, q1, q2, q3, qf⟩ := HQ1.out.rq.cells
    have f0 := qf 0
    have f1 := qf 1
    have f2 := qf 2
    have f3 := qf 3
    clear qf
    obtain ⟨p0, p1, p2, p3, -⟩ := HQ1.out.cells
    obtain ⟨e0', e1, e2, e3⟩ := set4_cells HQ1.out.rq.head (.int .i64 0) (.int .i64 0) (.bool false) (.bool false)
    have HBB := Lib.hid (HQ1.out.rq.below.trans (set4_below (B := w.heap.size) _ (Nat.le_refl _) (.int .i64 0) (.int .i64 0) (.bool false) (.bool false)))
    unfold set4 at e0' e1 e2 e3 HBB
    rcases he with rfl | rfl | rfl
    · skip
      go_wp2
      exact bodyPost_ret (v := .tuple #[zeroH, .int .i64 0, .int .i64 9]) (by simp [results, Tryd.f9, go_sem, e0', e1, e2, e3, zeroH]) rfl ⟨by rw [HR.out]; rfl, by first | exact HBB.out | exact HBB.out.drew⟩
    · skip
      go_wp2
      exact bodyPost_ret (v := .tuple #[zeroH, .int .i64 0, .int .i64 10]) (by simp [results, Tryd.f9, go_sem, e0', e1, e2, e3, zeroH]) rfl ⟨by rw [HR.out]; rfl, by first | exact HBB.out | exact HBB.out.drew⟩
    · skip
      go_wp2
      exact bodyPost_ret (v := .tuple #[zeroH, .int .i64 0, .int .i64 13]) (by simp [results, Tryd.f9, go_sem, e0', e1, e2, e3, zeroH]) rfl ⟨by rw [HR.out]; rfl, by first | exact HBB.out | exact HBB.out.drew⟩
  | part =>
    rw [hrd] at HRD HPL
    have HR := Lib.hid (show PL = .part from HPL.out)
    clear hrd HPL
    go_enter Tryd.func9, Tryd.ntmps9
    go_wp2_with fail
    refine (HRD.out _ (Lib.hid HQ0.out.rq.below)).mono ?_
    rintro e w1 ⟨rfl, hb1⟩
    have HQ1 := Lib.hid (HQ0.out.next hb1)
    clear hb1 HRD
    obtain ⟨q0, q1, q2, q3, qf⟩ := HQ1.out.rq.cells
    have f0 := qf 0
    have f1 := qf 1
    have f2 := qf 2
    have f3 := qf 3
    clear qf
    obtain ⟨p0, p1, p2, p3, -⟩ := HQ1.out.cells
    obtain ⟨e0', e1, e2, e3⟩ := set4_cells HQ1.out.rq.head (.int .i64 0) (.int .i64 0) (.bool false) (.bool false)
    have HBB := Lib.hid (HQ1.out.rq.below.trans (set4_below (B := w.heap.size) _ (Nat.le_refl _) (.int .i64 0) (.int .i64 0) (.bool false) (.bool false)))
    unfold set4 at e0' e1 e2 e3 HBB
    go_wp2
    exact bodyPost_ret (v := .tuple #[zeroH, .int .i64 0, .int .i64 0]) (by simp [results, Tryd.f9, go_sem, e0', e1, e2, e3, zeroH]) rfl ⟨by rw [HR.out]; rfl, by first | exact HBB.out | exact HBB.out.drew⟩
  | whole old st fs m => exact absurd hrd (hw _ _ _ _)
end Go.Proofs.YtnkpdnbnheffeaaDoor
