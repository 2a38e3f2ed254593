/- Same: two nets that differ in what comes before their connections. -/
import Derived.Test.YtlelemjmknbnaaaNetSame0
namespace Go.Proofs.Ytlelemjmknbnaaa
open Go.RowKit Go.Maps Go.Sort Go.Shelf
attribute [local go_sem] Oper.semAt_some

set_option maxRecDepth 100000 in
set_option maxHeartbeats 2000000 in
theorem same_no {B B2 : Nat} {w : World} {bn bm bn2 bm2 : Nat} {most last last2 : Int} {L L2 : List NE} (h : NetAt B w bn bm most last L) (h2 : NetAt B2 w bn2 bm2 most last2 L2) (hno : last ≠ last2 ∨ L.length ≠ L2.length) :
    Calls Try.prog 11 #[.pointer (some ⟨bn, 0, none⟩), .pointer (some ⟨bn2, 0, none⟩)] w fun e w' => e = .returned (.bool false) ∧ Below w.heap.size w w' := by
  refine (callsIn_wide (n := 6)).1 ?_
  refine callsIn_of_wp_marks Try.func11 rfl trivial ?_ rfl
  simp only [Try.ntmps11, List.size_toArray, List.length_cons, List.length_nil, Nat.reduceAdd, Nat.reduceSub, Array.replicate_succ, Array.replicate_zero, List.push_toArray, List.append_toArray, List.nil_append, List.cons_append]
  refine wpIn_wide.2 ?_
  go_wp2
  obtain ⟨W0, hW0⟩ : ∃ W0, ((w.alloc (.cells #[.pointer (some ⟨bn, 0, none⟩)] 25)).alloc (.cells #[.pointer (some ⟨bn2, 0, none⟩)] 25)).alloc (.cells #[.bool false] 4) = W0 := ⟨_, rfl⟩
  have hs0 : W0.heap.size = w.heap.size + 3 := by rw [← hW0]; simp
  have hT0 : Turns [] w W0 := by rw [← hW0]; exact ((Turns.alloc (F := []) w _).trans (Turns.alloc (F := []) _ _) (by simp)).trans (Turns.alloc (F := []) _ _) (by simp)
  have b2 : Boxed W0 w.heap.size 25 (.pointer (some ⟨bn, 0, none⟩)) := by rw [← hW0]; exact ((Boxed.new w _ _).alloc _).alloc _
  have b3 : Boxed W0 (w.heap.size + 1) 25 (.pointer (some ⟨bn2, 0, none⟩)) := by
    rw [← hW0]
    have := Boxed.new (w.alloc (.cells #[.pointer (some ⟨bn, 0, none⟩)] 25)) 25 (.pointer (some ⟨bn2, 0, none⟩))
    rw [World.size_alloc] at this
    exact this.alloc _
  have b4 : Boxed W0 (w.heap.size + 1 + 1) 4 (.bool false) := by
    rw [← hW0]
    have := Boxed.new ((w.alloc (.cells #[.pointer (some ⟨bn, 0, none⟩)] 25)).alloc (.cells #[.pointer (some ⟨bn2, 0, none⟩)] 25)) 4 (.bool false)
    rw [World.size_alloc, World.size_alloc] at this
    exact this
  have o0 := h.kept hT0 (by simp)
  have o2 := h2.kept hT0 (by simp)
  have c0 := o0.c0
  have c1 := o0.c1
  have d0 := o2.c0
  have d1 := o2.c1
  have p2 := b2.cell
  have p3 := b3.cell
  have p4 := b4.cell
  have f4 := b4.frozen
  have hmm : ((most : Int) != most) = false := bne_self_eq_false _
  have HL : Hid (∀ (p n : Nat) (W : World) (q : Nat), (p = bn ∧ n = L.length) ∨ (p = bn2 ∧ n = L2.length) → W = W0.drewN q → Calls Try.prog 35 #[.pointer (some ⟨p, 0, none⟩)] W fun e w' => e = .returned (.int .i64 (n : Int)) ∧ w' = W) := Lib.hid (by
    rintro p n W q (⟨rfl, rfl⟩ | ⟨rfl, rfl⟩) rfl
    · exact len_any (o0.kept ((Turns.refl [] W0).drewN q) (by simp))
    · exact len_any (o2.kept ((Turns.refl [] W0).drewN q) (by simp)))
  have HB0 := Lib.hid (show Below w.heap.size w W0 from hT0.below (by simp) (Nat.le_refl _))
  have HS0 := Lib.hid hs0
  obtain ⟨N1, hN1⟩ : ∃ n, n = L.length := ⟨_, rfl⟩
  obtain ⟨N2, hN2⟩ : ∃ n, n = L2.length := ⟨_, rfl⟩
  rw [← hN1, ← hN2] at HL hno
  rw [hW0]
  clear h h2 o0 o2 b2 b3 b4 hT0 hs0 hW0 hN1 hN2
  by_cases hl : last = last2
  · have hN : ((N1 : Int) != (N2 : Int)) = true := by rw [bne_iff_ne]; omega
    have hll : ((last : Int) != last2) = false := by rw [bne_eq_false_iff_eq]; exact hl
    clear hl hno
    go_quiet ((go_at_call 35; exact Calls.quiet_of_same (HL.out _ _ _ _ (by first | exact .inl ⟨rfl, rfl⟩ | exact .inr ⟨rfl, rfl⟩) rfl)))
    go_wp2
    refine ⟨.bool false, ?_, rfl, ?_⟩
    · have hc5 := World.cell?_setCell_same' (W0.drewN nq) ⟨w.heap.size + 1 + 1, 0, none⟩ (.bool false) (by rw [show (W0.drewN nq).cell? ⟨w.heap.size + 1 + 1, 0, none⟩ = some (.bool false) from p4]; rfl)
      simp [results, Try.f11, go_sem, hc5]
    · have hb := HB0.out.trans (((Turns.refl [] W0).drewN nq).below (B := w.heap.size) (by simp) (by have := HS0.out; omega))
      exact hb.setCell (p := ⟨w.heap.size + 1 + 1, 0, none⟩) (by simp; omega) _
  · have hll : ((last : Int) != last2) = true := by rw [bne_iff_ne]; exact hl
    clear hl hno
    go_quiet ((go_at_call 35; exact Calls.quiet_of_same (HL.out _ _ _ _ (by first | exact .inl ⟨rfl, rfl⟩ | exact .inr ⟨rfl, rfl⟩) rfl)))
    go_wp2
    refine ⟨.bool false, ?_, rfl, ?_⟩
    · have hc5 := World.cell?_setCell_same' (W0.drewN nq) ⟨w.heap.size + 1 + 1, 0, none⟩ (.bool false) (by rw [show (W0.drewN nq).cell? ⟨w.heap.size + 1 + 1, 0, none⟩ = some (.bool false) from p4]; rfl)
      simp [results, Try.f11, go_sem, hc5]
    · have hb := HB0.out.trans (((Turns.refl [] W0).drewN nq).below (B := w.heap.size) (by simp) (by have := HS0.out; omega))
      exact hb.setCell (p := ⟨w.heap.size + 1 + 1, 0, none⟩) (by simp; omega) _
end Go.Proofs.Ytlelemjmknbnaaa
