/- Same: a zero net and one for none. -/
import Derived.Test.YtlelemjmknbnaaaNetNilB
namespace Go.Proofs.Ytlelemjmknbnaaa
open Go.RowKit Go.Maps Go.Sort Go.Shelf
attribute [local go_sem] Oper.semAt_some

set_option maxRecDepth 100000 in
set_option maxHeartbeats 1000000 in
theorem len_any {B : Nat} {w : World} {bn bm : Nat} {most last : Int} {L : List NE} (h : NetAt B w bn bm most last L) : Calls Try.prog 35 #[.pointer (some ⟨bn, 0, none⟩)] w fun e w' => e = .returned (.int .i64 (L.length : Int)) ∧ w' = w := by
  have c2 := h.c2
  obtain ⟨n, D, ho, hn, hk⟩ := h.hmap
  have hlen0 : ∀ ty, (Builtin.len_ #[45] ty #[.map (some bm)]).run Try.prog w = .ok (.int .i64 (L.length : Int)) w := fun ty => by
    rw [ho.len Try.underlying45 ty, hk.size]
  clear h ho hk hn
  go_enter Try.func35, Try.ntmps35
  go_wp2
  go_ret
  exact ⟨rfl, rfl⟩
set_option maxRecDepth 100000 in
set_option maxHeartbeats 1000000 in
theorem zero_len (w : World) (z : Nat) (h : ZeroAt w z) : Calls Try.prog 35 #[.pointer (some ⟨z, 0, none⟩)] w fun e w' => e = .returned (.int .i64 0) ∧ w' = w := by
  obtain ⟨c0, c1, c2⟩ := h.cells
  have hlen0 : ∀ ty, (Builtin.len_ #[45] ty #[.map none]).run Try.prog w = .ok (.int .i64 0) w := fun ty => Maps.len_nil Try.underlying45 ty
  clear h
  go_enter Try.func35, Try.ntmps35
  go_wp2
  go_ret
  exact ⟨rfl, rfl⟩
set_option maxRecDepth 100000 in
set_option maxHeartbeats 400000 in
theorem zero_same {B : Nat} {w : World} {z bn bm : Nat} (h : ZeroAt w z) (ho : NetAt B w bn bm 0 0 []) : Calls Try.prog 11 #[.pointer (some ⟨z, 0, none⟩), .pointer (some ⟨bn, 0, none⟩)] w fun e w' => e = .returned (.bool true) ∧ Below w.heap.size w w' := by
  refine (callsIn_wide (n := 6)).1 ?_
  refine callsIn_of_wp_marks Try.func11 rfl trivial ?_ rfl
  simp only [Try.ntmps11, List.size_toArray, List.length_cons, List.length_nil, Nat.reduceAdd, Nat.reduceSub, Array.replicate_succ, Array.replicate_zero, List.push_toArray, List.append_toArray, List.nil_append, List.cons_append]
  refine wpIn_wide.2 ?_
  go_wp2
  obtain ⟨W0, hW0⟩ : ∃ W0, ((w.alloc (.cells #[.pointer (some ⟨z, 0, none⟩)] 25)).alloc (.cells #[.pointer (some ⟨bn, 0, none⟩)] 25)).alloc (.cells #[.bool false] 4) = W0 := ⟨_, rfl⟩
  have hs0 : W0.heap.size = w.heap.size + 3 := by rw [← hW0]; simp
  have hB0 : Below w.heap.size w W0 := by rw [← hW0]; exact (((Below.refl _ w).alloc (Nat.le_refl _) _).alloc (by simp) _).alloc (by simp; omega) _
  have b2 : Boxed W0 w.heap.size 25 (.pointer (some ⟨z, 0, none⟩)) := by rw [← hW0]; exact ((Boxed.new w _ _).alloc _).alloc _
  have b3 : Boxed W0 (w.heap.size + 1) 25 (.pointer (some ⟨bn, 0, none⟩)) := by
    rw [← hW0]
    have := Boxed.new (w.alloc (.cells #[.pointer (some ⟨z, 0, none⟩)] 25)) 25 (.pointer (some ⟨bn, 0, none⟩))
    rw [World.size_alloc] at this
    exact this.alloc _
  have b4 : Boxed W0 (w.heap.size + 1 + 1) 4 (.bool false) := by
    rw [← hW0]
    have := Boxed.new ((w.alloc (.cells #[.pointer (some ⟨z, 0, none⟩)] 25)).alloc (.cells #[.pointer (some ⟨bn, 0, none⟩)] 25)) 4 (.bool false)
    rw [World.size_alloc, World.size_alloc] at this
    exact this
  have z0 : ZeroAt W0 z := h.below hB0 (lt_of_block h)
  have o0 : NetAt B W0 bn bm 0 0 [] := ho.kept (Turns.of_below hB0 (Nat.le_refl _)) (by simp)
  obtain ⟨c0, c1, c2⟩ := z0.cells
  have d0 := o0.c0
  have d1 := o0.c1
  have p2 := b2.cell
  have p3 := b3.cell
  have HL : Hid (∀ (p : Nat) (W : World) (q : Nat), p = z ∨ p = bn → W = W0.drewN q → Calls Try.prog 35 #[.pointer (some ⟨p, 0, none⟩)] W fun e w' => e = .returned (.int .i64 0) ∧ w' = W) := Lib.hid (by
    rintro p W q (rfl | rfl) rfl
    · exact zero_len (W0.drewN q) _ z0
    · exact len_any (w := W0.drewN q) (o0.kept ((Turns.refl [] W0).drewN q) (by simp)))
  have HS := Lib.hid (And.intro z0 (And.intro o0 (And.intro hB0 (And.intro b4 hs0))))
  rw [hW0]
  clear h ho z0 o0 b2 b3 b4 hB0 hs0 hW0
  go_quiet ((go_at_call 35; exact Calls.quiet_of_same (HL.out _ _ _ (by first | exact .inl rfl | exact .inr rfl) rfl)))
  have HA := Lib.hid (zero_all (W0.drewN nq) z HS.out.1)
  go_wp2_with fail
  refine HA.out.mono ?_
  rintro e w1 ⟨⟨bs, rfl, hbs, a, hca⟩, hb⟩
  have HB := Lib.hid hb
  clear hb
  go_wp2_with fail
  have bR : Boxed w1 (w.heap.size + 1 + 1) 4 (.bool false) := (HB.out.block _ (by have := HS.out.2.2.2.1.lt; simpa using this)).trans HS.out.2.2.2.1
  have HW := Lib.hid (show Below w.heap.size w w1 from HS.out.2.2.1.trans (((Turns.refl [] W0).drewN nq).below (B := w.heap.size) (by simp) (by have := HS.out.2.2.2.2; omega) |>.trans (HB.out.mono (by have := HS.out.2.2.2.2; simp; omega))))
  refine (wpIn_wide (n := 6)).1 ?_
  refine' wpIn_rangeFunc_ownF (F := Fence.wide) (n := 6) rfl (by omega) (gf := 51) (lb := #[.pointer (some ⟨bs, 0, none⟩)]) rfl trivial (enters_of Try.func51 (by kernel_rfl) rfl)
    (none_stops Fence.wide 5 trivial rfl bs w1.heap.size a 0 w1 hbs hca) belowK_t (belowK_b (Nat.le_refl _)) (Below.refl _ _) (fun _ => rfl)
    (fun _ W => (W.cell? ⟨w.heap.size + 1 + 1, 0, none⟩ = some (.bool false) ∧ W.frozen? ⟨w.heap.size + 1 + 1, 0, none⟩ = false) ∧ Below w.heap.size w W)
    (fun _ _ _ => False)
    (OwnFrom.and (Own.from (fun s A B row hs hg hr => ⟨cell_kept hs.1 hg hr, (frozen_kept hs.1 hg hr).trans hs.2⟩) _) (ownFrom_below (Nat.le_refl _) HW.out.size))
    (fun _ _ _ _ _ hs _ _ => hs.elim)
    ⟨⟨bR.cell, bR.frozen⟩, HW.out⟩
    _ ?assign ?body ?done ?stop
  case assign =>
    intro l x W K hK
    gi_wp2
    exact hK
  case body =>
    rintro l pre x W _ hlt
    exact absurd hlt (Nat.not_lt_zero _)
  case done =>
    rintro D ys W hD rfl ⟨⟨hcr, hfr⟩, hB⟩ hK
    gi_wp2
    go_wp2
    have hK' := (KeepsOthers.setCell W ⟨w.heap.size + 1 + 1, 0, none⟩ (.bool true)).same D _ hK rfl
    refine ⟨by simp, .inl ⟨_, _, rfl, run_takeDeferred hK', ?_⟩⟩
    have hc5 := cell_kept (World.cell?_setCell_same' W ⟨w.heap.size + 1 + 1, 0, none⟩ (.bool true) (by rw [hcr]; rfl)) (grownBy_putObj' _ D (.deferred none)) (fun r e => by cases e; exact ⟨_, hK', rfl⟩)
    refine ⟨.bool true, ?_, rfl, (hB.setCell (p := ⟨w.heap.size + 1 + 1, 0, none⟩) (by simp; omega) _).trans (belowK_b (w := w) (Nat.le_refl _) _ D _ _ (by have := HW.out.size; omega) hK' rfl rfl)⟩
    simp [results, Try.f11, go_sem, hc5]
  case stop =>
    rintro D c pre W _ _ h _
    exact h.elim
end Go.Proofs.Ytlelemjmknbnaaa
