/- The law's walk: what a net that is not there, and a zero one, answer. -/
import Derived.Test.YtpdmmnhmnmlogaaNetSame0
namespace Go.Proofs.Ytpdmmnhmnmlogaa
open Go.RowKit Go.Maps Go.Sort Go.Shelf
attribute [local go_sem] Oper.semAt_some

theorem below_step {B : Nat} {w w1 w2 : World} (h : Below B w w1) (h2 : Below w1.heap.size w1 w2) (hB : B ≤ w.heap.size) : Below B w w2 := h.trans (h2.mono (Nat.le_trans hB h.size))
set_option maxRecDepth 100000 in
set_option maxHeartbeats 4000000 in
theorem law_nil (w : World) : Calls Try.prog 6 #[] w fun e w' => e = .returned (.bool true) ∧ Below w.heap.size w w' := by
  refine (callsIn_wide (n := 6)).1 ?_
  refine callsIn_of_wp_marks Try.func6 rfl trivial ?_ rfl
  simp only [Try.ntmps6, List.size_toArray, List.length_cons, List.length_nil, Nat.reduceAdd, Nat.reduceSub, Array.replicate_succ, Array.replicate_zero, List.push_toArray, List.append_toArray, List.nil_append, List.cons_append]
  refine wpIn_wide.2 ?_
  go_wp2_with fail
  obtain ⟨W0, hW0⟩ : ∃ W0, (w.alloc (.cells #[.bool false] 4)).alloc (.cells #[.int .i64 0, .int .i64 0, .map none] 52) = W0 := ⟨_, rfl⟩
  have HS := Lib.hid (show W0.heap.size = w.heap.size + 2 by rw [← hW0]; simp)
  have HW := Lib.hid (show Below w.heap.size w W0 by rw [← hW0]; exact ((Below.refl _ w).alloc (Nat.le_refl _) _).alloc (by simp) _)
  have HR := Lib.hid (show Boxed W0 w.heap.size 4 (.bool false) by rw [← hW0]; exact (Boxed.new w _ _).alloc _)
  have HZ := Lib.hid (show ZeroAt W0 (w.heap.size + 1) by
    rw [← hW0]
    have := World.alloc_heap_new (w.alloc (.cells #[.bool false] 4)) (.cells #[.int .i64 0, .int .i64 0, .map none] 52)
    rw [World.size_alloc] at this
    exact this)
  have HZB : Hid (∀ W, Below W0.heap.size W0 W → ZeroAt W (w.heap.size + 1)) := Lib.hid (fun W hb => HZ.out.below hb (lt_of_block HZ.out))
  have HB0 := Lib.hid (Below.refl W0.heap.size W0)
  rw [hW0]
  clear hW0
  refine (nil_dial W0).mono ?_
  rintro e w1 ⟨rfl, hb⟩
  have HB1 := Lib.hid (below_step HB0.out hb (Nat.le_refl _))
  clear hb
  go_wp2_with fail
  refine (zero_dial w1 (w.heap.size + 1) (HZB.out _ HB1.out)).mono ?_
  rintro e w2 ⟨rfl, hb⟩
  have HB2 := Lib.hid (below_step HB1.out hb (Nat.le_refl _))
  clear hb
  go_wp2_with fail
  refine (nil_all w2).mono ?_
  rintro e _ ⟨rfl, rfl⟩
  have HB3 := Lib.hid (below_step HB2.out (below_alloc (Nat.le_refl _) (.cells #[.slice none 0 0] 77)) (Nat.le_refl _))
  obtain ⟨w3, hw3⟩ : ∃ w3, w2.alloc (.cells #[.slice none 0 0] 77) = w3 := ⟨_, rfl⟩
  rw [hw3] at HB3 ⊢
  clear hw3
  have hne : ∀ (cap : Array Value) (w : World), (binOp .eql 54 (.func (.func 51) #[] cap) .nilFunc).run Try.prog w = .ok (.bool false) w := fun cap w => by kernel_rfl
  go_wp2_with fail
  refine (nil_all w3).mono ?_
  rintro e w4 ⟨rfl, hw4⟩
  have hbox : w4.cell? ⟨w3.heap.size, 0, none⟩ = some (.slice none 0 0) := by rw [hw4]; exact (Boxed.new w3 _ _).cell
  have hlt4 : w3.heap.size < w4.heap.size := by rw [hw4]; simp
  have HB4 : Hid (Below W0.heap.size W0 w4) := Lib.hid (by rw [hw4]; exact below_step HB3.out (below_alloc (Nat.le_refl _) _) (Nat.le_refl _))
  clear hw4
  go_wp2_with fail
  have HB4' := HB4
  refine (wpIn_wide (n := 6)).1 ?_
  refine' wpIn_rangeFunc_ownF (F := Fence.wide) (n := 6) rfl (by omega) (gf := 51) (lb := #[.pointer (some ⟨w3.heap.size, 0, none⟩)]) rfl trivial (enters_of Try.func51 (by kernel_rfl) rfl)
    (none_stops Fence.wide 5 trivial rfl w3.heap.size w4.heap.size none 0 w4 hlt4 hbox) belowK_t (belowK_b (Nat.le_refl _)) (Below.refl _ _) (fun _ => rfl)
    (fun _ W => Below W0.heap.size W0 W)
    (fun _ _ _ => False)
    (ownFrom_below (Nat.le_refl _) HB4.out.size)
    (fun _ _ _ _ _ hs _ _ => hs.elim)
    HB4.out
    _ ?assign ?body ?done ?stop
  case assign =>
    intro l x W K hK
    gi_wp2
    exact hK
  case body =>
    rintro l pre x W _ hlt
    exact absurd hlt (Nat.not_lt_zero _)
  case stop =>
    rintro D c pre W _ _ h _
    exact h.elim
  case done =>
  rintro D ys w5 hD rfl hb hK
  have HK := Lib.hid hK
  have HDB := Lib.hid hb
  have HBD := Lib.hid (Nat.le_trans HB4.out.size hD)
  have HB5 := Lib.hid (Below.refl w5.heap.size w5)
  have HZB : Hid (∀ W, Below w5.heap.size w5 W → ZeroAt W (w.heap.size + 1)) := Lib.hid (fun W h => (HZ.out.below HDB.out (lt_of_block HZ.out)).below h (by have := lt_of_block HZ.out; have := HDB.out.size; omega))
  clear hb hK hD hne hbox hlt4
  gi_wp2
  go_wp2_with fail
  refine (nil_accept w5).mono ?_
  rintro e w6 ⟨rfl, hb⟩
  have HB6 := Lib.hid (below_step HB5.out hb (Nat.le_refl _))
  clear hb
  go_wp2_with fail
  refine (nil_refuse w6).mono ?_
  rintro e w7 ⟨rfl, hb⟩
  have HB7 := Lib.hid (below_step HB6.out hb (Nat.le_refl _))
  clear hb
  go_wp2_with fail
  refine (nil_reset w7).mono ?_
  rintro e w8 ⟨rfl, hb⟩
  have HB8 := Lib.hid (below_step HB7.out hb (Nat.le_refl _))
  clear hb
  go_wp2_with fail
  refine (nil_end w8).mono ?_
  rintro e w9 ⟨rfl, hb⟩
  have HB9 := Lib.hid (below_step HB8.out hb (Nat.le_refl _))
  clear hb
  go_wp2_with fail
  refine (nil_arrive w9).mono ?_
  rintro e w10 ⟨rfl, hb⟩
  have HB10 := Lib.hid (below_step HB9.out hb (Nat.le_refl _))
  clear hb
  go_wp2_with fail
  refine (nil_send w10).mono ?_
  rintro e w11 ⟨rfl, hb⟩
  have HB11 := Lib.hid (below_step HB10.out hb (Nat.le_refl _))
  clear hb
  go_wp2_with fail
  refine (nil_close w11).mono ?_
  rintro e w12 ⟨rfl, hb⟩
  have HB12 := Lib.hid (below_step HB11.out hb (Nat.le_refl _))
  clear hb
  go_wp2_with fail
  refine (nil_read w12).mono ?_
  rintro e w13 ⟨rfl, hb⟩
  have HB13 := Lib.hid (below_step HB12.out hb (Nat.le_refl _))
  clear hb
  go_wp2_with fail
  refine (nil_sent w13).mono ?_
  rintro e w14 ⟨rfl, hb⟩
  have HB14 := Lib.hid (below_step HB13.out hb (Nat.le_refl _))
  clear hb
  go_wp2_with fail
  refine (nil_left w14).mono ?_
  rintro e w15 ⟨rfl, hb⟩
  have HB15 := Lib.hid (below_step HB14.out hb (Nat.le_refl _))
  clear hb
  go_wp2_with fail
  refine (nil_len w15).mono ?_
  rintro e w16 ⟨rfl, hb⟩
  have HB16 := Lib.hid (below_step HB15.out hb (Nat.le_refl _))
  clear hb
  go_wp2_with fail
  refine (nil_state w16).mono ?_
  rintro e w17 ⟨rfl, hb⟩
  have HB17 := Lib.hid (below_step HB16.out hb (Nat.le_refl _))
  clear hb
  go_wp2_with fail
  refine (nil_copy w17).mono ?_
  rintro e w18 ⟨rfl, hb⟩
  have HB18 := Lib.hid (below_step HB17.out hb (Nat.le_refl _))
  clear hb
  go_wp2_with fail
  refine (nil_same_nil w18).mono ?_
  rintro e w19 ⟨rfl, hb⟩
  have HB19 := Lib.hid (below_step HB18.out hb (Nat.le_refl _))
  clear hb
  go_wp2_with fail
  refine (nil_same_one (w.heap.size + 1) w19).mono ?_
  rintro e w20 ⟨rfl, hb⟩
  have HB20 := Lib.hid (below_step HB19.out hb (Nat.le_refl _))
  clear hb
  go_wp2_with fail
  refine (one_same_nil (w.heap.size + 1) w20).mono ?_
  rintro e w21 ⟨rfl, hb⟩
  have HB21 := Lib.hid (below_step HB20.out hb (Nat.le_refl _))
  clear hb
  go_wp2_with fail
  refine (new_any 0 0 w21 (Nat.zero_le _)).mono ?_
  rintro e w22 ⟨rfl, hn, ht⟩
  have HN22 : Hid (NetAt 0 w22 (w21.heap.size + 1) w21.heap.size 0 0 []) := Lib.hid hn
  have HB22 := Lib.hid (below_step HB21.out (ht.below (by simp) (Nat.le_refl _)) (Nat.le_refl _))
  clear hn ht
  go_wp2_with fail
  refine (zero_same (HZB.out _ HB22.out) HN22.out).mono ?_
  rintro e w23 ⟨rfl, hb⟩
  have HB23 := Lib.hid (below_step HB22.out hb (Nat.le_refl _))
  clear hb
  go_wp2_with fail
  refine (zero_close w23 (w.heap.size + 1) (HZB.out _ HB23.out)).mono ?_
  rintro e w24 ⟨rfl, hb⟩
  have HB24 := Lib.hid (below_step HB23.out hb (Nat.le_refl _))
  clear hb
  go_wp2_with fail
  refine (new_any 0 (-3) w24 (Nat.zero_le _)).mono ?_
  rintro e w25 ⟨rfl, hn, ht⟩
  have HN25 : Hid (NetAt 0 w25 (w24.heap.size + 1) w24.heap.size 0 0 []) := Lib.hid hn
  have HB25 := Lib.hid (below_step HB24.out (ht.below (by simp) (Nat.le_refl _)) (Nat.le_refl _))
  clear hn ht
  go_wp2_with fail
  refine (zero_same (HZB.out _ HB25.out) HN25.out).mono ?_
  rintro e w26 ⟨rfl, hb⟩
  have HB26 := Lib.hid (below_step HB25.out hb (Nat.le_refl _))
  clear hb
  go_wp2_with fail
  refine (known_yes w26.heap.size w26 (Nat.le_refl _)).mono ?_
  rintro e w27 ⟨rfl, hb⟩
  have HB27 := Lib.hid (below_step HB26.out hb (Nat.le_refl _))
  clear hb
  have HX := Lib.hid (show Boxed w27 w.heap.size 4 (.bool false) from (HB27.out.block _ (by have := HR.out.lt; have := HDB.out.size; omega)).trans ((HDB.out.block _ HR.out.lt).trans HR.out))
  have hcr := HX.out.cell
  have hfr := HX.out.frozen
  go_wp2_with fail
  have hKw : w27.heap[D]? = some (.deferred (some [])) := (HB27.out.block _ (lt_of_block HK.out)).trans HK.out
  have hK' := (KeepsOthers.setCell w27 ⟨w.heap.size, 0, none⟩ (.bool true)).same D _ hKw rfl
  refine ⟨by simp, .inl ⟨_, _, rfl, run_takeDeferred hK', ?_⟩⟩
  have hc5 := cell_kept (World.cell?_setCell_same' w27 ⟨w.heap.size, 0, none⟩ (.bool true) (by rw [hcr]; rfl)) (grownBy_putObj' _ D (.deferred none)) (fun r e => by cases e; exact ⟨_, hK', rfl⟩)
  have hB0 : Below w.heap.size w w27 := HW.out.trans ((HDB.out.trans (HB27.out.mono HDB.out.size)).mono HW.out.size)
  refine ⟨.bool true, ?_, rfl, (hB0.setCell (p := ⟨w.heap.size, 0, none⟩) (Nat.le_refl _) _).trans (belowK_b (w := w) (Nat.le_refl _) _ D _ _ (by have := HW.out.size; have := HBD.out; omega) hK' rfl rfl)⟩
  simp [results, Try.f6, go_sem, hc5]
end Go.Proofs.Ytpdmmnhmnmlogaa
