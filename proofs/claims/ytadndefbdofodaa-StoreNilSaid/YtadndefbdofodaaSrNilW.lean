/- The law's walk: what a store that is not there, and a zero one, answer. -/
import Derived.Test.YtadndefbdofodaaSrZeroC
import Derived.Test.YtadndefbdofodaaStKnown
namespace Go.Proofs.Ytadndefbdofodaa
open Go.RowKit Go.Maps Go.Sort Go.Shelf
attribute [local go_sem] Oper.semAt_some

def xA : Smp := ⟨⟨#[97]⟩, 0, 0, false⟩
theorem nil_stops (F : Fence) (n : Nat) (hf : F.fn 30) (hro : F.round = none) (Bs : Nat) (w : World) (hBs : Bs < w.heap.size) (hc : w.cell? ⟨Bs, 0, none⟩ = some (.slice none 0 0)) :
    SeqStopsK F n Try.prog 30 #[.pointer (some ⟨Bs, 0, none⟩)] (fun x : Value × Value => #[x.1, x.2]) (KeepL []) (fun ys => ys = []) (fun _ => False) 0 w := fun l J Jx W hW _ _ hY h0 =>
  (allS0_in F n hf hro l Bs (J []) W ((hW.cell (p := ⟨Bs, 0, none⟩) hBs).trans hc) h0).mono fun e W' ⟨he, hj⟩ => ⟨he, .inl ⟨_, rfl, hj⟩⟩
set_option maxRecDepth 100000 in
set_option maxHeartbeats 8000000 in
theorem law_nil (w : World) : Calls Try.prog 6 #[] w fun e w' => e = .returned (.bool true) ∧ Below w.heap.size w w' := by
  refine (callsIn_wide (n := 6)).1 ?_
  refine callsIn_of_wp_marks Try.func6 rfl trivial ?_ rfl
  simp only [Try.ntmps6, List.size_toArray, List.length_cons, List.length_nil, Nat.reduceAdd, Nat.reduceSub, Array.replicate_succ, Array.replicate_zero, List.push_toArray, List.append_toArray, List.nil_append, List.cons_append]
  refine wpIn_wide.2 ?_
  go_upto_region 4 with fail
  obtain ⟨W0, hW0⟩ : ∃ W0, ((w.alloc (.cells #[.bool false] 4)).alloc (.cells #[.int .i64 0, .map none] 52)).alloc (.cells #[.string ⟨#[97]⟩, .int .i64 0, .int .i64 0, .bool false] 38) = W0 := ⟨_, rfl⟩
  have HS := Lib.hid (show W0.heap.size = w.heap.size + 3 by rw [← hW0]; simp)
  have HW := Lib.hid (show Turns [] w W0 by rw [← hW0]; exact ((Turns.alloc (F := []) w _).then (Turns.alloc _ _)).then (Turns.alloc _ _))
  have HR0 := Lib.hid (show Boxed W0 w.heap.size 4 (.bool false) by rw [← hW0]; exact ((Boxed.new w _ _).alloc _).alloc _)
  have HZ0 : Hid (Zs W0 (w.heap.size + 1)) := Lib.hid (by
    rw [← hW0]
    have h0 := heap_alloc_new (w.alloc (.cells #[.bool false] 4)) (.cells #[.int .i64 0, .map none] 52)
    have h1 := (Below.heap_alloc ((w.alloc (.cells #[.bool false] 4)).alloc (.cells #[.int .i64 0, .map none] 52)) (.cells #[.string ⟨#[97]⟩, .int .i64 0, .int .i64 0, .bool false] 38) _ (lt_of_block h0)).trans h0
    rw [World.size_alloc] at h1
    exact h1)
  have HX0 : Hid (W0.heap[w.heap.size + 2]? = some (.cells #[.string ⟨#[97]⟩, .int .i64 0, .int .i64 0, .bool false] 38 (0, 0))) := Lib.hid (by
    rw [← hW0]
    have h0 := heap_alloc_new ((w.alloc (.cells #[.bool false] 4)).alloc (.cells #[.int .i64 0, .map none] 52)) (.cells #[.string ⟨#[97]⟩, .int .i64 0, .int .i64 0, .bool false] 38)
    rw [World.size_alloc, World.size_alloc] at h0
    exact h0)
  have HB0 := Lib.hid (Turns.refl [] W0)
  rw [hW0]
  clear hW0
  go_wp2_with fail
  refine (get_nilS ⟨#[97]⟩ W0).mono ?_
  rintro e w1 ⟨rfl, hb⟩
  have HB1 := Lib.hid (HB0.out.then hb)
  clear hb
  go_upto_region 5 with fail
  obtain ⟨w2, hw2⟩ : ∃ w2, w1.alloc (.cells #[.string ⟨#[]⟩, .int .i64 0, .int .i64 0, .bool false, .bool false, .int .i64 0] 54) = w2 := ⟨_, rfl⟩
  have HB2 : Hid (Turns [] W0 w2) := Lib.hid (by rw [← hw2]; exact HB1.out.then (Turns.alloc _ _))
  rw [hw2]
  clear hw2
  have hne : ∀ (cap : Array Value) (w : World), (binOp .eql 58 (.func (.func 30) #[] cap) .nilFunc).run Try.prog w = .ok (.bool false) w := fun cap w => by kernel_rfl
  go_wp2_with fail
  refine (all_nilS w2).mono ?_
  rintro e w3 ⟨bs0, rfl, _, _, hb⟩
  have HB3 := Lib.hid (HB2.out.then hb)
  clear hb
  go_wp2_with fail
  refine (all_nilS w3).mono ?_
  rintro e w4 ⟨bs, rfl, hlt4, hbox, hb⟩
  have HB4 := Lib.hid (HB3.out.then hb)
  clear hb
  go_wp2_with fail
  refine (wpIn_wide (n := 6)).1 ?_
  refine' wpIn_rangeFunc_ownF (F := Fence.wide) (n := 6) rfl (by omega) (gf := 30) (lb := #[.pointer (some ⟨bs, 0, none⟩)]) rfl trivial (enters_of Try.func30 (by kernel_rfl) rfl)
    (nil_stops Fence.wide 5 trivial rfl bs w4 hlt4 hbox) KeepL.t (fun _ _ _ _ _ _ _ _ b hb => by cases hb) (Below.refl _ _) (fun _ => rfl)
    (fun _ W => Below w4.heap.size w4 W)
    (fun _ _ _ => False)
    (ownFrom_below (Nat.le_refl _) (Nat.le_refl _))
    (fun _ _ _ _ _ hs _ _ => hs.elim)
    (Below.refl _ _)
    _ ?assign ?body ?done ?stop
  case assign =>
    intro l x W K hK
    gi_wp2
    exact hK
  case body =>
    rintro l pre x W _ hlt
    exact absurd hlt (Nat.not_lt_zero _)
  case stop =>
    rintro D c pre W _ _ h _
    exact h.elim
  case done =>
  rintro D ys w5 hD rfl hb hK
  have HK := Lib.hid hK
  have HB5 := Lib.hid (HB4.out.then (Turns.of_below hb (Nat.le_refl _)))
  have HDL := Lib.hid (Nat.le_trans HB4.out.size hD)
  have hx5 := (HB5.out.block _ (lt_of_block HX0.out) (by simp)).trans HX0.out
  have q0 : w5.cell? ⟨w.heap.size + 2, 0, none⟩ = some (.string ⟨#[97]⟩) := by simp [World.cell?, hx5]
  have q1 : w5.cell? ⟨w.heap.size + 2, 1, none⟩ = some (.int .i64 0) := by simp [World.cell?, hx5]
  have q2 : w5.cell? ⟨w.heap.size + 2, 2, none⟩ = some (.int .i64 0) := by simp [World.cell?, hx5]
  have q3 : w5.cell? ⟨w.heap.size + 2, 3, none⟩ = some (.bool false) := by simp [World.cell?, hx5]
  clear hb hK hD hne hbox hlt4 hx5
  gi_wp2
  obtain ⟨w6, hw6⟩ : ∃ w6, w5.alloc (.cells #[.string ⟨#[97]⟩, .int .i64 0, .int .i64 0, .bool false] 38) = w6 := ⟨_, rfl⟩
  have HG6 := Lib.hid (show w6.heap[w5.heap.size]? = some (.cells #[.string xA.name, .int .i64 xA.val, .int .i64 xA.tm, .bool xA.cnt] 38 (0, 0)) by rw [← hw6]; exact heap_alloc_new w5 _)
  have HT56 : Hid (Turns [] w5 w6) := Lib.hid (by rw [← hw6]; exact Turns.alloc _ _)
  have HB6 : Hid (Turns [] W0 w6) := Lib.hid (by rw [← hw6]; exact HB5.out.then (Turns.alloc _ _))
  have HP6 := Lib.hid (putZ (HZ0.out.pre HB6.out) 1 xA (by unfold NmOk xA; decide) HG6.out)
  go_wp2_with fail
  clear hw6
  refine HP6.out.mono ?_
  rintro e w7 ⟨⟨o, rfl, ho⟩, hb⟩
  have HB7 := Lib.hid (HB6.out.then hb)
  have HT57 := Lib.hid (HT56.out.then hb)
  rcases ho.form with ⟨_, h0⟩ | ⟨og, ocap, rfl, hoB, hog, _, _⟩
  · cases h0
  have ho4 : w7.cell? ⟨og, 4, none⟩ = some (.int .i64 4) := by
    have := World.ownsRow.cells ho (g := og) rfl 4 (.int .i64 4) (EK.flat_at nOk (j := 0) rfl 4 _ rfl)
    rwa [add_plain', Nat.zero_add] at this
  have HO4 : Hid (∀ W, Turns [] w7 W → W.cell? ⟨og, 4, none⟩ = some (.int .i64 4)) := Lib.hid fun W hW => (hW.cell hog (by simp) 4).trans ho4
  have HX7 := Lib.hid ((HB7.out.block _ (lt_of_block HX0.out) (by simp)).trans HX0.out)
  have q0 : w7.cell? ⟨w.heap.size + 2, 0, none⟩ = some (.string ⟨#[97]⟩) := by simp [World.cell?, HX7.out]
  have q1 : w7.cell? ⟨w.heap.size + 2, 1, none⟩ = some (.int .i64 0) := by simp [World.cell?, HX7.out]
  have q2 : w7.cell? ⟨w.heap.size + 2, 2, none⟩ = some (.int .i64 0) := by simp [World.cell?, HX7.out]
  have q3 : w7.cell? ⟨w.heap.size + 2, 3, none⟩ = some (.bool false) := by simp [World.cell?, HX7.out]
  clear hb ho hoB HP6 HG6 ho4 hog
  go_wp2_with fail
  obtain ⟨w8, hw8⟩ : ∃ w8, w7.alloc (.cells #[.string ⟨#[97]⟩, .int .i64 0, .int .i64 0, .bool false] 38) = w8 := ⟨_, rfl⟩
  have HC8 : Hid (Turns [] w7 w8) := Lib.hid (by rw [← hw8]; exact Turns.alloc _ _)
  rw [hw8]
  clear hw8 q0 q1 q2 q3
  refine (put_nilS 1 _ w8).mono ?_
  rintro e w9 ⟨rfl, hb⟩
  have HC9 := Lib.hid (HC8.out.then hb)
  clear hb
  go_wp2_with fail
  refine (len_nilS w9).mono ?_
  rintro e w10 ⟨rfl, hb⟩
  have HC10 := Lib.hid (HC9.out.then hb)
  clear hb
  go_wp2_with fail
  refine (live_nilS w10).mono ?_
  rintro e w11 ⟨rfl, hb⟩
  have HC11 := Lib.hid (HC10.out.then hb)
  clear hb
  go_wp2_with fail
  refine (copy_nilS w11).mono ?_
  rintro e w12 ⟨rfl, hb⟩
  have HC12 := Lib.hid (HC11.out.then hb)
  clear hb
  go_wp2_with fail
  refine (same_nn w12 0).mono ?_
  rintro e w13 ⟨rfl, hb⟩
  have HC13 := Lib.hid (HC12.out.then hb)
  clear hb
  go_wp2_with fail
  refine (same_nz w13 _).mono ?_
  rintro e w14 ⟨rfl, hb⟩
  have HC14 := Lib.hid (HC13.out.then hb)
  clear hb
  go_wp2_with fail
  refine (same_zn w14 _).mono ?_
  rintro e w15 ⟨rfl, hb⟩
  have HC15 := Lib.hid (HC14.out.then hb)
  clear hb
  have o4 := HO4.out w15 HC15.out
  go_wp2_with fail
  refine (newSt_any 0 w15).mono ?_
  rintro e w16 ⟨p1, b1, rfl, hs1, _, hb⟩
  have HC16 := Lib.hid (HC15.out.then hb)
  have HS16 := Lib.hid hs1
  clear hb hs1 o4
  go_wp2_with fail
  refine (sameZ (HZ0.out.pre (HB7.out.then HC16.out)) HS16.out).mono ?_
  rintro e w17 ⟨rfl, hb⟩
  have HC17 := Lib.hid (HC16.out.then hb)
  clear hb
  go_wp2_with fail
  refine (newSt_any (-1) w17).mono ?_
  rintro e w18 ⟨p2, b2, rfl, hs2, _, hb⟩
  have HC18 := Lib.hid (HC17.out.then hb)
  have HS18 := Lib.hid hs2
  clear hb hs2
  go_wp2_with fail
  refine (sameZ (HZ0.out.pre (HB7.out.then HC18.out)) HS18.out).mono ?_
  rintro e w19 ⟨rfl, hb⟩
  have HC19 := Lib.hid (HC18.out.then hb)
  clear hb
  go_wp2_with fail
  refine (known_any srC w19).mono ?_
  rintro e w20 ⟨rfl, hb⟩
  have HT20 := Lib.hid (HB7.out.then (HC19.out.then hb))
  have HR20 : Hid (Boxed w20 w.heap.size 4 (.bool false)) := Lib.hid ((HT20.out.block w.heap.size (by have := HS.out; omega) (by simp)).trans HR0.out)
  have HK20 := Lib.hid (((HT57.out.then (HC19.out.then hb)).block D (lt_of_block HK.out) (by simp)).trans HK.out)
  have hcr := HR20.out.cell
  have hfr := HR20.out.frozen
  clear hb
  go_wp2
  have hK' := (KeepsOthers.setCell w20 ⟨w.heap.size, 0, none⟩ (.bool true)).same D _ HK20.out rfl
  refine ⟨by simp, .inl ⟨_, _, rfl, run_takeDeferred hK', ?_⟩⟩
  have hc5 := cell_kept (World.cell?_setCell_same' w20 ⟨w.heap.size, 0, none⟩ (.bool true) (by rw [hcr]; rfl)) (grownBy_putObj' _ D (.deferred none)) (fun r e => by cases e; exact ⟨_, hK', rfl⟩)
  have hbw : Below w.heap.size w ((w20.setCell ⟨w.heap.size, 0, none⟩ (.bool true)).putObj D (.deferred none)) := (((HW.out.then HT20.out).below (by simp) (Nat.le_refl _)).setCell (p := ⟨w.heap.size, 0, none⟩) (by simp) _).trans (belowK_s (w := w) D _ _ (by have := HS.out; have := HDL.out; omega) hK' rfl rfl)
  refine ⟨.bool true, ?_, ⟨rfl, hbw⟩⟩
  simp [results, Try.f6, go_sem, hc5]
end Go.Proofs.Ytadndefbdofodaa
