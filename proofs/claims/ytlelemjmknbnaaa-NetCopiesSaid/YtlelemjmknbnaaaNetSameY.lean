/- Same: two nets alike in what comes before their connections. -/
import Derived.Test.YtlelemjmknbnaaaNetSameN
import Derived.Test.YtlelemjmknbnaaaNetEq
import Derived.Test.YtlelemjmknbnaaaNetGo
import Derived.Test.YtlelemjmknbnaaaSameQ
import Derived.Stop.RegionWithIn
namespace Go.Proofs.Ytlelemjmknbnaaa
open Go.RowKit Go.Maps Go.Sort Go.Shelf
attribute [local go_sem] Oper.semAt_some
theorem wide_fn (f : FuncId) : Fence.wide.fn f = True := rfl
attribute [local go_sem] wide_fn

/-- What conn.same tells of number k of both. -/
def Told (L L2 : List NE) (k : Nat) : Prop := hostC (getE L (k : Int)) = hostC (getE L2 (k : Int)) ∧ stC (getE L (k : Int)) = stC (getE L2 (k : Int)) ∧ innC (getE L (k : Int)) = innC (getE L2 (k : Int)) ∧ outC (getE L (k : Int)) = outC (getE L2 (k : Int))
/-- Of all that were gone over, the same is told. -/
def GoodP (L L2 : List NE) (pre : List (EntIn (entsOf L))) : Prop := ∀ x ∈ pre, Told L L2 x.1.1
def BadP (L L2 : List NE) (pre : List (EntIn (entsOf L))) : Prop := ∃ x ∈ pre, ¬ Told L L2 x.1.1
theorem Turns.others {W W' : World} (h : Turns [] W W') : KeepsOthers W W' := ⟨h.size, fun i _ ho _ => (h.block i (lt_of_block ho) (by simp)).trans ho⟩
set_option maxRecDepth 100000 in
set_option maxHeartbeats 20000000 in
theorem same_yes {B B2 : Nat} {w : World} {bn bm bn2 bm2 : Nat} {most last : Int} {L L2 : List NE} (h : NetAt B w bn bm most last L) (h2 : NetAt B2 w bn2 bm2 most last L2) (hlen : L.length = L2.length) (hl : L.length ≤ 1000) (hh : ∀ x ∈ L, x.1.host.length ≤ 1000000) (hlast : last ≤ 1000000000) :
    Calls Try.prog 11 #[.pointer (some ⟨bn, 0, none⟩), .pointer (some ⟨bn2, 0, none⟩)] w fun e w' => (∃ b, e = .returned (.bool b) ∧ (b = true ↔ ∀ x ∈ L, Told L L2 x.1.id)) ∧ Below w.heap.size w w' := by
  refine (callsIn_wide (n := 6)).1 ?_
  refine callsIn_of_wp_marks Try.func11 rfl trivial ?_ rfl
  simp only [Try.ntmps11, List.size_toArray, List.length_cons, List.length_nil, Nat.reduceAdd, Nat.reduceSub, Array.replicate_succ, Array.replicate_zero, List.push_toArray, List.append_toArray, List.nil_append, List.cons_append]
  refine wpIn_wide.2 ?_
  go_wp2
  obtain ⟨W0, hW0⟩ : ∃ W0, ((w.alloc (.cells #[.pointer (some ⟨bn, 0, none⟩)] 25)).alloc (.cells #[.pointer (some ⟨bn2, 0, none⟩)] 25)).alloc (.cells #[.bool false] 4) = W0 := ⟨_, rfl⟩
  have hs0 : W0.heap.size = w.heap.size + 3 := by rw [← hW0]; simp
  have hT0 : Turns [] w W0 := by rw [← hW0]; exact ((Turns.alloc (F := []) w _).trans (Turns.alloc (F := []) _ _) (by simp)).trans (Turns.alloc (F := []) _ _) (by simp)
  have b2 : Boxed W0 w.heap.size 25 (.pointer (some ⟨bn, 0, none⟩)) := by rw [← hW0]; exact ((Boxed.new w _ _).alloc _).alloc _
  have b3 : Boxed W0 (w.heap.size + 1) 25 (.pointer (some ⟨bn2, 0, none⟩)) := by
    rw [← hW0]
    have := Boxed.new (w.alloc (.cells #[.pointer (some ⟨bn, 0, none⟩)] 25)) 25 (.pointer (some ⟨bn2, 0, none⟩))
    rw [World.size_alloc] at this
    exact this.alloc _
  have b4 : Boxed W0 (w.heap.size + 1 + 1) 4 (.bool false) := by
    rw [← hW0]
    have := Boxed.new ((w.alloc (.cells #[.pointer (some ⟨bn, 0, none⟩)] 25)).alloc (.cells #[.pointer (some ⟨bn2, 0, none⟩)] 25)) 4 (.bool false)
    rw [World.size_alloc, World.size_alloc] at this
    exact this
  have o0 := h.kept hT0 (by simp)
  have o2 := h2.kept hT0 (by simp)
  have c0 := o0.c0
  have c1 := o0.c1
  have d0 := o2.c0
  have d1 := o2.c1
  have p2 := b2.cell
  have p3 := b3.cell
  have hmm : ((most : Int) != most) = false := bne_self_eq_false _
  have hll : ((last : Int) != last) = false := bne_self_eq_false _
  have hN : ((L2.length : Int) != (L2.length : Int)) = false := bne_self_eq_false _
  have HL : Hid (∀ (p : Nat) (W : World) (q : Nat), p = bn ∨ p = bn2 → W = W0.drewN q → Calls Try.prog 35 #[.pointer (some ⟨p, 0, none⟩)] W fun e w' => e = .returned (.int .i64 (L2.length : Int)) ∧ w' = W) := Lib.hid (by
    rintro p W q (rfl | rfl) rfl
    · have := len_any (o0.kept ((Turns.refl [] W0).drewN q) (by simp))
      rwa [hlen] at this
    · exact len_any (o2.kept ((Turns.refl [] W0).drewN q) (by simp)))
  have HO := Lib.hid o0
  have HO2 := Lib.hid o2
  have HT0 := Lib.hid hT0
  have HS0 := Lib.hid hs0
  have HB2 : Hid (∀ W, Turns [] W0 W → W.cell? ⟨w.heap.size, 0, none⟩ = some (.pointer (some ⟨bn, 0, none⟩))) := Lib.hid (fun W hW => (World.cell?_of_block (hW.block w.heap.size (by omega) (by simp))).trans b2.cell)
  have HB3 : Hid (∀ W, Turns [] W0 W → W.cell? ⟨w.heap.size + 1, 0, none⟩ = some (.pointer (some ⟨bn2, 0, none⟩))) := Lib.hid (fun W hW => (World.cell?_of_block (hW.block (w.heap.size + 1) (by omega) (by simp))).trans b3.cell)
  have HB4 : Hid (∀ W, Turns [] W0 W → Boxed W (w.heap.size + 1 + 1) 4 (.bool false)) := Lib.hid (fun W hW => (hW.block _ (by omega) (by simp)).trans b4)
  have HLL := Lib.hid (And.intro hlen (And.intro hl (And.intro hh hlast)))
  have HID := Lib.hid (fun x hx => (h.ids x hx))
  obtain ⟨N2, hN2⟩ : ∃ n, n = L2.length := ⟨_, rfl⟩
  rw [← hN2] at HL hN
  rw [hW0]
  clear h h2 o0 o2 b2 b3 b4 hT0 hs0 hW0 hN2 hlen hl hh hlast
  go_quiet ((go_at_call 35; exact Calls.quiet_of_same (HL.out _ _ _ (by first | exact .inl rfl | exact .inr rfl) rfl)))
  have hTq : Turns [] W0 (W0.drewN nq) := (Turns.refl [] W0).drewN nq
  have HA := Lib.hid (all_any (HO.out.kept hTq (by simp)) HLL.out.2.1 HLL.out.2.2.1 HLL.out.2.2.2)
  clear c0 c1 d0 d1 hmm hll hN HL
  go_wp2_with fail
  refine HA.out.mono ?_
  rintro e w1 ⟨⟨bs, va, rfl, hbs, hbs2, hca, hoa⟩, hb⟩
  have hT1 : Turns [] W0 w1 := hTq.trans (Turns.of_below hb (Nat.le_refl _)) (by simp)
  have HT1 := Lib.hid hT1
  obtain ⟨bl, hbl, hbl2⟩ : ∃ bl, (∀ g, va.ownBlock = some g → g = bl) ∧ bl < w1.heap.size := by
    rcases hoa.form with ⟨e1, _⟩ | ⟨g, cap, e1, _, hg, _⟩
    · exact ⟨0, fun g hg => by rw [e1] at hg; simp [Value.ownBlock] at hg, Nat.lt_of_le_of_lt (Nat.zero_le _) hbs2⟩
    · exact ⟨g, fun g2 hg2 => by rw [e1] at hg2; simpa [Value.ownBlock] using hg2.symm, hg⟩
  have hlE : (entsOf L).length ≤ 1000 := by rw [entsOf, List.length_map]; exact HLL.out.2.1
  have hbR := HB4.out w1 HT1.out
  have HWB : Hid (Below w.heap.size w w1) := Lib.hid ((HT0.out.trans HT1.out (by simp)).below (by simp) (Nat.le_refl _))
  clear hb hTq p2 p3 HA hT1
  go_wp2_with fail
  refine (wpIn_wide (n := 6)).1 ?_
  refine' wpIn_rangeFunc_ownF (F := Fence.wide) (n := 6) (α := EntIn (entsOf L)) rfl (by omega) (gf := 51) (lb := #[.pointer (some ⟨bs, 0, none⟩)]) rfl trivial (enters_of Try.func51 (by kernel_rfl) rfl)
    (entin_stops Fence.wide 5 trivial rfl (by omega) bs bl _ va (entsOf L) hlE w1 hbs2 hca hoa hbl)
    KeepB.t (KeepB.b hbl2) (Below.refl _ _) (fun _ => rfl)
    (fun pre W => GoodP L L2 pre ∧ Below w1.heap.size w1 W)
    (fun c pre W => (c = .ret ∧ BadP L L2 pre ∧ (W.cell? ⟨w.heap.size + 1 + 1, 0, none⟩ = some (.bool false) ∧ W.frozen? ⟨w.heap.size + 1 + 1, 0, none⟩ = false)) ∧ Below w.heap.size w W)
    (OwnFrom.and (fun s A B row hs _ _ => hs) (ownFrom_below (Nat.le_refl _) (Nat.le_refl _)))
    (fun c => OwnFrom.and (fun s A B row hs hg hr => ⟨hs.1, hs.2.1, cell_kept hs.2.2.1 hg (fun r e => (hr r e).2), (frozen_kept hs.2.2.1 hg (fun r e => (hr r e).2)).trans hs.2.2.2⟩) (ownFrom_below (Nat.le_refl _) HWB.out.size))
    ⟨(fun x hx => by simp at hx), Below.refl _ _⟩
    _ ?assign ?body ?done ?stop
  case assign =>
    intro l x W K hK
    unfold encEnt
    gi_wp2
    exact hK
  case body =>
    rintro l pre x W ⟨hpre, hB⟩ hlt
    have HTW := Lib.hid (HT1.out.trans (Turns.of_below hB (Nat.le_refl _)) (by simp))
    have HPRE := Lib.hid hpre
    have HBW := Lib.hid hB
    have hk : (Lit.int .i64 (x.1.1 : Int)).wf = true := by
      obtain ⟨y, hy, hye⟩ := List.mem_map.1 x.2
      have h1 := HID.out y hy
      have h3 := HLL.out.2.2.2
      have h4 : y.1.id = x.1.1 := congrArg Prod.fst hye
      simp [Lit.wf, IntKind.min, IntKind.max, IntKind.signed, IntKind.bits]
      omega
    have HK := Lib.hid hk
    clear hk hB hpre
    have HG2 : Hid (∀ W', Turns [] W W' → W'.cell? ⟨w.heap.size, 0, none⟩ = some (.pointer (some ⟨bn, 0, none⟩)) ∧ W'.cell? ⟨w.heap.size + 1, 0, none⟩ = some (.pointer (some ⟨bn2, 0, none⟩))) := Lib.hid (fun W' hW' => ⟨HB2.out W' (HTW.out.trans hW' (by simp)), HB3.out W' (HTW.out.trans hW' (by simp))⟩)
    have HK1 : Hid (∀ W', Turns [] W W' → Calls Try.prog 33 #[.pointer (some ⟨bn, 0, none⟩), .int .i64 (x.1.1 : Int)] W' fun e w' => (∃ va vs, e = .returned (.agg #[.string ⟨(hostC (getE L (x.1.1 : Int))).toArray⟩, .int .i64 (stC (getE L (x.1.1 : Int))), va, vs]) ∧ Owned 0 w' va (innC (getE L (x.1.1 : Int))) ∧ Owned 0 w' vs (outC (getE L (x.1.1 : Int)))) ∧ Turns [] W' w') := Lib.hid (fun W' hW' => (look_host (HO.out.kept (HTW.out.trans hW' (by simp)) (by simp)) _ HK.out).mono fun e w' ⟨⟨va, vs, he, o1, o2⟩, ht⟩ => ⟨⟨va, vs, he, o1.turns ht (by simp), o2.turns ht (by simp)⟩, ht⟩)
    have HK2 : Hid (∀ W', Turns [] W W' → Calls Try.prog 33 #[.pointer (some ⟨bn2, 0, none⟩), .int .i64 (x.1.1 : Int)] W' fun e w' => (∃ va vs, e = .returned (.agg #[.string ⟨(hostC (getE L2 (x.1.1 : Int))).toArray⟩, .int .i64 (stC (getE L2 (x.1.1 : Int))), va, vs]) ∧ Owned 0 w' va (innC (getE L2 (x.1.1 : Int))) ∧ Owned 0 w' vs (outC (getE L2 (x.1.1 : Int)))) ∧ Turns [] W' w') := Lib.hid (fun W' hW' => (look_host (HO2.out.kept (HTW.out.trans hW' (by simp)) (by simp)) _ HK.out).mono fun e w' ⟨⟨va, vs, he, o1, o2⟩, ht⟩ => ⟨⟨va, vs, he, o1.turns ht (by simp), o2.turns ht (by simp)⟩, ht⟩)
    obtain ⟨g0, g1⟩ := HG2.out W (Turns.refl _ _)
    have HCR : Hid (∀ W', Turns [] W W' → W'.cell? ⟨w.heap.size + 1 + 1, 0, none⟩ = some (.bool false) ∧ W'.frozen? ⟨w.heap.size + 1 + 1, 0, none⟩ = false) := Lib.hid (fun W' hW' => ⟨(HB4.out W' (HTW.out.trans hW' (by simp))).cell, (HB4.out W' (HTW.out.trans hW' (by simp))).frozen⟩)
    have HE1 : Hid (∀ w4, Turns [] W w4 → (true = true ↔ (hostC (getE L (x.1.1 : Int)) = hostC (getE L2 (x.1.1 : Int)) ∧ stC (getE L (x.1.1 : Int)) = stC (getE L2 (x.1.1 : Int)) ∧ innC (getE L (x.1.1 : Int)) = innC (getE L2 (x.1.1 : Int)) ∧ outC (getE L (x.1.1 : Int)) = outC (getE L2 (x.1.1 : Int)))) → KeepsOthers W w4 ∧ KeepB bl W w4 ∧ GoodP L L2 (pre ++ [x]) ∧ Below w1.heap.size w1 w4) := Lib.hid (fun w4 ht hb => by
      have h1 : bl < W.heap.size := Nat.lt_of_lt_of_le hbl2 HBW.out.size
      refine ⟨Turns.others ht, ht.block bl h1 (by simp), fun y hy => ?_, HBW.out.trans (ht.below (by simp) HBW.out.size)⟩
      rcases List.mem_append.1 hy with h | h
      · exact HPRE.out y h
      · rw [List.mem_singleton] at h
        rw [h]
        exact hb.1 rfl)
    have HE2 : Hid (∀ w4, Turns [] W w4 → (false = true ↔ (hostC (getE L (x.1.1 : Int)) = hostC (getE L2 (x.1.1 : Int)) ∧ stC (getE L (x.1.1 : Int)) = stC (getE L2 (x.1.1 : Int)) ∧ innC (getE L (x.1.1 : Int)) = innC (getE L2 (x.1.1 : Int)) ∧ outC (getE L (x.1.1 : Int)) = outC (getE L2 (x.1.1 : Int)))) → KeepsOthers W (w4.setCell ⟨w.heap.size + 1 + 1, 0, none⟩ (.bool false)) ∧ (BadP L L2 (pre ++ [x]) ∧ (w4.setCell ⟨w.heap.size + 1 + 1, 0, none⟩ (.bool false)).cell? ⟨w.heap.size + 1 + 1, 0, none⟩ = some (.bool false) ∧ (w4.setCell ⟨w.heap.size + 1 + 1, 0, none⟩ (.bool false)).frozen? ⟨w.heap.size + 1 + 1, 0, none⟩ = false) ∧ Below w.heap.size w (w4.setCell ⟨w.heap.size + 1 + 1, 0, none⟩ (.bool false))) := Lib.hid (fun w4 ht hb => by
      obtain ⟨q1, q2⟩ := HCR.out w4 ht
      have h1 := HWB.out.size
      refine ⟨(Turns.others ht).trans (KeepsOthers.setCell _ _ _), ⟨⟨x, by simp, fun h => ?_⟩, World.cell?_setCell_same' _ _ _ (by rw [q1]; rfl), by rw [World.frozen?_setCell]; exact q2⟩, ?_⟩
      · have := hb.2 h
        cases this
      · exact ((HWB.out.trans (HBW.out.mono h1)).trans (ht.below (by simp) (Nat.le_trans h1 HBW.out.size))).setCell (p := ⟨w.heap.size + 1 + 1, 0, none⟩) (by simp; omega) _)
    gi_wp2
    gi_region_with ((first
      | (gi_at_call 33; with_reducible refine (CallsIn.inRound l (callsIn_wide.2 (HK1.out _ (Turns.refl [] _).drew))).mono ?_; rintro e w2 ⟨⟨va1, vs1, rfl, oa1, os1⟩, ht2⟩; have ht2 := (Turns.refl [] W).drew.trans ht2 (by simp); have HX2 := Lib.hid (And.intro ht2 (And.intro oa1 os1)); obtain ⟨g2, g3⟩ := HG2.out _ ht2; clear oa1 os1 ht2)
      | (gi_at_call 33; with_reducible refine (CallsIn.inRound l (callsIn_wide.2 (HK2.out _ HX2.out.1))).mono ?_; rintro e w3 ⟨⟨va2, vs2, rfl, oa2, os2⟩, ht3⟩; have HX3 := Lib.hid (And.intro (HX2.out.1.trans ht3 (by simp)) (And.intro (HX2.out.2.1.turns ht3 (by simp)) (And.intro (HX2.out.2.2.turns ht3 (by simp)) (And.intro oa2 os2)))); have HX5 := Lib.hid (conn_same (hostC (getE L (x.1.1 : Int))) (hostC (getE L2 (x.1.1 : Int))) (stC (getE L (x.1.1 : Int))) (stC (getE L2 (x.1.1 : Int))) va1 vs1 va2 vs2 _ _ _ _ w3 HX3.out.2.1 HX3.out.2.2.1 HX3.out.2.2.2.1 HX3.out.2.2.2.2); clear oa2 os2 ht3)
      | (gi_at_call 36; with_reducible refine (CallsIn.inRound l (callsIn_wide.2 HX5.out)).mono ?_; rintro e w4 ⟨⟨b, rfl, hb⟩, ht4⟩; have HX4 := Lib.hid (And.intro (HX3.out.1.trans ht4 (by simp)) hb); obtain ⟨r1, r2⟩ := HCR.out _ HX4.out.1; clear ht4 hb)))
    all_goals
      cases b
      · gi_wp2
        obtain ⟨k1, k2, k3⟩ := HE2.out _ HX4.out.1 HX4.out.2
        exact ⟨k1, ⟨rfl, k2⟩, k3⟩
      · gi_wp2
        exact HE1.out _ HX4.out.1 HX4.out.2
  case done =>
    rintro D ys W hD rfl ⟨hal, hB⟩ hK
    have bR := HB4.out W (HT1.out.trans (Turns.of_below hB (Nat.le_refl _)) (by simp))
    have hcr := bR.cell
    have hfr := bR.frozen
    gi_wp2
    go_wp2
    have hK' := (KeepsOthers.setCell W ⟨w.heap.size + 1 + 1, 0, none⟩ (.bool true)).same D _ hK rfl
    refine ⟨by simp, .inl ⟨_, _, rfl, run_takeDeferred hK', ?_⟩⟩
    have hc5 := cell_kept (World.cell?_setCell_same' W ⟨w.heap.size + 1 + 1, 0, none⟩ (.bool true) (by rw [hcr]; rfl)) (grownBy_putObj' _ D (.deferred none)) (fun r e => by cases e; exact ⟨_, hK', rfl⟩)
    refine ⟨.bool true, ?_, ⟨true, rfl, ?_⟩, ((HWB.out.trans (hB.mono HWB.out.size)).setCell (p := ⟨w.heap.size + 1 + 1, 0, none⟩) (by simp; omega) _).trans (belowK_b (w := w) (Nat.le_refl _) _ D _ _ (by have := HWB.out.size; omega) hK' rfl rfl)⟩
    · simp [results, Try.f11, go_sem, hc5]
    · refine ⟨fun _ y hy => ?_, fun _ => rfl⟩
      exact hal ⟨(y.1.id, y.1.host), List.mem_map_of_mem hy⟩ (List.mem_attach _ _)
  case stop =>
    rintro D c pre W hD hSp ⟨⟨rfl, ⟨x, hx, hnt⟩, hcr, hfr⟩, hB⟩ hK
    gi_wp2
    refine ⟨by simp, .inl ⟨_, _, rfl, run_takeDeferred hK, ?_⟩⟩
    have hc5 := cell_kept hcr (grownBy_putObj' W D (.deferred none)) (fun r e => by cases e; exact ⟨_, hK, rfl⟩)
    refine ⟨.bool false, ?_, ⟨false, rfl, ?_⟩, hB.trans (belowK_b (w := w) (Nat.le_refl _) _ D _ _ (by have := HWB.out.size; omega) hK rfl rfl)⟩
    · simp [results, Try.f11, go_sem, hc5]
    · refine ⟨(fun h9 => by cases h9), fun h9 => (hnt ?_).elim⟩
      obtain ⟨y, hy, hye⟩ := List.mem_map.1 x.2
      have h4 : y.1.id = x.1.1 := congrArg Prod.fst hye
      rw [← h4]
      exact h9 y hy
end Go.Proofs.Ytlelemjmknbnaaa
