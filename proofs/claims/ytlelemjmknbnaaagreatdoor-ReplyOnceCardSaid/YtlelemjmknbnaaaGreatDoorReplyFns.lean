/- Over, Reply, End. -/
import Derived.Test.YtlelemjmknbnaaaGreatDoorReplyMem
import Derived.Deep.RegionWith
namespace Go.Proofs.YtlelemjmknbnaaaGreatDoor
open Go.RowKit

set_option maxRecDepth 100000 in
set_option maxHeartbeats 2000000 in
theorem over_rd {B : Nat} {w : World} {q : Nat} {r : Rp} {most : Int} {av dv : Value} {R : List Nat} (h : RdR B w q r most av dv R) :
    Calls Tryz.prog 11 #[.pointer (some ⟨q, 0, none⟩)] w fun e w' => e = .returned (.bool (decide (r.came ≠ 7))) ∧ ∃ n, w' = w.drewN n := by
  have HC := Lib.hid (cameTo_any h)
  have HI := Lib.hid (fun W => errorsIs_any (r.came : Int) 7 W)
  generalize r.came = x at HC HI ⊢
  clear h
  by_cases h7 : x = 7
  · subst h7
    go_enter Tryz.func11, Tryz.ntmps11
    go_wp2_with (first | (go_at_call 19; refine (HC.out).mono ?_; rintro e w1 ⟨rfl, n1, rfl⟩) | (go_at_call 21; refine (HI.out _).mono ?_; rintro e w2 ⟨rfl, rfl⟩))
    go_ret
    exact ⟨rfl, n1, rfl⟩
  · have h8 : ((x : Int) == 7) = false := by simp; omega
    have HR := Lib.hid (show decide (x ≠ 7) = true by simpa using h7)
    rw [HR.out]
    rw [h8] at HI
    clear h7 h8 HR
    go_enter Tryz.func11, Tryz.ntmps11
    go_wp2_with (first | (go_at_call 19; refine (HC.out).mono ?_; rintro e w1 ⟨rfl, n1, rfl⟩) | (go_at_call 21; refine (HI.out _).mono ?_; rintro e w2 ⟨rfl, rfl⟩))
    go_ret
    exact ⟨rfl, n1, rfl⟩
theorem three_read {W : World} {g : Nat} {a b c : Value} {t : TypeId} (h : W.heap[g]? = some (.cells #[a, b, c] t (0, 0))) : W.cell? ⟨g, 0, none⟩ = some a ∧ W.cell? ⟨g, 1, none⟩ = some b ∧ W.cell? ⟨g, 2, none⟩ = some c ∧ W.frozen? ⟨g, 0, none⟩ = false ∧ W.frozen? ⟨g, 1, none⟩ = false ∧ W.frozen? ⟨g, 2, none⟩ = false := by
  simp [World.cell?, World.frozen?, h]
/-- What is laid into a block of three cells. -/
theorem three_cells {W : World} {g : Nat} {a b c x y z : Value} {t : TypeId} (h : W.heap[g]? = some (.cells #[a, b, c] t (0, 0))) :
    (((W.setCell ⟨g, 0, none⟩ x).setCell ⟨g, 1, none⟩ y).setCell ⟨g, 2, none⟩ z).cell? ⟨g, 0, none⟩ = some x ∧ (((W.setCell ⟨g, 0, none⟩ x).setCell ⟨g, 1, none⟩ y).setCell ⟨g, 2, none⟩ z).cell? ⟨g, 1, none⟩ = some y ∧ (((W.setCell ⟨g, 0, none⟩ x).setCell ⟨g, 1, none⟩ y).setCell ⟨g, 2, none⟩ z).cell? ⟨g, 2, none⟩ = some z := by
  have h1 := heap_setCell_same _ g 2 _ _ z (heap_setCell_same _ g 1 _ _ y (heap_setCell_same _ g 0 _ _ x h))
  simp [World.cell?, h1]
/-- What Reply answers. -/
def RyP (w : World) (r : Rp) (e : Ending) (w' : World) : Prop :=
  (∃ v, e = .returned (.tuple #[.agg #[.int .i64 ((if r.came = 0 then r.hd.status else 0 : Nat) : Int), v, .bool (decide (r.came = 0 ∧ r.hd.close = false ∧ r.rest = 0 ∧ r.ended = false))], .int .i64 (r.came : Int)]) ∧ Owned w.heap.size w' v (if r.came = 0 then (match r.body with | some d => d.body | none => []) else [])) ∧ Below w.heap.size w w'
theorem RyP.bad {w w' : World} {r : Rp} (h : r.came ≠ 0) (hb : Below w.heap.size w w') : RyP w r (.returned (.tuple #[.agg #[.int .i64 0, .slice none 0 0, .bool false], .int .i64 (r.came : Int)])) w' := by
  unfold RyP
  rw [if_neg h, if_neg h, decide_eq_false (fun h2 => h h2.1)]
  exact ⟨⟨_, rfl, World.ownsRow_nil _ _ _ _⟩, hb⟩
theorem RyP.good {w w' : World} {r : Rp} {d : Dc} (h : r.came = 0) (hd : r.body = some d) {v : Value} {re : Bool} (hr : re = (!r.hd.close && decide (r.rest = 0) && !r.ended)) (ho : Owned w.heap.size w' v d.body) (hb : Below w.heap.size w w') : RyP w r (.returned (.tuple #[.agg #[.int .i64 (r.hd.status : Int), v, .bool re], .int .i64 0])) w' := by
  unfold RyP
  rw [if_pos h, if_pos h, h, hd]
  have e : decide (0 = 0 ∧ r.hd.close = false ∧ r.rest = 0 ∧ r.ended = false) = re := by
    rw [hr]
    cases r.hd.close <;> cases r.ended <;> simp
  rw [e]
  exact ⟨⟨_, rfl, ho⟩, hb⟩
theorem came_body {r : Rp} (h : r.came = 0) : ∃ d, r.body = some d := by
  cases hb : r.body with
  | none =>
    rw [came_none hb] at h
    split at h
    · cases h
    · contradiction
  | some d => exact ⟨d, rfl⟩
set_option maxRecDepth 100000 in
set_option maxHeartbeats 4000000 in
theorem reply_bad {B : Nat} {w : World} {q : Nat} {r : Rp} {most : Int} {av dv : Value} {R : List Nat} (h : RdR B w q r most av dv R) (h0 : r.came ≠ 0) :
    Calls Tryz.prog 9 #[.pointer (some ⟨q, 0, none⟩)] w (RyP w r) := by
  have HBA := Lib.hid (below_alloc (B := w.heap.size) (w := w) (Nat.le_refl _) (.cells #[.int .i64 0, .slice none 0 0, .bool false] 28))
  have HC := Lib.hid (cameTo_any (h.below HBA.out))
  have HGG := Lib.hid (fun (w' : World) hb => RyP.bad (w := w) (w' := w') (r := r) h0 hb)
  have h1 : ((r.came : Int) == 0) = false := by simp; omega
  generalize RyP w r = Q at HGG ⊢
  generalize r.came = x at HC h1 HGG
  clear h h0
  go_enter Tryz.func9, Tryz.ntmps9
  go_wp2_with (go_at_call 19; refine (HC.out).mono ?_; rintro e w1 ⟨rfl, n1, rfl⟩)
  obtain ⟨t0, t1, t2⟩ := three_cells (W := (w.alloc (.cells #[.int .i64 0, .slice none 0 0, .bool false] 28)).drewN n1) (x := .int .i64 0) (y := .slice none 0 0) (z := .bool false) (heap_alloc_new w _)
  have hb : Below w.heap.size w (((((w.alloc (.cells #[.int .i64 0, .slice none 0 0, .bool false] 28)).drewN n1).setCell ⟨w.heap.size, 0, none⟩ (.int .i64 0)).setCell ⟨w.heap.size, 1, none⟩ (.slice none 0 0)).setCell ⟨w.heap.size, 2, none⟩ (.bool false)) := (((HBA.out.trans (below_drewN _ n1)).setCell (Nat.le_refl _) _).setCell (Nat.le_refl _) _).setCell (Nat.le_refl _) _
  exact bodyPost_ret (v := .tuple #[.agg #[.int .i64 0, .slice none 0 0, .bool false], .int .i64 (x : Int)]) (by simp [results, Tryz.f9, go_sem, t0, t1, t2]) rfl (HGG.out _ hb)
set_option maxRecDepth 100000 in
set_option maxHeartbeats 8000000 in
theorem reply_good {B : Nat} {w : World} {q : Nat} {r : Rp} {most : Int} {av dv : Value} {R : List Nat} (h : RdR B w q r most av dv R) (h0 : r.came = 0) (hl : ∀ d, r.body = some d → d.body.length ≤ 1000000) :
    Calls Tryz.prog 9 #[.pointer (some ⟨q, 0, none⟩)] w (RyP w r) := by
  obtain ⟨d, hd⟩ := came_body h0
  have HBA := Lib.hid (below_alloc (B := w.heap.size) (w := w) (Nat.le_refl _) (.cells #[.int .i64 0, .slice none 0 0, .bool false] 28))
  have h2 := h.below HBA.out
  have HC := Lib.hid (cameTo_any h2)
  rw [h0] at HC
  have HGG := Lib.hid (fun (w' : World) (v : Value) (re : Bool) hr ho hb => RyP.good (w := w) (w' := w') (r := r) h0 hd (v := v) (re := re) hr ho hb)
  obtain ⟨-, c1, -, -, c4, -, c6, -, -, c9, c10, -⟩ := h2.cells
  have hb := h2.body
  rw [hd] at hb
  obtain ⟨p, rfl, hdk⟩ := hb
  have HDB : Hid (∀ W, Turns [] (w.alloc (.cells #[.int .i64 0, .slice none 0 0, .bool false] 28)) W → Calls Tryz.prog 20 #[.pointer (some ⟨p, 0, none⟩)] W fun e w' => ∃ A c, e = .returned (.slice A d.body.length c) ∧ Owned (w.heap.size + 1) w' (.slice A d.body.length c) d.body ∧ Below w.heap.size w w' ∧ w'.heap[w.heap.size]? = some (.cells #[.int .i64 0, .slice none 0 0, .bool false] 28 (0, 0)) ∧ w'.cell? ⟨q, 1, none⟩ = some (.int .i64 (r.hd.status : Int))) := Lib.hid (fun W hW => (body_dk (hdk.turns hW (by simp)) (hl d hd)).mono fun e w' hh => by
    obtain ⟨⟨v, rfl, ho⟩, hb⟩ := hh
    have hs := hW.size
    rw [World.size_alloc] at hs
    obtain ⟨A, c, rfl, -⟩ := ho.reads
    exact ⟨A, c, rfl, ho.low (by omega), (HBA.out.trans (hW.below (by simp) (by simp))).trans (hb.mono (by omega)), (hb.block _ (by omega)).trans ((hW.block _ (by simp) (by simp)).trans (heap_alloc_new w _)), (hb.cell (p := ⟨q, 1, none⟩) (Nat.lt_of_lt_of_le h2.lt hW.size)).trans ((World.cell?_of_block (a := ⟨q, 1, none⟩) (hW.block q h2.lt (by simp))).trans c1)⟩)
  generalize RyP w r = Q at HGG ⊢
  generalize r.hd.close = cl at c4 HGG
  generalize r.ended = en at c10 HGG
  generalize r.rest = rs at c9 HGG
  generalize r.hd.status = st at c1 HGG HDB
  obtain ⟨n, hn⟩ : ∃ n, n = d.body.length := ⟨_, rfl⟩
  rw [← hn] at HDB
  clear h h0 hl h2 hdk hd hn
  have key : ∀ re, re = (!cl && decide (rs = 0) && !en) → ∀ w2 A2 c2, Owned (w.heap.size + 1) w2 (.slice A2 n c2) d.body → Below w.heap.size w w2 → w2.heap[w.heap.size]? = some (.cells #[.int .i64 0, .slice none 0 0, .bool false] 28 (0, 0)) →
      ((((w2.setCell ⟨w.heap.size, 0, none⟩ (.int .i64 (st : Int))).setCell ⟨w.heap.size, 1, none⟩ (.slice A2 n c2)).setCell ⟨w.heap.size, 2, none⟩ (.bool re)).cell? ⟨w.heap.size, 0, none⟩ = some (.int .i64 (st : Int)) ∧ (((w2.setCell ⟨w.heap.size, 0, none⟩ (.int .i64 (st : Int))).setCell ⟨w.heap.size, 1, none⟩ (.slice A2 n c2)).setCell ⟨w.heap.size, 2, none⟩ (.bool re)).cell? ⟨w.heap.size, 1, none⟩ = some (.slice A2 n c2) ∧ (((w2.setCell ⟨w.heap.size, 0, none⟩ (.int .i64 (st : Int))).setCell ⟨w.heap.size, 1, none⟩ (.slice A2 n c2)).setCell ⟨w.heap.size, 2, none⟩ (.bool re)).cell? ⟨w.heap.size, 2, none⟩ = some (.bool re)) ∧ Q (.returned (.tuple #[.agg #[.int .i64 (st : Int), .slice A2 n c2, .bool re], .int .i64 0])) (((w2.setCell ⟨w.heap.size, 0, none⟩ (.int .i64 (st : Int))).setCell ⟨w.heap.size, 1, none⟩ (.slice A2 n c2)).setCell ⟨w.heap.size, 2, none⟩ (.bool re)) := by
    intro re hre w2 A2 c2 ho hb hh
    exact ⟨three_cells hh, HGG.out _ _ re hre ((ho.turns (F := [w.heap.size]) (((Turns.setCell _ _ _ (by simp)).trans (Turns.setCell (F := [w.heap.size]) _ _ _ (by simp)) (fun i hi => .inl hi)).trans (Turns.setCell (F := [w.heap.size]) _ _ _ (by simp)) (fun i hi => .inl hi)) (fun g hg hm => by have := (World.ownsRow.lt ho g hg).1; rw [List.mem_singleton] at hm; omega)).low (Nat.le_succ _)) (((hb.setCell (Nat.le_refl _) _).setCell (Nat.le_refl _) _).setCell (Nat.le_refl _) _)⟩
  have KEY := Lib.hid key
  clear key HGG
  cases cl with
  | true =>
    have KEY2 := Lib.hid (KEY.out false (by simp))
    go_enter Tryz.func9, Tryz.ntmps9
    go_wp2_with (go_at_call 19; refine (HC.out).mono ?_; rintro e w1 ⟨rfl, n1, rfl⟩)
    go_region_with (go_at_call 20; refine (HDB.out _ (by exact ⟨rfl, rfl, rfl, Nat.le_refl _, fun _ _ _ => rfl⟩)).mono ?_; rintro e w2 ⟨A2, c2, rfl, ho2, hb2, hh2, d1⟩; have HO2 := Lib.hid ho2; have HB2 := Lib.hid hb2; have HH2 := Lib.hid hh2; obtain ⟨m0, m1, m2, k0, k1, k2⟩ := three_read hh2; clear ho2 hb2 hh2)
    all_goals
      go_wp2
      obtain ⟨⟨t0, t1, t2⟩, HQ⟩ := KEY2.out w2 A2 c2 HO2.out HB2.out HH2.out
      exact bodyPost_ret (v := .tuple #[.agg #[.int .i64 (st : Int), .slice A2 n c2, .bool false], .int .i64 0]) (by simp [results, Tryz.f9, go_sem, t0, t1, t2]) rfl HQ
  | false =>
    by_cases hr0 : rs = 0
    · subst hr0
      cases en with
      | true =>
        have KEY2 := Lib.hid (KEY.out false rfl)
        go_enter Tryz.func9, Tryz.ntmps9
        go_wp2_with (go_at_call 19; refine (HC.out).mono ?_; rintro e w1 ⟨rfl, n1, rfl⟩)
        go_region_with (go_at_call 20; refine (HDB.out _ (by exact ⟨rfl, rfl, rfl, Nat.le_refl _, fun _ _ _ => rfl⟩)).mono ?_; rintro e w2 ⟨A2, c2, rfl, ho2, hb2, hh2, d1⟩; have HO2 := Lib.hid ho2; have HB2 := Lib.hid hb2; have HH2 := Lib.hid hh2; obtain ⟨m0, m1, m2, k0, k1, k2⟩ := three_read hh2; clear ho2 hb2 hh2)
        all_goals
          go_wp2
          obtain ⟨⟨t0, t1, t2⟩, HQ⟩ := KEY2.out w2 A2 c2 HO2.out HB2.out HH2.out
          exact bodyPost_ret (v := .tuple #[.agg #[.int .i64 (st : Int), .slice A2 n c2, .bool false], .int .i64 0]) (by simp [results, Tryz.f9, go_sem, t0, t1, t2]) rfl HQ
      | false =>
        have KEY2 := Lib.hid (KEY.out true rfl)
        go_enter Tryz.func9, Tryz.ntmps9
        go_wp2_with (go_at_call 19; refine (HC.out).mono ?_; rintro e w1 ⟨rfl, n1, rfl⟩)
        go_region_with (go_at_call 20; refine (HDB.out _ (by exact ⟨rfl, rfl, rfl, Nat.le_refl _, fun _ _ _ => rfl⟩)).mono ?_; rintro e w2 ⟨A2, c2, rfl, ho2, hb2, hh2, d1⟩; have HO2 := Lib.hid ho2; have HB2 := Lib.hid hb2; have HH2 := Lib.hid hh2; obtain ⟨m0, m1, m2, k0, k1, k2⟩ := three_read hh2; clear ho2 hb2 hh2)
        all_goals
          go_wp2
          obtain ⟨⟨t0, t1, t2⟩, HQ⟩ := KEY2.out w2 A2 c2 HO2.out HB2.out HH2.out
          exact bodyPost_ret (v := .tuple #[.agg #[.int .i64 (st : Int), .slice A2 n c2, .bool true], .int .i64 0]) (by simp [results, Tryz.f9, go_sem, t0, t1, t2]) rfl HQ
    · have KEY2 := Lib.hid (KEY.out false (by simp [hr0]))
      have h1 : ((rs : Int) == 0) = false := by simp; omega
      clear hr0
      go_enter Tryz.func9, Tryz.ntmps9
      go_wp2_with (go_at_call 19; refine (HC.out).mono ?_; rintro e w1 ⟨rfl, n1, rfl⟩)
      go_region_with (go_at_call 20; refine (HDB.out _ (by exact ⟨rfl, rfl, rfl, Nat.le_refl _, fun _ _ _ => rfl⟩)).mono ?_; rintro e w2 ⟨A2, c2, rfl, ho2, hb2, hh2, d1⟩; have HO2 := Lib.hid ho2; have HB2 := Lib.hid hb2; have HH2 := Lib.hid hh2; obtain ⟨m0, m1, m2, k0, k1, k2⟩ := three_read hh2; clear ho2 hb2 hh2)
      all_goals
        go_wp2
        obtain ⟨⟨t0, t1, t2⟩, HQ⟩ := KEY2.out w2 A2 c2 HO2.out HB2.out HH2.out
        exact bodyPost_ret (v := .tuple #[.agg #[.int .i64 (st : Int), .slice A2 n c2, .bool false], .int .i64 0]) (by simp [results, Tryz.f9, go_sem, t0, t1, t2]) rfl HQ
theorem reply_any {B : Nat} {w : World} {q : Nat} {r : Rp} {most : Int} {av dv : Value} {R : List Nat} (h : RdR B w q r most av dv R) (hl : ∀ d, r.body = some d → d.body.length ≤ 1000000) :
    Calls Tryz.prog 9 #[.pointer (some ⟨q, 0, none⟩)] w (RyP w r) := by
  by_cases h0 : r.came = 0
  · exact reply_good h h0 hl
  · exact reply_bad h h0
end Go.Proofs.YtlelemjmknbnaaaGreatDoor
