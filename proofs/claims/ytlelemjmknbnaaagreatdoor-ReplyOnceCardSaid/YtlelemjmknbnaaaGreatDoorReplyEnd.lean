/- End. -/
import Derived.Test.YtlelemjmknbnaaaGreatDoorReplyFns
namespace Go.Proofs.YtlelemjmknbnaaaGreatDoor
open Go.RowKit

/-- A new answer is stored, cell by cell. -/
def lay8 (W : World) (q : Nat) (x0 x1 x2 x3 x4 x5 x6 x7 : Value) : World :=
  (((((((W.setCell ⟨q, 0, none⟩ x0).setCell ⟨q, 1, none⟩ x1).setCell ⟨q, 2, none⟩ x2).setCell ⟨q, 3, none⟩ x3).setCell ⟨q, 4, none⟩ x4).setCell ⟨q, 5, none⟩ x5).setCell ⟨q, 6, none⟩ x6).setCell ⟨q, 7, none⟩ x7
theorem lay8_heap {W : World} {q : Nat} {a0 a1 a2 a3 a4 a5 a6 a7 a8 a9 a10 : Value} {t : TypeId} (h : W.heap[q]? = some (.cells #[a0, a1, a2, a3, a4, a5, a6, a7, a8, a9, a10] t (0, 0))) (x0 x1 x2 x3 x4 x5 x6 x7 : Value) :
    (lay8 W q x0 x1 x2 x3 x4 x5 x6 x7).heap[q]? = some (.cells #[x0, x1, x2, x3, x4, x5, x6, x7, a8, a9, a10] t (0, 0)) := by
  unfold lay8
  have h0 : (W.setCell ⟨q, 0, none⟩ x0).heap[q]? = some (.cells #[x0, a1, a2, a3, a4, a5, a6, a7, a8, a9, a10] t (0, 0)) := heap_setCell_same W q 0 _ _ _ h
  generalize W.setCell ⟨q, 0, none⟩ x0 = W0 at h0 ⊢
  have h1 : (W0.setCell ⟨q, 1, none⟩ x1).heap[q]? = some (.cells #[x0, x1, a2, a3, a4, a5, a6, a7, a8, a9, a10] t (0, 0)) := heap_setCell_same W0 q 1 _ _ _ h0
  generalize W0.setCell ⟨q, 1, none⟩ x1 = W1 at h1 ⊢
  have h2 : (W1.setCell ⟨q, 2, none⟩ x2).heap[q]? = some (.cells #[x0, x1, x2, a3, a4, a5, a6, a7, a8, a9, a10] t (0, 0)) := heap_setCell_same W1 q 2 _ _ _ h1
  generalize W1.setCell ⟨q, 2, none⟩ x2 = W2 at h2 ⊢
  have h3 : (W2.setCell ⟨q, 3, none⟩ x3).heap[q]? = some (.cells #[x0, x1, x2, x3, a4, a5, a6, a7, a8, a9, a10] t (0, 0)) := heap_setCell_same W2 q 3 _ _ _ h2
  generalize W2.setCell ⟨q, 3, none⟩ x3 = W3 at h3 ⊢
  have h4 : (W3.setCell ⟨q, 4, none⟩ x4).heap[q]? = some (.cells #[x0, x1, x2, x3, x4, a5, a6, a7, a8, a9, a10] t (0, 0)) := heap_setCell_same W3 q 4 _ _ _ h3
  generalize W3.setCell ⟨q, 4, none⟩ x4 = W4 at h4 ⊢
  have h5 : (W4.setCell ⟨q, 5, none⟩ x5).heap[q]? = some (.cells #[x0, x1, x2, x3, x4, x5, a6, a7, a8, a9, a10] t (0, 0)) := heap_setCell_same W4 q 5 _ _ _ h4
  generalize W4.setCell ⟨q, 5, none⟩ x5 = W5 at h5 ⊢
  have h6 : (W5.setCell ⟨q, 6, none⟩ x6).heap[q]? = some (.cells #[x0, x1, x2, x3, x4, x5, x6, a7, a8, a9, a10] t (0, 0)) := heap_setCell_same W5 q 6 _ _ _ h5
  generalize W5.setCell ⟨q, 6, none⟩ x6 = W6 at h6 ⊢
  have h7 : (W6.setCell ⟨q, 7, none⟩ x7).heap[q]? = some (.cells #[x0, x1, x2, x3, x4, x5, x6, x7, a8, a9, a10] t (0, 0)) := heap_setCell_same W6 q 7 _ _ _ h6
  generalize W6.setCell ⟨q, 7, none⟩ x7 = W7 at h7 ⊢
  exact h7
theorem turns_one {F : List Nat} {w w' : World} {q j : Nat} {v : Value} (h : Turns F w w') (hq : q ∈ F) : Turns F w (w'.setCell ⟨q, j, none⟩ v) := h.trans (Turns.setCell (F := F) _ _ _ hq) (fun i hi => .inl hi)
theorem lay8_turns (W : World) (q : Nat) (x0 x1 x2 x3 x4 x5 x6 x7 : Value) : Turns [q] W (lay8 W q x0 x1 x2 x3 x4 x5 x6 x7) := by
  have hq : q ∈ [q] := List.mem_singleton.2 rfl
  exact turns_one (turns_one (turns_one (turns_one (turns_one (turns_one (turns_one (turns_one (Turns.refl _ _) hq) hq) hq) hq) hq) hq) hq) hq
/-- What End leaves. -/
def EnP (B : Nat) (w : World) (q : Nat) (r : Rp) (most : Int) (F : List Nat) (e : Ending) (w' : World) : Prop :=
  (∃ v, e = .returned v) ∧ ∃ F', Rdr B w' q r.fin most F' ∧ Turns F w w' ∧ ∀ g ∈ F', g ∈ F
theorem fin_some {r : Rp} {d : Dc} (h : r.body = some d) : r.fin = { r with body := some d.ended, ended := true } := by
  unfold Rp.fin
  rw [h]
theorem fin_none {r : Rp} (h : r.body = none) (h0 : r.wrong = 0) : r.fin = { r with ahead := [], hd := hd0, whole := false, body := none, wrong := 15, ended := true } := by
  unfold Rp.fin
  rw [h]
  simp only []
  rw [if_pos h0]
theorem fin_wrong {r : Rp} (h : r.body = none) (h0 : r.wrong ≠ 0) : r.fin = { r with ended := true } := by
  unfold Rp.fin
  rw [h]
  simp only []
  rw [if_neg h0]
set_option maxRecDepth 100000 in
set_option maxHeartbeats 4000000 in
theorem rend_some {B : Nat} {w : World} {q : Nat} {r : Rp} {most : Int} {av dv : Value} {R : List Nat} (h : RdR B w q r most av dv R) {d : Dc} (hd : r.body = some d) :
    Calls Tryz.prog 8 #[.pointer (some ⟨q, 0, none⟩)] w (EnP B w q r most (footR q av R)) := by
  obtain ⟨-, -, -, -, -, -, c6, -, -, -, c10, cf⟩ := h.cells
  have cf10 := cf 10
  have hb := h.body
  rw [hd] at hb
  obtain ⟨p, rfl, hdk⟩ := hb
  have HE : Hid (Calls Tryz.prog 18 #[.pointer (some ⟨p, 0, none⟩)] w fun e w' => (∃ v, e = .returned v) ∧ (w'.cell? ⟨q, 10, none⟩ = some (.bool r.ended) ∧ w'.frozen? ⟨q, 10, none⟩ = false) ∧ EnP B w q r most (footR q av R) (.returned (.tuple #[])) (w'.setCell ⟨q, 10, none⟩ (.bool true))) := Lib.hid ((end_dk hdk).mono fun e w' hh => by
    obtain ⟨hv, R', hd', ht, hR⟩ := hh
    obtain ⟨h1, h2, h3⟩ := h.bodyTo ht hd' (fun g hg => .inl (hR g hg))
    obtain ⟨-, -, -, -, -, -, -, -, -, -, d10, df⟩ := h1.cells
    refine ⟨hv, ⟨d10, df 10⟩, ⟨_, rfl⟩, footR q av R', ?_, h2.trans (Turns.setCell _ _ _ (List.mem_singleton.2 rfl)) (fun i hi => .inl (foot_q i hi)), fun g hg => ?_⟩
    · rw [fin_some hd]
      exact ⟨_, _, _, h1.setOwn (Turns.setCell _ _ _ (List.mem_singleton.2 rfl)) (heap_setCell_same _ q 10 _ _ _ h1.head) rfl rfl rfl, rfl⟩
    · unfold footR at hg ⊢
      rw [List.mem_cons, List.mem_append] at hg
      rcases hg with rfl | hg | hg
      · simp
      · simp [hg]
      · simp [hR g hg])
  generalize EnP B w q r most (footR q av R) = Q at HE ⊢
  clear h hd hdk cf
  go_enter Tryz.func8, Tryz.ntmps8
  go_wp2_with (go_at_call 18; refine (HE.out).mono ?_; rintro e w1 ⟨⟨v1, rfl⟩, ⟨m1, m2⟩, hq⟩; have HQ := Lib.hid hq; clear hq)
  exact bodyPost_end (v := .tuple #[]) (by simp [results, Tryz.f8, go_sem]) rfl HQ.out
set_option maxRecDepth 100000 in
set_option maxHeartbeats 4000000 in
theorem rend_none {B : Nat} {w : World} {q : Nat} {r : Rp} {most : Int} {av dv : Value} {R : List Nat} (h : RdR B w q r most av dv R) (hd : r.body = none) (h0 : r.wrong = 0) :
    Calls Tryz.prog 8 #[.pointer (some ⟨q, 0, none⟩)] w (EnP B w q r most (footR q av R)) := by
  have hb := h.body
  rw [hd] at hb
  obtain ⟨rfl, rfl⟩ := hb
  obtain ⟨c0, c1, c2, c3, c4, c5, c6, c7, -, -, c10, cf⟩ := h.cells
  have f0 := cf 0
  have f1 := cf 1
  have f2 := cf 2
  have f3 := cf 3
  have f4 := cf 4
  have f5 := cf 5
  have f6 := cf 6
  have f7 := cf 7
  have f10 := cf 10
  have HO := Lib.hid (over_rd h)
  rw [came_none hd, if_pos h0] at HO
  have HH := Lib.hid h
  have HF := Lib.hid (fin_none hd h0)
  clear h hd h0 cf
  go_enter Tryz.func8, Tryz.ntmps8
  go_wp2_with (go_at_call 11; refine (HO.out).mono ?_; rintro e w1 ⟨rfl, n1, rfl⟩)
  refine bodyPost_end (v := .tuple #[]) (by simp [results, Tryz.f8, go_sem]) rfl ⟨⟨_, rfl⟩, [q], ?_, ?_, fun g hg => foot_q g hg⟩
  · rw [HF.out]
    have h2 : RdR B (w.drewN n1) q r most av (.pointer none) [] := HH.out.turns (F := []) ⟨rfl, rfl, rfl, Nat.le_refl _, fun _ _ _ => rfl⟩ (by simp)
    have h3 := heap_setCell_same _ q 10 _ _ (.bool true) (lay8_heap h2.head (.slice none 0 0) (.int .i64 0) (.int .i64 0) (.bool false) (.bool false) (.bool false) (.pointer none) (.int .i64 15))
    exact ⟨.slice none 0 0, .pointer none, [], h2.answer h3 rfl ⟨rfl, rfl⟩ rfl (by simp), by simp [footR, ownB, Value.ownBlock]⟩
  · have h1 : Turns (footR q av []) w (w.drewN n1) := ⟨rfl, rfl, rfl, Nat.le_refl _, fun _ _ _ => rfl⟩
    exact turns_one (h1.trans (lay8_turns (w.drewN n1) q _ _ _ _ _ _ _ _) (fun i hi => .inl (foot_q i hi))) (by simp [footR])
set_option maxRecDepth 100000 in
set_option maxHeartbeats 4000000 in
theorem rend_wrong {B : Nat} {w : World} {q : Nat} {r : Rp} {most : Int} {av dv : Value} {R : List Nat} (h : RdR B w q r most av dv R) (hd : r.body = none) (h0 : r.wrong ≠ 0) (h7 : r.wrong ≠ 7) :
    Calls Tryz.prog 8 #[.pointer (some ⟨q, 0, none⟩)] w (EnP B w q r most (footR q av R)) := by
  have hb := h.body
  rw [hd] at hb
  obtain ⟨rfl, rfl⟩ := hb
  obtain ⟨-, -, -, -, -, -, c6, -, -, -, c10, cf⟩ := h.cells
  have f10 := cf 10
  have HO := Lib.hid (over_rd h)
  rw [came_none hd, if_neg h0, decide_eq_true h7] at HO
  have HH := Lib.hid h
  have HF := Lib.hid (fin_wrong hd h0)
  clear h hd h0 cf h7
  go_enter Tryz.func8, Tryz.ntmps8
  go_wp2_with (go_at_call 11; refine (HO.out).mono ?_; rintro e w1 ⟨rfl, n1, rfl⟩)
  refine bodyPost_end (v := .tuple #[]) (by simp [results, Tryz.f8, go_sem]) rfl ⟨⟨_, rfl⟩, footR q av [], ?_, ?_, fun g hg => hg⟩
  · rw [HF.out]
    have h2 : RdR B (w.drewN n1) q r most av (.pointer none) [] := HH.out.turns (F := []) ⟨rfl, rfl, rfl, Nat.le_refl _, fun _ _ _ => rfl⟩ (by simp)
    exact ⟨_, _, _, h2.setOwn (Turns.setCell _ _ _ (List.mem_singleton.2 rfl)) (heap_setCell_same _ q 10 _ _ _ h2.head) rfl rfl rfl, rfl⟩
  · have h1 : Turns (footR q av []) w (w.drewN n1) := ⟨rfl, rfl, rfl, Nat.le_refl _, fun _ _ _ => rfl⟩
    exact turns_one h1 (by simp [footR])
/-- The connection ended. -/
theorem end_rdr {B : Nat} {w : World} {q : Nat} {r : Rp} {most : Int} {F : List Nat} (h : Rdr B w q r most F) (h7 : r.wrong ≠ 7) :
    Calls Tryz.prog 8 #[.pointer (some ⟨q, 0, none⟩)] w (EnP B w q r most F) := by
  obtain ⟨av, dv, R, h, rfl⟩ := h
  cases hd : r.body with
  | some d => exact rend_some h hd
  | none =>
    by_cases h0 : r.wrong = 0
    · exact rend_none h hd h0
    · exact rend_wrong h hd h0 h7
end Go.Proofs.YtlelemjmknbnaaaGreatDoor
