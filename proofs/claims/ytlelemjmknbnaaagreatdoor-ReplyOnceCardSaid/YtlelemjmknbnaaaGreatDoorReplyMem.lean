/- A reader in memory. -/
import Derived.Test.YtlelemjmknbnaaaGreatDoorReplyPlain
import Derived.Test.YtlelemjmknbnaaaGreatDoorReplyIs
namespace Go.Proofs.YtlelemjmknbnaaaGreatDoor
open Go.RowKit

/-- The decoder of a reader's body, or none; its blocks. -/
def BodyR (B : Nat) (w : World) (b : Option Dc) (dv : Value) (R : List Nat) : Prop :=
  match b with
  | none => dv = .pointer none ∧ R = []
  | some d => ∃ p, dv = .pointer (some ⟨p, 0, none⟩) ∧ Dk B w p d R
theorem BodyR.turns {B : Nat} {w w' : World} {b : Option Dc} {dv : Value} {R F : List Nat} (h : BodyR B w b dv R) (ht : Turns F w w') (hF : ∀ g ∈ R, g ∉ F) : BodyR B w' b dv R := by
  cases b with
  | none => exact h
  | some d =>
    obtain ⟨p, hv, hd⟩ := h
    exact ⟨p, hv, hd.turns ht hF⟩
theorem BodyR.lt {B : Nat} {w : World} {b : Option Dc} {dv : Value} {R : List Nat} (h : BodyR B w b dv R) : ∀ g ∈ R, g < w.heap.size := by
  cases b with
  | none => rw [h.2]; simp
  | some d =>
    obtain ⟨p, hv, hd⟩ := h
    exact hd.lt
theorem Dk.low {B : Nat} {w : World} {p : Nat} {d : Dc} {R : List Nat} (h : Dk B w p d R) (hB : B ≤ w.heap.size) : p ∈ R ∧ B ≤ p := by
  obtain ⟨lv, bv, nv, K, hd, hn, hk, rfl⟩ := h
  exact ⟨by simp [foot], hd.low⟩
/-- A reader's cells. -/
structure RdR (B : Nat) (w : World) (q : Nat) (r : Rp) (most : Int) (av dv : Value) (R : List Nat) : Prop where
  head : w.heap[q]? = some (.cells #[av, .int .i64 (r.hd.status : Int), .int .i64 r.hd.length, .bool r.hd.chunked, .bool r.hd.close, .bool r.whole, dv, .int .i64 (r.wrong : Int), .int .i64 most, .int .i64 (r.rest : Int), .bool r.ended] 47 (0, 0))
  low : B ≤ q
  ahead : Owned B w av r.ahead
  body : BodyR B w r.body dv R
  room : (r.room : Int) = max most 0
  offA : q ∉ ownB av
  offR : q ∉ R
  apart : ∀ g ∈ ownB av, g ∉ R
def footR (q : Nat) (av : Value) (R : List Nat) : List Nat := q :: (ownB av ++ R)
namespace RdR
variable {B : Nat} {w w' : World} {q : Nat} {r : Rp} {most : Int} {av dv : Value} {R : List Nat}
theorem lt (h : RdR B w q r most av dv R) : q < w.heap.size := lt_of_block h.head
theorem cells (h : RdR B w q r most av dv R) : w.cell? ⟨q, 0, none⟩ = some av ∧ w.cell? ⟨q, 1, none⟩ = some (.int .i64 (r.hd.status : Int)) ∧ w.cell? ⟨q, 2, none⟩ = some (.int .i64 r.hd.length) ∧ w.cell? ⟨q, 3, none⟩ = some (.bool r.hd.chunked) ∧ w.cell? ⟨q, 4, none⟩ = some (.bool r.hd.close) ∧ w.cell? ⟨q, 5, none⟩ = some (.bool r.whole) ∧ w.cell? ⟨q, 6, none⟩ = some dv ∧ w.cell? ⟨q, 7, none⟩ = some (.int .i64 (r.wrong : Int)) ∧ w.cell? ⟨q, 8, none⟩ = some (.int .i64 most) ∧ w.cell? ⟨q, 9, none⟩ = some (.int .i64 (r.rest : Int)) ∧ w.cell? ⟨q, 10, none⟩ = some (.bool r.ended) ∧ ∀ j, w.frozen? ⟨q, j, none⟩ = false := by
  simp [World.cell?, World.frozen?, h.head]
theorem ltF (h : RdR B w q r most av dv R) : ∀ g ∈ footR q av R, g < w.heap.size := by
  intro g hg
  unfold footR at hg
  rw [List.mem_cons, List.mem_append] at hg
  rcases hg with rfl | hg | hg
  · exact h.lt
  · unfold ownB at hg
    rw [Option.mem_toList] at hg
    exact (World.ownsRow.lt h.ahead g hg).2
  · exact h.body.lt g hg
theorem turns (h : RdR B w q r most av dv R) {F : List Nat} (ht : Turns F w w') (hF : ∀ g ∈ footR q av R, g ∉ F) : RdR B w' q r most av dv R where
  head := (ht.block q h.lt (hF q (by simp [footR]))).trans h.head
  low := h.low
  ahead := h.ahead.turns ht (fun g hg => hF g (by unfold footR ownB; rw [hg]; simp))
  body := h.body.turns ht (fun g hg => hF g (by unfold footR; simp [hg]))
  room := h.room
  offA := h.offA
  offR := h.offR
  apart := h.apart
theorem below (h : RdR B w q r most av dv R) (hb : Below w.heap.size w w') : RdR B w' q r most av dv R := h.turns (F := []) (Turns.of_below hb (Nat.le_refl _)) (by simp)
end RdR
/-- A reader at q, with all its blocks. -/
def Rdr (B : Nat) (w : World) (q : Nat) (r : Rp) (most : Int) (F : List Nat) : Prop := ∃ av dv R, RdR B w q r most av dv R ∧ F = footR q av R
set_option maxRecDepth 100000 in
set_option maxHeartbeats 2000000 in
theorem rnew_any {B : Nat} (w : World) (hB : B ≤ w.heap.size) (most : Int) (room : Nat) (hr : (room : Int) = max most 0) :
    Calls Tryz.prog 6 #[.int .i64 most] w fun e w' => e = .returned (.pointer (some ⟨w.heap.size, 0, none⟩)) ∧ Rdr B w' w.heap.size (Rp.made room) most [w.heap.size] ∧ Below w.heap.size w w' := by
  have HR := Lib.hid hr
  have HB := Lib.hid hB
  have HA := Lib.hid (fun o => below_alloc (B := w.heap.size) (w := w) (Nat.le_refl _) o)
  clear hr hB
  go_enter Tryz.func6, Tryz.ntmps6
  go_wp2
  go_ret
  exact ⟨rfl, ⟨.slice none 0 0, .pointer none, [], ⟨heap_alloc_new w _, HB.out, World.ownsRow_nil _ _ _ _, ⟨rfl, rfl⟩, HR.out, by simp [ownB, Value.ownBlock], by simp, by simp⟩, by simp [footR, ownB, Value.ownBlock]⟩, HA.out _⟩
/-- What it came to. -/
theorem came_none {r : Rp} (h : r.body = none) : r.came = if r.wrong = 0 then 7 else r.wrong := by
  unfold Rp.came
  rw [h]
theorem came_some {r : Rp} {d : Dc} (h : r.body = some d) : r.came = if d.wrong = 0 ∧ d.over = false then 7 else d.wrong := by
  unfold Rp.came
  rw [h]
set_option maxRecDepth 100000 in
set_option maxHeartbeats 2000000 in
theorem cameTo_any {B : Nat} {w : World} {q : Nat} {r : Rp} {most : Int} {av dv : Value} {R : List Nat} (h : RdR B w q r most av dv R) :
    Calls Tryz.prog 19 #[.pointer (some ⟨q, 0, none⟩)] w fun e w' => e = .returned (.int .i64 (r.came : Int)) ∧ ∃ n, w' = w.drewN n := by
  obtain ⟨-, -, -, -, -, -, c6, c7, -, -, -, -⟩ := h.cells
  have hb := h.body
  cases hbd : r.body with
  | none =>
    rw [hbd] at hb
    obtain ⟨rfl, -⟩ := hb
    rw [came_none hbd]
    generalize r.wrong = x at c7 ⊢
    clear h hbd
    by_cases h0 : x = 0
    · subst h0
      go_enter Tryz.func19, Tryz.ntmps19
      go_wp2
      go_ret
      exact ⟨rfl, 0, rfl⟩
    · have h1 : ((x : Int) == 0) = false := by simp; omega
      have HR := Lib.hid (show (if x = 0 then 7 else x) = x from if_neg h0)
      rw [HR.out]
      clear h0 HR
      go_enter Tryz.func19, Tryz.ntmps19
      go_wp2
      go_ret
      exact ⟨rfl, 0, rfl⟩
  | some d =>
    rw [hbd] at hb
    obtain ⟨p, rfl, hd⟩ := hb
    have HW : Hid (∀ n, Calls Tryz.prog 30 #[.pointer (some ⟨p, 0, none⟩)] (w.drewN n) fun en w' => en = .returned (.int .i64 (d.wrong : Int)) ∧ w.drewN n = w') := Lib.hid (fun n => wrong_dk (hd.turns (F := []) (Turns.of_below (below_drewN w n) (Nat.le_refl _)) (by simp)))
    have HD : Hid (∀ n, Calls Tryz.prog 31 #[.pointer (some ⟨p, 0, none⟩)] (w.drewN n) fun en w' => en = .returned (.bool (d.over && decide (d.wrong = 0))) ∧ w.drewN n = w') := Lib.hid (fun n => done_dk (hd.turns (F := []) (Turns.of_below (below_drewN w n) (Nat.le_refl _)) (by simp)))
    rw [came_some hbd]
    generalize d.wrong = x at HW HD ⊢
    generalize d.over = o at HD ⊢
    clear h hbd hd
    by_cases h0 : x = 0
    · subst h0
      cases o
      all_goals
        simp only [decide_true, Bool.and_true, Bool.false_and, Bool.true_and] at HD
        go_enter Tryz.func19, Tryz.ntmps19
        go_wp2
        go_quiet (first | (go_at_call 30; exact Calls.quiet_of_same ((HW.out _).mono fun _ _ h => ⟨h.1, h.2.symm⟩)) | (go_at_call 31; exact Calls.quiet_of_same ((HD.out _).mono fun _ _ h => ⟨h.1, h.2.symm⟩)))
        go_wp2
        go_ret
        exact ⟨rfl, nq, rfl⟩
    · have h1 : ((x : Int) == 0) = false := by simp; omega
      have HR := Lib.hid (show (if x = 0 ∧ o = false then 7 else x) = x from if_neg (fun h => h0 h.1))
      rw [HR.out]
      rw [decide_eq_false h0, Bool.and_false] at HD
      clear h0 HR
      go_enter Tryz.func19, Tryz.ntmps19
      go_wp2
      go_quiet (first | (go_at_call 30; exact Calls.quiet_of_same ((HW.out _).mono fun _ _ h => ⟨h.1, h.2.symm⟩)) | (go_at_call 31; exact Calls.quiet_of_same ((HD.out _).mono fun _ _ h => ⟨h.1, h.2.symm⟩)))
      go_wp2
      go_ret
      exact ⟨rfl, nq, rfl⟩
/-- The decoder of a reader turned. -/
theorem RdR.bodyTo {B : Nat} {w w' : World} {q : Nat} {r : Rp} {most : Int} {av : Value} {R R' : List Nat} {p : Nat} {d' : Dc} (h : RdR B w q r most av (.pointer (some ⟨p, 0, none⟩)) R) (ht : Turns R w w') (hd : Dk B w' p d' R') (hR : ∀ g ∈ R', g ∈ R ∨ w.heap.size ≤ g) :
    RdR B w' q { r with body := some d' } most av (.pointer (some ⟨p, 0, none⟩)) R' ∧ Turns (footR q av R) w w' ∧ ∀ g ∈ footR q av R', g ∈ footR q av R ∨ w.heap.size ≤ g where
  left := {
    head := (ht.block q h.lt h.offR).trans h.head
    low := h.low
    ahead := h.ahead.turns ht (fun g hg => h.apart g (ownB_mem hg))
    body := ⟨p, rfl, hd⟩
    room := h.room
    offA := h.offA
    offR := fun hm => by
      rcases hR q hm with h1 | h1
      · exact h.offR h1
      · have := h.lt; omega
    apart := fun g hg hm => by
      rcases hR g hm with h1 | h1
      · exact h.apart g hg h1
      · have := h.ltF g (by simp [footR, hg]); omega }
  right := ⟨ht.mono (fun i hi => by simp [footR, hi]), fun g hg => by
    unfold footR at hg ⊢
    rw [List.mem_cons, List.mem_append] at hg
    rcases hg with rfl | hg | hg
    · simp
    · simp [hg]
    · rcases hR g hg with h1 | h1
      · simp [h1]
      · exact .inr h1⟩
theorem foot_q {q : Nat} {av : Value} {R : List Nat} : ∀ g ∈ [q], g ∈ footR q av R := by
  intro g hg
  rw [List.mem_singleton] at hg
  subst hg
  simp [footR]
/-- Own cells of a reader are set, neither what came nor the decoder. -/
theorem RdR.setOwn {B : Nat} {w w' : World} {q : Nat} {r r' : Rp} {most : Int} {av dv : Value} {R : List Nat} (h : RdR B w q r most av dv R) (ht : Turns [q] w w')
    (hh : w'.heap[q]? = some (.cells #[av, .int .i64 (r'.hd.status : Int), .int .i64 r'.hd.length, .bool r'.hd.chunked, .bool r'.hd.close, .bool r'.whole, dv, .int .i64 (r'.wrong : Int), .int .i64 most, .int .i64 (r'.rest : Int), .bool r'.ended] 47 (0, 0)))
    (ha : r'.ahead = r.ahead) (hb : r'.body = r.body) (hm : r'.room = r.room) : RdR B w' q r' most av dv R where
  head := hh
  low := h.low
  ahead := ha ▸ h.ahead.turns ht (fun g hg hm => h.offA (by rw [List.mem_singleton] at hm; subst hm; exact ownB_mem hg))
  body := hb ▸ h.body.turns ht (fun g hg hm => h.offR (by rw [List.mem_singleton] at hm; subst hm; exact hg))
  room := hm ▸ h.room
  offA := h.offA
  offR := h.offR
  apart := h.apart
/-- A new answer is laid into a reader: no bytes ahead. -/
theorem RdR.answer {B : Nat} {w w' : World} {q : Nat} {r r' : Rp} {most : Int} {av dv dv' : Value} {R R' : List Nat} (h : RdR B w q r most av dv R)
    (hh : w'.heap[q]? = some (.cells #[.slice none 0 0, .int .i64 (r'.hd.status : Int), .int .i64 r'.hd.length, .bool r'.hd.chunked, .bool r'.hd.close, .bool r'.whole, dv', .int .i64 (r'.wrong : Int), .int .i64 most, .int .i64 (r'.rest : Int), .bool r'.ended] 47 (0, 0)))
    (ha : r'.ahead = []) (hb : BodyR B w' r'.body dv' R') (hm : r'.room = r.room) (hq : q ∉ R') : RdR B w' q r' most (.slice none 0 0) dv' R' where
  head := hh
  low := h.low
  ahead := ha ▸ World.ownsRow_nil _ _ _ _
  body := hb
  room := hm ▸ h.room
  offA := by simp [ownB, Value.ownBlock]
  offR := hq
  apart := by simp [ownB, Value.ownBlock]
/-- What came grows. -/
theorem RdR.grown {B : Nat} {w w1 w2 : World} {q : Nat} {r : Rp} {most : Int} {av dv v' : Value} {R : List Nat} {l : List UInt8} (h : RdR B w q r most av dv R) (h1 : Turns [] w w1) (ho : Owned B w2 v' l) (ht : Turns (ownB av) w1 w2) (hl : v'.ownBlock = av.ownBlock ∨ v'.ownBlock = some w1.heap.size) :
    RdR B (w2.setCell ⟨q, 0, none⟩ v') q { r with ahead := l } most v' dv R ∧ Turns (footR q av R) w (w2.setCell ⟨q, 0, none⟩ v') ∧ ∀ g ∈ footR q v' R, g ∈ footR q av R ∨ w.heap.size ≤ g := by
  have hT : Turns (ownB av) w w2 := (h1.mono (G := ownB av) (by simp)).trans ht (fun i hi => .inl hi)
  have hn := ownB_new hl
  have hs1 := h1.size
  have hq : q ∉ ownB v' := fun hm => by
    rcases hn q hm with h' | h'
    · exact h.offA h'
    · have := h.lt; omega
  have hS : Turns [q] w2 (w2.setCell ⟨q, 0, none⟩ v') := Turns.setCell _ _ _ (List.mem_singleton.2 rfl)
  refine ⟨⟨heap_setCell_same _ q 0 _ _ _ ((hT.block q h.lt h.offA).trans h.head), h.low, ho.turns hS (fun g hg hm => hq (by rw [List.mem_singleton] at hm; subst hm; exact ownB_mem hg)), (h.body.turns hT (fun g hg hm => h.apart g hm hg)).turns hS (fun g hg hm => h.offR (by rw [List.mem_singleton] at hm; subst hm; exact hg)), h.room, hq, h.offR, fun g hg hb => ?_⟩, ?_, fun g hg => ?_⟩
  · rcases hn g hg with h' | h'
    · exact h.apart g h' hb
    · have := h.ltF g (by simp [footR, hb])
      omega
  · exact (hT.mono (fun i hi => by simp [footR, hi])).trans (hS.mono (G := footR q av R) (by simp [footR])) (fun i hi => .inl hi)
  · unfold footR at hg ⊢
    rw [List.mem_cons, List.mem_append] at hg
    rcases hg with rfl | hg | hg
    · simp
    · rcases hn g hg with h' | h'
      · exact .inl (by simp [h'])
      · exact .inr (by omega)
    · exact .inl (by simp [hg])
end Go.Proofs.YtlelemjmknbnaaaGreatDoor
