/- The program's Same. -/
import Derived.Test.YtaepgcicgmbbeaaWhSet
import Derived.Test.YtaepgcicgmbbeaaWhRange
import Derived.Test.YtaepgcicgmbbeaaWhReachW
namespace Go.Proofs.Ytaepgcicgmbbeaa
open Go.RowKit

theorem sub_eq {T1 T2 : Int} {L1 L2 : List Fi} (h1 : WOk T1 L1) (h2 : WOk T2 L2) (hl : L1.length = L2.length) (hs : ∀ x ∈ L1, x ∈ L2) : L1 = L2 := by
  refine srt_ext h1.srt h2.srt fun x => ⟨hs x, fun hx => ?_⟩
  by_cases h : x ∈ L1
  · exact h
  · have hn : (x :: L1).Nodup := List.nodup_cons.2 ⟨h, h1.ids.nodup⟩
    have := nodup_le hn (l' := L2) fun y hy => by
      rcases List.mem_cons.1 hy with rfl | hy
      · exact hx
      · exact hs y hy
    simp only [List.length_cons] at this
    omega
theorem nil_ne (b : Nat) (w : World) : (binOp .eql 24 (.pointer none) (.pointer (some ⟨b, 0, none⟩))).run Try.prog w = .ok (.bool false) w := by kernel_rfl
set_option maxRecDepth 100000 in
theorem same_nn (w : World) : Calls Try.prog 13 #[.pointer none, .pointer none] w fun e w' => e = .returned (.bool true) ∧ w = w' := by
  go_enter Try.func13, Try.ntmps13
  go_wp2
  go_ret
  exact ⟨rfl, rfl⟩
set_option maxRecDepth 100000 in
theorem same_n1 (b : Nat) (w : World) : Calls Try.prog 13 #[.pointer none, .pointer (some ⟨b, 0, none⟩)] w fun e w' => e = .returned (.bool false) ∧ w = w' := by
  have q1 := nil_ne b w
  go_enter Try.func13, Try.ntmps13
  go_wp2
  go_ret
  exact ⟨rfl, rfl⟩
set_option maxRecDepth 100000 in
theorem same_1n (b : Nat) (w : World) : Calls Try.prog 13 #[.pointer (some ⟨b, 0, none⟩), .pointer none] w fun e w' => e = .returned (.bool false) ∧ w = w' := by
  go_enter Try.func13, Try.ntmps13
  go_wp2
  go_ret
  exact ⟨rfl, rfl⟩
theorem len_q {B : Nat} {w : World} {bw : Nat} {T : Int} {L : List Fi} {F : List Nat} (h : WhAt B w bw T L F) (q : Nat) :
    Calls Try.prog 21 #[.pointer (some ⟨bw, 0, none⟩)] (w.drewN q) fun e w' => e = .returned (.int .i64 L.length) ∧ w' = w.drewN q :=
  (len_any (h.pre ((Turns.refl [] w).drewN q))).mono fun _ _ h => ⟨h.1, h.2.symm⟩
section
variable {B1 B2 : Nat} {w : World} {b1 b2 : Nat} {T1 T2 : Int} {L1 L2 : List Fi} {F1 F2 : List Nat}
set_option maxRecDepth 100000 in
set_option maxHeartbeats 2000000 in
theorem same_no (h1 : WhAt B1 w b1 T1 L1 F1) (h2 : WhAt B2 w b2 T2 L2 F2) (hn : T1 ≠ T2 ∨ L1.length ≠ L2.length) :
    Calls Try.prog 13 #[.pointer (some ⟨b1, 0, none⟩), .pointer (some ⟨b2, 0, none⟩)] w fun e w' => e = .returned (.bool false) ∧ Turns [] w w' := by
  have c1 := h1.cells.1
  have c2 := h2.cells.1
  have HL : Hid (∀ (p : Nat) (W : World) (q : Nat) (v : Value), (p = b1 ∧ v = .int .i64 L1.length) ∨ (p = b2 ∧ v = .int .i64 L2.length) → W = w.drewN q → Calls Try.prog 21 #[.pointer (some ⟨p, 0, none⟩)] W fun e w' => e = .returned v ∧ w' = W) := Lib.hid (by
    rintro p W q v (⟨rfl, rfl⟩ | ⟨rfl, rfl⟩) rfl
    · exact len_q h1 q
    · exact len_q h2 q)
  clear h1 h2
  by_cases hT : T1 = T2
  · have hl : L1.length ≠ L2.length := by rcases hn with h | h; exact absurd hT h; exact h
    have e1 : (T1 != T2) = false := by simpa using hT
    have e2 : ((L1.length : Int) != (L2.length : Int)) = true := by simp; omega
    clear hn hl hT
    go_enter Try.func13, Try.ntmps13
    go_wp2
    go_quiet ((go_at_call 21; exact Calls.quiet_of_same (HL.out _ _ _ _ (by first | exact .inl ⟨rfl, rfl⟩ | exact .inr ⟨rfl, rfl⟩) rfl)))
    go_wp2
    go_ret
    exact ⟨rfl, (Turns.refl [] w).drewN _⟩
  · have e1 : (T1 != T2) = true := by simpa using hT
    clear hn hT
    go_enter Try.func13, Try.ntmps13
    go_wp2
    go_quiet (fail)
    go_wp2
    go_ret
    exact ⟨rfl, (Turns.refl [] w).drewN _⟩
set_option maxRecDepth 100000 in
set_option maxHeartbeats 2000000 in
theorem same_nil0 (h1 : WhAt B1 w b1 T1 [] F1) (h2 : WhAt B2 w b2 T2 [] F2) (hn : w.heap[b1]? = some (.cells #[.int .i64 T1, .map none, .map none] 50 (0, 0))) (hT : T1 = T2) :
    Calls Try.prog 13 #[.pointer (some ⟨b1, 0, none⟩), .pointer (some ⟨b2, 0, none⟩)] w fun e w' => e = .returned (.bool true) ∧ Turns [] w w' := by
  have c1 := h1.cells.1
  have c2 := h2.cells.1
  have HL : Hid (∀ (p : Nat) (W : World) (q : Nat) (v : Value), (p = b1 ∧ v = .int .i64 (0 : Nat)) ∨ (p = b2 ∧ v = .int .i64 (0 : Nat)) → W = w.drewN q → Calls Try.prog 21 #[.pointer (some ⟨p, 0, none⟩)] W fun e w' => e = .returned v ∧ w' = W) := Lib.hid (by
    rintro p W q v (⟨rfl, rfl⟩ | ⟨rfl, rfl⟩) rfl
    · exact len_q h1 q
    · exact len_q h2 q)
  have e1 : (T1 != T2) = false := by simpa using hT
  have m2 : w.cell? ⟨b1, 2, none⟩ = some (.map none) := by simp [World.cell?, hn]
  have hrg := fun q => run_range_nilMap (P := Try.prog) (w.drewN q) 48 3 62 Try.underlying48
  have hnx : ∀ q ty, (Instr.next (.pointer (some ⟨w.heap.size, 0, none⟩)) false ty).run Try.prog ((w.drewN q).alloc (.mapIter none 0 #[] 0)) = _ := fun q ty => run_next_nilMap (w.drewN q) ty 0 0 #[]
  have HT := Lib.hid (fun q o => ((Turns.refl [] w).drewN q).then (Turns.alloc (F := []) _ o))
  clear h1 h2 hn hT
  go_enter Try.func13, Try.ntmps13
  go_wp2
  go_quiet ((go_at_call 21; exact Calls.quiet_of_same (HL.out _ _ _ _ (by first | exact .inl ⟨rfl, rfl⟩ | exact .inr ⟨rfl, rfl⟩) rfl)))
  have hrg' := hrg nq
  have hnx' := hnx nq
  clear hrg hnx
  go_wp2
  refine wp_loop_rounds 1 ?_
  rw [rounds_succ]
  go_wp2
  go_ret
  exact ⟨rfl, HT.out _ _⟩
end
end Go.Proofs.Ytaepgcicgmbbeaa
