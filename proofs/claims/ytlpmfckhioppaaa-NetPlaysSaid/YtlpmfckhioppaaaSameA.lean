/- same: what each connection looks like from both sides; the five calls of a round. -/
import Derived.Test.YtlpmfckhioppaaaDoMore
import Derived.Deep.RegionHeld3
namespace Go.Proofs.Ytlpmfckhioppaaa
open Go.RowKit

/-- The five calls, where nothing that lay there in w1 has changed. -/
structure Five (w1 : World) (bn rn : Nat) (k s : Int) (n m : Nat) (S : ByteArray) : Prop where
  st : ∀ W, Hid (Turns [] w1 W) → Calls Try.prog 48 #[.pointer (some ⟨bn, 0, none⟩), .int .i64 k] W fun e w' => e = .returned (.int .i64 s) ∧ Hid (Turns [] w1 w')
  rst : ∀ W, Hid (Turns [] w1 W) → Calls Try.prog 49 #[.pointer (some ⟨rn, 0, none⟩), .int .i64 k] W fun e w' => e = .returned (.int .i64 s) ∧ Hid (Turns [] w1 w')
  left : ∀ W, Hid (Turns [] w1 W) → Calls Try.prog 50 #[.pointer (some ⟨bn, 0, none⟩), .int .i64 k] W fun e w' => e = .returned (.int .i64 (n : Int)) ∧ Hid (Turns [] w1 w')
  rleft : ∀ W, Hid (Turns [] w1 W) → Calls Try.prog 51 #[.pointer (some ⟨rn, 0, none⟩), .int .i64 k] W fun e w' => e = .returned (.int .i64 (n : Int)) ∧ Hid (Turns [] w1 w')
  rout : ∀ W, Hid (Turns [] w1 W) → Calls Try.prog 52 #[.pointer (some ⟨rn, 0, none⟩), .int .i64 k] W fun e w' => ∃ A c, e = .returned (.slice A m c) ∧ (convert 30 9 (.slice A m c)).run Try.prog w' = .ok (.string S) w' ∧ Hid (Turns [] w1 w')
variable {B : Nat} {w1 : World} {bn bm rn : Nat} {v : Value} {most : Int} {N t : Nat} {L : List NE} {rs : List Rc}
theorem Two.five (h : Two B w1 bn bm rn v most N L rs) (hl : rs.length ≤ 1000) (hs : SmallR t rs) (ht : t ≤ 100000) (k : Int) (hk : (Lit.int .i64 k).wf = true) : Five w1 bn rn k (stR (getR rs k)) (leftR (getR rs k)) (outR (getR rs k)).length ⟨(outR (getR rs k)).toArray⟩ := by
  refine ⟨fun W hW => ?_, fun W hW => ?_, fun W hW => ?_, fun W hW => ?_, fun W hW => ?_⟩
  · refine (state_any (h.kept hW.out).net k hk).mono fun e w' hh => ⟨?_, Lib.hid (hW.out.trans hh.2 (by simp))⟩
    rw [hh.1, h.link.st]
  · refine (rstate_any (h.kept hW.out).doc hl k).mono fun e w' hh => ⟨hh.1, by rw [← hh.2]; exact hW⟩
  · refine (left_any (h.kept hW.out).net k hk).mono fun e w' hh => ⟨?_, Lib.hid (hW.out.trans hh.2 (by simp))⟩
    rw [hh.1, h.link.left]
  · refine (rleft_any (h.kept hW.out).doc hl (fun r hr => by have := hs r hr; omega) k).mono fun e w' hh => ⟨hh.1, ?_⟩
    obtain ⟨q, rfl⟩ := hh.2
    exact Lib.hid (hW.out.drewN q)
  · refine (rsent_any (h.kept hW.out).doc hl (fun r hr => by have := hs r hr; omega) k).mono fun e w' hh => ?_
    obtain ⟨⟨A, c, he, hr⟩, hb⟩ := hh
    exact ⟨A, c, he, run_bytes_text w' 9 30 Try.underlying30 Try.underlying9 c hr, Lib.hid (hW.out.trans (Turns.of_below hb (Nat.le_refl _)) (by simp))⟩
theorem Two.sent (h : Two B w1 bn bm rn v most N L rs) (hs : SmallR t rs) (ht : t ≤ 100000) (k : Int) (hk : (Lit.int .i64 k).wf = true) :
    Calls Try.prog 47 #[.pointer (some ⟨bn, 0, none⟩), .int .i64 k] w1 fun e w' => (∃ X, e = .returned X ∧ Owned w1.heap.size w' X (outR (getR rs k))) ∧ Turns [] w1 w' := by
  have h1 := sent_any h.net k hk (by
    rw [h.link.out]
    cases hg : getR rs k with
    | none => exact Nat.zero_le _
    | some r =>
      have := hs r (getR_mem hg)
      show r.out.length ≤ _
      omega)
  rw [h.link.out] at h1
  exact h1
theorem bump_turns {W0 wr : World} {b g n cap : Nat} {X : Value} {m : List UInt8} (hX : X = .slice (some ⟨g, 0, none⟩) n cap) (ho : Owned b wr X m) (hb : W0.heap.size ≤ b) (ht : Turns [] W0 wr) (j : Nat) (u : Value) : Turns [] W0 (wr.setCell ⟨g, j, none⟩ u) :=
  ht.trans (Turns.setCell (F := [g]) wr _ u (by simp)) (fun i hi => by
    rw [List.mem_singleton] at hi
    subst hi
    exact .inr (Nat.le_trans hb (ho.grows i (by rw [hX]; rfl))))
end Go.Proofs.Ytlpmfckhioppaaa
