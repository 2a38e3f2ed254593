/- A region that only reads, in a round of a range over a function. -/
import Derived.Test.YtlelemjmknbnaaaDoMore
import Derived.Deep.RegionHeld3
import Derived.Sort.QuietIn
namespace Go.Proofs.Ytlelemjmknbnaaa
open Go.RowKit

/-- The five calls, where nothing that lay there in w1 has changed. -/
structure Five (w1 : World) (bn rn : Nat) (k s : Int) (n m : Nat) (S : ByteArray) : Prop where
  st : ∀ W, Hid (Turns [] w1 W) → Calls Try.prog 38 #[.pointer (some ⟨bn, 0, none⟩), .int .i64 k] W fun e w' => e = .returned (.int .i64 s) ∧ Hid (Turns [] w1 w')
  rst : ∀ W, Hid (Turns [] w1 W) → Calls Try.prog 39 #[.pointer (some ⟨rn, 0, none⟩), .int .i64 k] W fun e w' => e = .returned (.int .i64 s) ∧ Hid (Turns [] w1 w')
  left : ∀ W, Hid (Turns [] w1 W) → Calls Try.prog 40 #[.pointer (some ⟨bn, 0, none⟩), .int .i64 k] W fun e w' => e = .returned (.int .i64 (n : Int)) ∧ Hid (Turns [] w1 w')
  rleft : ∀ W, Hid (Turns [] w1 W) → Calls Try.prog 41 #[.pointer (some ⟨rn, 0, none⟩), .int .i64 k] W fun e w' => e = .returned (.int .i64 (n : Int)) ∧ Hid (Turns [] w1 w')
  rout : ∀ W, Hid (Turns [] w1 W) → Calls Try.prog 42 #[.pointer (some ⟨rn, 0, none⟩), .int .i64 k] W fun e w' => ∃ A c, e = .returned (.slice A m c) ∧ (convert 30 9 (.slice A m c)).run Try.prog w' = .ok (.string S) w' ∧ Hid (Turns [] w1 w')
variable {B : Nat} {w1 : World} {bn bm rn : Nat} {v : Value} {most : Int} {N t : Nat} {L : List NE} {rs : List Rc}
theorem Two.five (h : Two B w1 bn bm rn v most N L rs) (hl : rs.length ≤ 1000) (hs : SmallR t rs) (ht : t ≤ 100000) (k : Int) (hk : (Lit.int .i64 k).wf = true) : Five w1 bn rn k (stR (getR rs k)) (leftR (getR rs k)) (outR (getR rs k)).length ⟨(outR (getR rs k)).toArray⟩ := by
  refine ⟨fun W hW => ?_, fun W hW => ?_, fun W hW => ?_, fun W hW => ?_, fun W hW => ?_⟩
  · refine (state_any (h.kept hW.out).net k hk).mono fun e w' hh => ⟨?_, Lib.hid (hW.out.trans hh.2 (by simp))⟩
    rw [hh.1, h.link.st]
  · refine (rstate_any (h.kept hW.out).doc hl k).mono fun e w' hh => ⟨hh.1, by rw [← hh.2]; exact hW⟩
  · refine (left_any (h.kept hW.out).net k hk).mono fun e w' hh => ⟨?_, Lib.hid (hW.out.trans hh.2 (by simp))⟩
    rw [hh.1, h.link.left]
  · refine (rleft_any (h.kept hW.out).doc hl (fun r hr => by have := hs r hr; omega) k).mono fun e w' hh => ⟨hh.1, ?_⟩
    obtain ⟨q, rfl⟩ := hh.2
    exact Lib.hid (hW.out.drewN q)
  · refine (rsent_any (h.kept hW.out).doc hl (fun r hr => by have := hs r hr; omega) k).mono fun e w' hh => ?_
    obtain ⟨⟨A, c, he, hr⟩, hb⟩ := hh
    exact ⟨A, c, he, run_bytes_text w' 9 30 Try.underlying30 Try.underlying9 c hr, Lib.hid (hW.out.trans (Turns.of_below hb (Nat.le_refl _)) (by simp))⟩
theorem Two.sent (h : Two B w1 bn bm rn v most N L rs) (hs : SmallR t rs) (ht : t ≤ 100000) (k : Int) (hk : (Lit.int .i64 k).wf = true) :
    Calls Try.prog 37 #[.pointer (some ⟨bn, 0, none⟩), .int .i64 k] w1 fun e w' => (∃ X, e = .returned X ∧ Owned w1.heap.size w' X (outR (getR rs k))) ∧ Turns [] w1 w' := by
  have h1 := sent_any h.net k hk (by
    rw [h.link.out]
    cases hg : getR rs k with
    | none => exact Nat.zero_le _
    | some r =>
      have := hs r (getR_mem hg)
      show r.out.length ≤ _
      omega)
  rw [h.link.out] at h1
  exact h1
theorem bump_turns {W0 wr : World} {b g n cap : Nat} {X : Value} {m : List UInt8} (hX : X = .slice (some ⟨g, 0, none⟩) n cap) (ho : Owned b wr X m) (hb : W0.heap.size ≤ b) (ht : Turns [] W0 wr) (j : Nat) (u : Value) : Turns [] W0 (wr.setCell ⟨g, j, none⟩ u) :=
  ht.trans (Turns.setCell (F := [g]) wr _ u (by simp)) (fun i hi => by
    rw [List.mem_singleton] at hi
    subst hi
    exact .inr (Nat.le_trans hb (ho.grows i (by rw [hX]; rfl))))
end Go.Proofs.Ytlelemjmknbnaaa

namespace Go.Proofs.Ytlelemjmknbnaaa
open Go.RowKit

variable {F : Fence} {n : Nat} {P : Program} {C : World → Prop} {md : Region.Mode} {ops : Array Oper}
def noDefer (ops : Array Oper) : Bool := ops.all fun o => match o.op with | .defer _ => false | _ => true
theorem noDefer_at {i : Nat} {o : Oper} (h : noDefer ops = true) (ho : ops[i]? = some o) : ∀ c, o.op ≠ .defer c := by
  intro c hc
  unfold noDefer at h
  rw [Array.all_eq_true_iff_forall_mem] at h
  have := h o (Array.mem_of_getElem? ho)
  rw [hc] at this
  cases this
theorem wpIn_of_quiet_r {o : Oper} {a : Act} {K : Act → Prop} {K' : Act → World → Prop} {Q' : Exit → Act → World → Prop} {w : World} (hnd : ∀ c, o.op ≠ .defer c) (hw : C w) (h : ∀ a w', C w' → K a → K' a w')
    (ha : o.askedIn F P a C) (hh : o.quietIn F n P a C K) : o.wpIn F n P a w K' Q' := by
  obtain ⟨v, h1, h2⟩ := hh
  have h3 := h1 w hw
  unfold Oper.quietAtIn at h3
  unfold Oper.wpIn
  refine ⟨ha w hw, ?_⟩
  rw [Oper.semAt_eq _ _ _ hnd]
  generalize (execOp a.eval o).run P w = r at *
  cases r with
  | ok x w' =>
    cases x <;> simp only [Oper.quietUponIn] at h3 <;> simp only [Oper.uponIn]
    case value u =>
      obtain ⟨e1, e2⟩ := h3
      rw [e1, e2]
      exact h _ _ hw h2
    case skip =>
      obtain ⟨e1, e2⟩ := h3
      rw [e1, ← e2]
      exact h _ _ hw h2
    case enter f args =>
      obtain ⟨e1, hd, hc⟩ := h3
      rw [e1]
      exact ⟨hd, hc.mono fun e w'' ⟨he, hw''⟩ => by subst he; exact h _ _ hw'' h2⟩
  | halt x w' => simp only [Oper.quietUponIn] at h3
theorem wpOpIn_of_q_r {i : Nat} {a : Act} {K : Act → Prop} {K' : Act → World → Prop} {Q' : Exit → Act → World → Prop} {w : World} (hnd : noDefer ops = true) (hC : C w) (h : ∀ a w', C w' → K a → K' a w')
    (hh : qOpIn F n P ops C i K a) : wpOpIn F n P ops Q' i K' a w := by
  unfold qOpIn at hh
  unfold wpOpIn
  split
  · rename_i ho; simp only [ho] at hh; exact h _ _ hC hh
  · rename_i o ho
    simp only [ho] at hh
    obtain ⟨ha, hh⟩ := hh
    split
    · rename_i hw; simp only [hw, if_true] at hh; exact wpIn_of_quiet_r (noDefer_at hnd ho) hC h ha hh
    · rename_i hw; simp only [hw] at hh; exact ⟨ha w hC, h _ _ hC hh⟩
theorem wpAnyIn_of_q_r {Q : Act → Prop} {Q' : Exit → Act → World → Prop} (hnd : noDefer ops = true) (hQ : ∀ a w, C w → Q a → Q' .normal a w) : ∀ (fuel : Nat) (listed : Array Bool) (a : Act) (w : World), C w →
    wpAnyQIn F n P md ops C Q fuel listed a → wpAnyIn F n P md ops Q' fuel listed a w
  | 0, _, _, _, hw, h => ⟨h.1, hQ _ _ hw h.2⟩
  | fuel + 1, _, _, _, hw, h => ⟨fun h0 => hQ _ _ hw (h.1 h0), fun i hi => wpOpIn_of_q_r hnd hw (fun a' w' hw' => wpAnyIn_of_q_r hnd hQ fuel _ a' w' hw') (h.2 i hi)⟩
theorem wpIn_region_quiet_r {id : Nat} {Q : Exit → Act → World → Prop} {a : Act} {w : World} {l : List Oper} (hnd : noDefer l.toArray = true) (hm : P.follows .mixedOrders = true) (hB : Region.lexB .any l.toArray = true)
    (h : wpQuietIn F n P l.toArray (fun w' => ∃ n, w' = w.drewN n) (fun a' => ∀ w', (∃ n, w' = w.drewN n) → Q .normal a' w') l a) : (Code.region id l.toArray true).wpIn F n P Q a w := by
  simp only [Region.lexB, Bool.and_eq_true] at hB
  refine wpIn_region_any hm (wpAnyIn_of_q_r (C := fun w' => ∃ n, w' = w.drewN n) (Q := fun a' => ∀ w', (∃ n, w' = w.drewN n) → Q .normal a' w') hnd (fun _ w' hw' h => h w' hw') _ _ _ _ ⟨1, rfl⟩ ?_)
  have := wpAnyQIn_lex (F := F) (n := n) (C := fun w' => ∃ n, w' = w.drewN n) (md := .any) hB.1 l 0 (Array.replicate l.toArray.size false) a (by simp) (by simpa using hB.2) h
  simpa using this
theorem keeps_drewN (W : World) (q : Nat) : KeepsOthers W (W.drewN q) := ⟨Nat.le_refl _, fun _ _ h _ => h⟩
theorem box_set {W : World} {kb nq : Nat} {u v : Value} (hc : W.cell? ⟨kb, 0, none⟩ = some u) (hf : W.frozen? ⟨kb, 0, none⟩ = false) : ((W.drewN nq).setCell ⟨kb, 0, none⟩ v).cell? ⟨kb, 0, none⟩ = some v ∧ ((W.drewN nq).setCell ⟨kb, 0, none⟩ v).frozen? ⟨kb, 0, none⟩ = false := by
  refine ⟨World.cell?_setCell_same' _ _ _ (by show (W.cell? ⟨kb, 0, none⟩).isSome = true; rw [hc]; rfl), ?_⟩
  rw [World.frozen?_setCell]
  exact hf
theorem box_below {B kb nq : Nat} {w0 W : World} {v : Value} (hB : Below B w0 W) (hk : B ≤ kb) : Below B w0 ((W.drewN nq).setCell ⟨kb, 0, none⟩ v) := by
  have h2 : Below B W (W.drewN nq) := ⟨rfl, rfl, rfl, Nat.le_refl _, fun _ _ => rfl⟩
  exact Below.setCell (hB.trans h2) (p := ⟨kb, 0, none⟩) hk v
theorem box_keep {W : World} {bl kb nq : Nat} {v : Value} (h1 : bl ≠ kb) (h2 : bl < W.heap.size) : ((W.drewN nq).setCell ⟨kb, 0, none⟩ v).heap[bl]? = W.heap[bl]? :=
  (Turns.setCell (F := [kb]) (W.drewN nq) ⟨kb, 0, none⟩ v (by simp)).block bl h2 (by simpa using h1)
end Go.Proofs.Ytlelemjmknbnaaa
