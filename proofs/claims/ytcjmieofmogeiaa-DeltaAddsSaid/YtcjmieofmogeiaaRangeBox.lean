/- A range over a function whose round lays one variable in a box of its own. -/
import Derived.Test.YtcjmieofmogeiaaStCw
import Derived.Sort.QuietIn
import Derived.Deep.RegionHeld3
import Derived.RangeFuncNested
import Derived.RangeFuncWrites
namespace Go.Proofs.Ytcjmieofmogeiaa
open Go.RowKit

variable {F : Fence} {n : Nat} {P : Program} {C : World → Prop} {md : Region.Mode} {ops : Array Oper}
def noDefer (ops : Array Oper) : Bool := ops.all fun o => match o.op with | .defer _ => false | _ => true
theorem noDefer_at {i : Nat} {o : Oper} (h : noDefer ops = true) (ho : ops[i]? = some o) : ∀ c, o.op ≠ .defer c := by
  intro c hc
  unfold noDefer at h
  rw [Array.all_eq_true_iff_forall_mem] at h
  have := h o (Array.mem_of_getElem? ho)
  rw [hc] at this
  cases this
theorem wpIn_of_quiet_r {o : Oper} {a : Act} {K : Act → Prop} {K' : Act → World → Prop} {Q' : Exit → Act → World → Prop} {w : World} (hnd : ∀ c, o.op ≠ .defer c) (hw : C w) (h : ∀ a w', C w' → K a → K' a w')
    (ha : o.askedIn F P a C) (hh : o.quietIn F n P a C K) : o.wpIn F n P a w K' Q' := by
  obtain ⟨v, h1, h2⟩ := hh
  have h3 := h1 w hw
  unfold Oper.quietAtIn at h3
  unfold Oper.wpIn
  refine ⟨ha w hw, ?_⟩
  rw [Oper.semAt_eq _ _ _ hnd]
  generalize (execOp a.eval o).run P w = r at *
  cases r with
  | ok x w' =>
    cases x <;> simp only [Oper.quietUponIn] at h3 <;> simp only [Oper.uponIn]
    case value u =>
      obtain ⟨e1, e2⟩ := h3
      rw [e1, e2]
      exact h _ _ hw h2
    case skip =>
      obtain ⟨e1, e2⟩ := h3
      rw [e1, ← e2]
      exact h _ _ hw h2
    case enter f args =>
      obtain ⟨e1, hd, hc⟩ := h3
      rw [e1]
      exact ⟨hd, hc.mono fun e w'' ⟨he, hw''⟩ => by subst he; exact h _ _ hw'' h2⟩
  | halt x w' => simp only [Oper.quietUponIn] at h3
theorem wpOpIn_of_q_r {i : Nat} {a : Act} {K : Act → Prop} {K' : Act → World → Prop} {Q' : Exit → Act → World → Prop} {w : World} (hnd : noDefer ops = true) (hC : C w) (h : ∀ a w', C w' → K a → K' a w')
    (hh : qOpIn F n P ops C i K a) : wpOpIn F n P ops Q' i K' a w := by
  unfold qOpIn at hh
  unfold wpOpIn
  split
  · rename_i ho; simp only [ho] at hh; exact h _ _ hC hh
  · rename_i o ho
    simp only [ho] at hh
    obtain ⟨ha, hh⟩ := hh
    split
    · rename_i hw; simp only [hw, if_true] at hh; exact wpIn_of_quiet_r (noDefer_at hnd ho) hC h ha hh
    · rename_i hw; simp only [hw] at hh; exact ⟨ha w hC, h _ _ hC hh⟩
theorem wpAnyIn_of_q_r {Q : Act → Prop} {Q' : Exit → Act → World → Prop} (hnd : noDefer ops = true) (hQ : ∀ a w, C w → Q a → Q' .normal a w) : ∀ (fuel : Nat) (listed : Array Bool) (a : Act) (w : World), C w →
    wpAnyQIn F n P md ops C Q fuel listed a → wpAnyIn F n P md ops Q' fuel listed a w
  | 0, _, _, _, hw, h => ⟨h.1, hQ _ _ hw h.2⟩
  | fuel + 1, _, _, _, hw, h => ⟨fun h0 => hQ _ _ hw (h.1 h0), fun i hi => wpOpIn_of_q_r hnd hw (fun a' w' hw' => wpAnyIn_of_q_r hnd hQ fuel _ a' w' hw') (h.2 i hi)⟩
theorem wpIn_region_quiet_r {id : Nat} {Q : Exit → Act → World → Prop} {a : Act} {w : World} {l : List Oper} (hnd : noDefer l.toArray = true) (hm : P.follows .mixedOrders = true) (hB : Region.lexB .any l.toArray = true)
    (h : wpQuietIn F n P l.toArray (fun w' => ∃ n, w' = w.drewN n) (fun a' => ∀ w', (∃ n, w' = w.drewN n) → Q .normal a' w') l a) : (Code.region id l.toArray true).wpIn F n P Q a w := by
  simp only [Region.lexB, Bool.and_eq_true] at hB
  refine wpIn_region_any hm (wpAnyIn_of_q_r (C := fun w' => ∃ n, w' = w.drewN n) (Q := fun a' => ∀ w', (∃ n, w' = w.drewN n) → Q .normal a' w') hnd (fun _ w' hw' h => h w' hw') _ _ _ _ ⟨1, rfl⟩ ?_)
  have := wpAnyQIn_lex (F := F) (n := n) (C := fun w' => ∃ n, w' = w.drewN n) (md := .any) hB.1 l 0 (Array.replicate l.toArray.size false) a (by simp) (by simpa using hB.2) h
  simpa using this
theorem keeps_drewN (W : World) (q : Nat) : KeepsOthers W (W.drewN q) := ⟨Nat.le_refl _, fun _ _ h _ => h⟩
theorem box_set {W : World} {kb nq : Nat} {u v : Value} (hc : W.cell? ⟨kb, 0, none⟩ = some u) (hf : W.frozen? ⟨kb, 0, none⟩ = false) : ((W.drewN nq).setCell ⟨kb, 0, none⟩ v).cell? ⟨kb, 0, none⟩ = some v ∧ ((W.drewN nq).setCell ⟨kb, 0, none⟩ v).frozen? ⟨kb, 0, none⟩ = false := by
  refine ⟨World.cell?_setCell_same' _ _ _ (by show (W.cell? ⟨kb, 0, none⟩).isSome = true; rw [hc]; rfl), ?_⟩
  rw [World.frozen?_setCell]
  exact hf
theorem box_below {B kb nq : Nat} {w0 W : World} {v : Value} (hB : Below B w0 W) (hk : B ≤ kb) : Below B w0 ((W.drewN nq).setCell ⟨kb, 0, none⟩ v) := by
  have h2 : Below B W (W.drewN nq) := ⟨rfl, rfl, rfl, Nat.le_refl _, fun _ _ => rfl⟩
  exact Below.setCell (hB.trans h2) (p := ⟨kb, 0, none⟩) hk v
theorem box_keep {W : World} {bl kb nq : Nat} {v : Value} (h1 : bl ≠ kb) (h2 : bl < W.heap.size) : ((W.drewN nq).setCell ⟨kb, 0, none⟩ v).heap[bl]? = W.heap[bl]? :=
  (Turns.setCell (F := [kb]) (W.drewN nq) ⟨kb, 0, none⟩ v (by simp)).block bl h2 (by simpa using h1)
theorem lst_guard : Try.prog.eqGuardType Try.prog.depth 88 = false := by kernel_rfl
theorem lst_neq (t u : Lst) (w : World) : (binOp .neq 88 (.agg #[.string t.s.name, .int .i64 t.s.val, .int .i64 t.s.tm, .bool t.s.cnt, .bool t.live, .int .i64 t.own]) (.agg #[.string u.s.name, .int .i64 u.s.val, .int .i64 u.s.tm, .bool u.s.cnt, .bool u.live, .int .i64 u.own])).run Try.prog w = .ok (.bool (!lstE t u)) w := by
  have h := lst_fldE 9997 t u w
  unfold Lst.cells at h
  rw [run_neq_struct, run_equalIn_struct (P := Try.prog) w 9999 88 _ _ lst_str lst_stood, h]
  rfl
theorem lstE_self (t : Lst) : lstE t t = true := lstE_iff.2 rfl
theorem live_next {L : List One} {k : Nat} {y : One} (h : L[k]? = some y) : liveP (L.take (k + 1)) = if y.l.live then liveP (L.take k) + 1 else liveP (L.take k) := by
  unfold liveP
  rw [List.take_add_one, h, List.filter_append]
  cases e : y.l.live <;> simp [List.filter, e]
theorem live_le (L : List One) : liveP L ≤ L.length := List.length_filter_le _ _
theorem prefix_next {α : Type} {pre L : List α} {x y : α} (h : pre <+: L) (hy : L[pre.length]? = some y) : (pre ++ [x]) <+: L ↔ y = x := by
  obtain ⟨tl, rfl⟩ := h
  rw [List.getElem?_append_right (Nat.le_refl _), Nat.sub_self] at hy
  rw [List.prefix_append_right_inj]
  cases tl with
  | nil => simp at hy
  | cons z tl =>
    simp at hy
    rw [hy]
    simp [eq_comm]
end Go.Proofs.Ytcjmieofmogeiaa

namespace Go.Proofs.Ytcjmieofmogeiaa
open Go.RowKit

/-- As wpIn_rangeFunc_ownH, where a round begins with the laying of one box. -/
theorem wpIn_rangeFunc_box {F : Fence} {n : Nat} {P : Program} {α : Type} {g : Operand} {ps : Array Tmp} {assign body : Code} {Q : Exit → Act → World → Prop} {a : Act} {w : World}
    (hro : F.round = none) (h1 : 1 ≤ n) {gf : Nat} {lb : Array Value} (hg : a.eval g = .func (.func gf) #[] lb) (hFg : F.fn gf) (eg : ∀ args w, (callFunc gf args).run P w = .ok (.enter gf args) w)
    {encs : α → Array Value} {Kp : World → World → Prop} {S Sp : List α → Prop} {N : Nat} {w0 : World} (hseq : SeqStopsK F (n - 1) P gf lb encs Kp S Sp N w0)
    (hKt : ∀ {A B C : World}, Kp A B → Kp B C → Kp A C) (hKb : ∀ (W : World) (l : Nat) (o o' : Obj), w.heap.size ≤ l → W.heap[l]? = some o → o.isCells = false → o.isWalk = false → Kp W (W.putObj l o'))
    (hKa : ∀ (W : World) (o : Obj), w.heap.size ≤ W.heap.size → Kp W (W.alloc o)) (hb0 : Below w0.heap.size w0 w) (hps : ∀ x, (encs x).size = ps.size)
    (I : List α → World → Prop) (Ix : Code → List α → World → Prop) (hI : OwnFrom w.heap.size I) (hIx : ∀ c, OwnFrom w.heap.size (Ix c)) (h0 : I [] w) (hIs : ∀ pre W, I pre W → w.heap.size ≤ W.heap.size)
    (f : α → Nat → Act) (cs : α → Obj) (hcs : ∀ x, (cs x).isCells = true)
    (hassign : ∀ (l : Nat) (x : α) (W : World) (K : Act → World → Prop), (∀ (b : Nat) (W' : World), b = W.heap.size → W' = W.alloc (cs x) → K (f x b) W') →
      assign.wpIn (F.inRound l) (n - 1 - 1) P (Exit.then K (fun _ _ _ => False)) { tmps := (ps.zip (encs x)).foldl (fun t (p, v) => t.setIfInBounds p v) a.tmps, defers := [] } W)
    (hbody : ∀ (l : Nat) (pre : List α) (x : α) (b : Nat) (W : World), w.heap.size ≤ b → W.heap[b]? = some (cs x) → I pre W → pre.length < N → body.wpIn (F.inRound l) (n - 1 - 1) P (ownPostG w.heap.size Kp I Ix (pre ++ [x]) W) (f x b) W)
    (hdone : ∀ (D : Nat) (xs : List α) (W : World), w.heap.size ≤ D → S xs → I xs W → W.heap[D]? = some (.deferred (some [])) → Q .normal { a with defers := { target := .collected D, args := #[] } :: a.defers } W)
    (hstop : ∀ (D : Nat) (c : Code) (pre : List α) (W : World), w.heap.size ≤ D → Sp pre → Ix c pre W → W.heap[D]? = some (.deferred (some [])) → c.wpIn F n P Q { a with defers := { target := .collected D, args := #[] } :: a.defers } W) :
    (Code.rangeFunc g ps assign body).wpIn F n P Q a w := by
  refine wpIn_rangeFunc_ownH hro h1 hg hFg eg hseq (fun h k => hKt h k) hKb hb0 hps I Ix hI hIx h0 (fun x a' W => ∃ b, w.heap.size ≤ b ∧ a' = f x b ∧ W.heap[b]? = some (cs x)) ?_ ?_ ?_ hdone hstop
  · rintro x a' _ A B row ⟨b, hb, rfl, hc⟩ hg hr
    exact ⟨b, hb, rfl, (grownBy_keeps_cells hg (fun r e => (hr r e).2) hc (hcs x)).trans hc⟩
  · intro l pre x W K hi hK
    refine hassign l x W K ?_
    rintro b W' rfl rfl
    exact hK _ _ ((KeepsOthers.alloc W _).from _) (hKa W _ (hIs pre W hi)) (hI.alloc _ hi) ⟨W.heap.size, hIs pre W hi, rfl, heap_alloc_new W _⟩
  · rintro l pre x a' W _ _ hi ⟨b, hb, rfl, hc⟩ hlt
    exact hbody l pre x b W hb hc hi hlt
end Go.Proofs.Ytcjmieofmogeiaa
