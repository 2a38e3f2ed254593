/- A range over a function whose round lays one variable in a box of its own. -/
import Derived.RangeFuncNested
import Derived.RangeFuncWrites
namespace Go.Proofs.Ytadndefbdofodaa
open Go.RowKit

/-- As wpIn_rangeFunc_ownH, where a round begins with the laying of one box. -/
theorem wpIn_rangeFunc_box {F : Fence} {n : Nat} {P : Program} {α : Type} {g : Operand} {ps : Array Tmp} {assign body : Code} {Q : Exit → Act → World → Prop} {a : Act} {w : World}
    (hro : F.round = none) (h1 : 1 ≤ n) {gf : Nat} {lb : Array Value} (hg : a.eval g = .func (.func gf) #[] lb) (hFg : F.fn gf) (eg : ∀ args w, (callFunc gf args).run P w = .ok (.enter gf args) w)
    {encs : α → Array Value} {Kp : World → World → Prop} {S Sp : List α → Prop} {N : Nat} {w0 : World} (hseq : SeqStopsK F (n - 1) P gf lb encs Kp S Sp N w0)
    (hKt : ∀ {A B C : World}, Kp A B → Kp B C → Kp A C) (hKb : ∀ (W : World) (l : Nat) (o o' : Obj), w.heap.size ≤ l → W.heap[l]? = some o → o.isCells = false → o.isWalk = false → Kp W (W.putObj l o'))
    (hKa : ∀ (W : World) (o : Obj), w.heap.size ≤ W.heap.size → Kp W (W.alloc o)) (hb0 : Below w0.heap.size w0 w) (hps : ∀ x, (encs x).size = ps.size)
    (I : List α → World → Prop) (Ix : Code → List α → World → Prop) (hI : OwnFrom w.heap.size I) (hIx : ∀ c, OwnFrom w.heap.size (Ix c)) (h0 : I [] w) (hIs : ∀ pre W, I pre W → w.heap.size ≤ W.heap.size)
    (f : α → Nat → Act) (cs : α → Obj) (hcs : ∀ x, (cs x).isCells = true)
    (hassign : ∀ (l : Nat) (x : α) (W : World) (K : Act → World → Prop), (∀ (b : Nat) (W' : World), b = W.heap.size → W' = W.alloc (cs x) → K (f x b) W') →
      assign.wpIn (F.inRound l) (n - 1 - 1) P (Exit.then K (fun _ _ _ => False)) { tmps := (ps.zip (encs x)).foldl (fun t (p, v) => t.setIfInBounds p v) a.tmps, defers := [] } W)
    (hbody : ∀ (l : Nat) (pre : List α) (x : α) (b : Nat) (W : World), w.heap.size ≤ b → W.heap[b]? = some (cs x) → I pre W → pre.length < N → body.wpIn (F.inRound l) (n - 1 - 1) P (ownPostG w.heap.size Kp I Ix (pre ++ [x]) W) (f x b) W)
    (hdone : ∀ (D : Nat) (xs : List α) (W : World), w.heap.size ≤ D → S xs → I xs W → W.heap[D]? = some (.deferred (some [])) → Q .normal { a with defers := { target := .collected D, args := #[] } :: a.defers } W)
    (hstop : ∀ (D : Nat) (c : Code) (pre : List α) (W : World), w.heap.size ≤ D → Sp pre → Ix c pre W → W.heap[D]? = some (.deferred (some [])) → c.wpIn F n P Q { a with defers := { target := .collected D, args := #[] } :: a.defers } W) :
    (Code.rangeFunc g ps assign body).wpIn F n P Q a w := by
  refine wpIn_rangeFunc_ownH hro h1 hg hFg eg hseq (fun h k => hKt h k) hKb hb0 hps I Ix hI hIx h0 (fun x a' W => ∃ b, w.heap.size ≤ b ∧ a' = f x b ∧ W.heap[b]? = some (cs x)) ?_ ?_ ?_ hdone hstop
  · rintro x a' _ A B row ⟨b, hb, rfl, hc⟩ hg hr
    exact ⟨b, hb, rfl, (grownBy_keeps_cells hg (fun r e => (hr r e).2) hc (hcs x)).trans hc⟩
  · intro l pre x W K hi hK
    refine hassign l x W K ?_
    rintro b W' rfl rfl
    exact hK _ _ ((KeepsOthers.alloc W _).from _) (hKa W _ (hIs pre W hi)) (hI.alloc _ hi) ⟨W.heap.size, hIs pre W hi, rfl, heap_alloc_new W _⟩
  · rintro l pre x a' W _ _ hi ⟨b, hb, rfl, hc⟩ hlt
    exact hbody l pre x b W hb hc hi hlt
end Go.Proofs.Ytadndefbdofodaa
