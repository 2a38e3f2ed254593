/- Labels in memory: what is read, what is owned. -/
import Derived.Test.YtnbghappfclnjaaLabPlain
import Derived.Test.YtnbghappfclnjaaBytes
namespace Go.Proofs.Ytnbghappfclnjaa
open Go.RowKit

def strV (l : List UInt8) : Value := .string ⟨l.toArray⟩
def encLbl (x : Lbl) : List Value := [strV x.1, strV x.2]
def flatL (l : List Lbl) : List Value := l.flatMap encLbl
theorem flatL_cons (x : Lbl) (l : List Lbl) : flatL (x :: l) = strV x.1 :: strV x.2 :: flatL l := rfl
theorem flatL_append (l m : List Lbl) : flatL (l ++ m) = flatL l ++ flatL m := List.flatMap_append
theorem flatL_len (l : List Lbl) : (flatL l).length = l.length * 2 := by
  induction l with
  | nil => rfl
  | cons x l ih => rw [flatL_cons, List.length_cons, List.length_cons, List.length_cons, ih]; omega
theorem flatL_at : ∀ {l : List Lbl} {j : Nat} {x : Lbl}, l[j]? = some x → (flatL l)[j * 2]? = some (strV x.1) ∧ (flatL l)[j * 2 + 1]? = some (strV x.2)
  | [], _, _, h => by simp at h
  | y :: l, 0, x, h => by
    simp at h
    subst h
    exact ⟨rfl, rfl⟩
  | y :: l, j + 1, x, h => by
    rw [List.getElem?_cons_succ] at h
    have := flatL_at h
    rw [flatL_cons, show (j + 1) * 2 = j * 2 + 1 + 1 by omega, List.getElem?_cons_succ, List.getElem?_cons_succ, List.getElem?_cons_succ, List.getElem?_cons_succ]
    exact this
theorem flatL_one (l : List Lbl) : ∀ u ∈ flatL l, u.oneCell' = true := by
  intro u hu
  obtain ⟨x, _, hx⟩ := List.mem_flatMap.1 hu
  simp [encLbl, strV] at hx
  rcases hx with rfl | rfl <;> rfl
/-- The slice at A, of l's length, reads as l, and lies below block B. -/
def LReads (w : World) (B : Nat) (A : Option Addr) (l : List Lbl) : Prop :=
  l = [] ∨ ∃ b off, A = some ⟨b, off, none⟩ ∧ b < B ∧ ∀ j u, (flatL l)[j]? = some u → w.cell? ⟨b, off + j, none⟩ = some u
theorem LReads.keep {w w' : World} {B : Nat} {A : Option Addr} {l : List Lbl} (h : LReads w B A l) (hk : ∀ p : Addr, p.block < B → w'.cell? p = w.cell? p) : LReads w' B A l := by
  rcases h with h | ⟨b, off, rfl, hb, hc⟩
  · exact .inl h
  · exact .inr ⟨b, off, rfl, hb, fun j c hj => (hk ⟨b, off + j, none⟩ hb).trans (hc j c hj)⟩
theorem LReads.below {w w' : World} {B : Nat} {A : Option Addr} {l : List Lbl} (h : LReads w B A l) (hb : Below B w w') : LReads w' B A l := h.keep fun _ hp => hb.cell hp
theorem LReads.more {w : World} {B B' : Nat} {A : Option Addr} {l : List Lbl} (h : LReads w B A l) (hB : B ≤ B') : LReads w B' A l := by
  rcases h with h | ⟨b, off, rfl, hb, hc⟩
  · exact .inl h
  · exact .inr ⟨b, off, rfl, Nat.lt_of_lt_of_le hb hB, hc⟩
theorem LReads.at {w : World} {B : Nat} {A : Option Addr} {l : List Lbl} (h : LReads w B A l) (hl : 0 < l.length) : ∃ b off, A = some ⟨b, off, none⟩ ∧ b < B ∧
    ∀ j x, l[j]? = some x → w.cell? ⟨b, off + j * 2, none⟩ = some (strV x.1) ∧ w.cell? ⟨b, off + j * 2 + 1, none⟩ = some (strV x.2) := by
  rcases h with rfl | ⟨b, off, rfl, hb, hc⟩
  · simp at hl
  · exact ⟨b, off, rfl, hb, fun j x hj => ⟨hc _ _ (flatL_at hj).1, by have := hc _ _ (flatL_at hj).2; rwa [← Nat.add_assoc] at this⟩⟩
/-- v is a slice of the call's own that holds l. -/
def OwnedL (B : Nat) (w : World) (v : Value) (l : List Lbl) : Prop := w.ownsRow B 33 2 v l.length (flatL l)
theorem OwnedL.form {B : Nat} {w : World} {v : Value} {l : List Lbl} (h : OwnedL B w v l) : (v = .slice none 0 0 ∧ l = []) ∨ ∃ g cap, v = .slice (some ⟨g, 0, none⟩) l.length cap ∧ B ≤ g ∧ g < w.heap.size ∧ l.length ≤ cap ∧ cap ≤ maxLen := by
  rcases h.2 with ⟨rfl, h0⟩ | ⟨g, cap, cur, rfl, hb, hg, hn, hm, _⟩
  · exact .inl ⟨rfl, List.eq_nil_of_length_eq_zero h0⟩
  · refine .inr ⟨g, cap, rfl, hb, ?_, hn, hm⟩
    rcases Nat.lt_or_ge g w.heap.size with h1 | h1
    · exact h1
    · rw [Array.getElem?_eq_none h1] at hg; cases hg
theorem OwnedL.reads {B : Nat} {w : World} {v : Value} {l : List Lbl} (h : OwnedL B w v l) : ∃ A cap, v = .slice A l.length cap ∧ LReads w w.heap.size A l ∧ l.length ≤ cap ∧ cap ≤ maxLen := by
  rcases h.form with ⟨rfl, rfl⟩ | ⟨g, cap, rfl, _, hg, hn, hm⟩
  · exact ⟨none, 0, rfl, .inl rfl, Nat.le_refl _, by unfold maxLen; omega⟩
  · refine ⟨_, cap, rfl, .inr ⟨g, 0, rfl, hg, fun j c hj => ?_⟩, hn, hm⟩
    have := World.ownsRow.cells h (g := g) rfl j c hj
    rwa [add_plain'] at this
theorem OwnedL.below {B : Nat} {w w' : World} {v : Value} {l : List Lbl} (h : OwnedL B w v l) (hb : Below w.heap.size w w') : OwnedL B w' v l := by
  refine ⟨h.1, ?_⟩
  rcases h.2 with hn | ⟨g, cap, cur, rfl, hB, hg, rest⟩
  · exact .inl hn
  · refine .inr ⟨g, cap, cur, rfl, hB, ?_, rest⟩
    rw [hb.block g (by rcases Nat.lt_or_ge g w.heap.size with h1 | h1; exact h1; rw [Array.getElem?_eq_none h1] at hg; cases hg)]
    exact hg
theorem OwnedL.low {B B' : Nat} {w : World} {v : Value} {l : List Lbl} (h : OwnedL B w v l) (hB : B' ≤ B) : OwnedL B' w v l := by
  refine ⟨h.1, ?_⟩
  rcases h.2 with hn | ⟨g, cap, cur, rfl, h1, rest⟩
  · exact .inl hn
  · exact .inr ⟨g, cap, cur, rfl, Nat.le_trans hB h1, rest⟩
theorem OwnedL.alloc {B : Nat} {w : World} {v : Value} {l : List Lbl} (h : OwnedL B w v l) (o : Obj) : OwnedL B (w.alloc o) v l := World.ownsRow.alloc h o
theorem OwnedL.grows {B : Nat} {w : World} {v : Value} {l : List Lbl} (h : OwnedL B w v l) : ∀ k, v.ownBlock = some k → B ≤ k := fun k hk => (World.ownsRow.lt h k hk).1
theorem Try.infoLbl : (Try.prog.info? 33).map (fun i => (i.zero, i.size, i.bytes)) = some (some (.agg #[.string ⟨#[]⟩, .string ⟨#[]⟩]), 2, 32) := by kernel_rfl

/-! The text, piece by piece. -/
def moreT : List Lbl → List UInt8
  | [] => []
  | x :: l => 44 :: (labT x ++ moreT l)
def piecesT : List Lbl → List UInt8
  | [] => []
  | x :: l => 123 :: (labT x ++ moreT l)
theorem moreT_append (l m : List Lbl) : moreT (l ++ m) = moreT l ++ moreT m := by
  induction l with
  | nil => rfl
  | cons x l ih => simp [moreT, ih]
theorem restT_eq (l : List Lbl) : restT l = moreT l ++ [125] := by
  induction l with
  | nil => rfl
  | cons x l ih => simp [moreT, restT, ih]
theorem textT_eq (m : List UInt8) (l : List Lbl) : textT m l = if l = [] then m else m ++ piecesT l ++ [125] := by
  cases l with
  | nil => simp [textT, bodyT]
  | cons x l => simp [textT, bodyT, piecesT, restT_eq]
theorem piecesT_snoc {l : List Lbl} {k : Nat} {x : Lbl} (h : l[k]? = some x) : piecesT (l.take (k + 1)) = piecesT (l.take k) ++ (if k = 0 then 123 else 44) :: labT x := by
  rw [List.take_add_one, h]
  cases k with
  | zero => simp [piecesT, moreT]
  | succ k =>
    cases l with
    | nil => simp at h
    | cons y l => simp [piecesT, moreT, moreT_append]
theorem labT_len {x : Lbl} (h : labB x = true) : (labT x).length ≤ 2251 := by
  unfold labB wrdB at h
  rw [Bool.and_eq_true, Bool.and_eq_true, decide_eq_true_eq] at h
  have h1 := metB_len h.1.1
  have h2 := escL_len x.2
  simp only [labT, List.length_append, List.length_cons, List.length_nil]
  omega
theorem piecesT_len : ∀ (k : Nat) {l : List Lbl}, labsB l = true → (piecesT (l.take k)).length ≤ k * 2252
  | 0, _, _ => by simp [piecesT]
  | k + 1, l, h => by
    have ih := piecesT_len k h
    cases hk : l[k]? with
    | none =>
      have : l.length ≤ k := List.getElem?_eq_none_iff.1 hk
      have e : l.take (k + 1) = l.take k := by rw [List.take_of_length_le this, List.take_of_length_le (Nat.le_succ_of_le this)]
      rw [e]
      exact Nat.le_trans ih (Nat.mul_le_mul_right _ (Nat.le_succ k))
    | some x =>
      have hx := labT_len (List.all_eq_true.1 h x (List.mem_of_getElem? hk))
      rw [piecesT_snoc hk, List.length_append, List.length_cons, Nat.succ_mul]
      exact Nat.add_le_add ih (Nat.succ_le_succ hx)
end Go.Proofs.Ytnbghappfclnjaa
