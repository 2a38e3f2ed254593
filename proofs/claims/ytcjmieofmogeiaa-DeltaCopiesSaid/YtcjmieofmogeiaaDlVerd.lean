/- The program's byVerdict: a map from verdicts to where their counts stand, whatever order is drawn. -/
import Derived.Test.YtcjmieofmogeiaaRowK2
import Derived.Test.YtcjmieofmogeiaaInv
import Derived.Test.YtcjmieofmogeiaaMapP
import Derived.Carry
namespace Go.Proofs.Ytcjmieofmogeiaa
open Go.RowKit

theorem wp_valueG {P : Program} {o : Oper} {a : Act} {w w' : World} {v : Value} {Kk : Act → World → Prop} {Q : Exit → Act → World → Prop} (h : (execOp a.eval o).run P w = .ok (.value v) w') (hK : Kk (a.put o.dst v) w') : Oper.wp P o a w Kk Q := by
  unfold Oper.wp
  rw [h]
  exact hK
/-- Values put into slots from b on. -/
def setsG : Array Value → Nat → List Value → Array Value
  | t, _, [] => t
  | t, b, x :: xs => setsG (t.setIfInBounds b x) (b + 1) xs
theorem setsG_size : ∀ (xs : List Value) (t : Array Value) (b : Nat), (setsG t b xs).size = t.size
  | [], _, _ => rfl
  | x :: xs, t, b => by
    unfold setsG
    rw [setsG_size xs, Array.size_setIfInBounds]
theorem setsG_out : ∀ (xs : List Value) (t : Array Value) (b j : Nat) (d : Value), j < b → (setsG t b xs).getD j d = t.getD j d
  | [], _, _, _, _, _ => rfl
  | x :: xs, t, b, j, d, h => by
    unfold setsG
    rw [setsG_out xs _ (b + 1) j d (by omega)]
    simp [Array.getElem?_setIfInBounds, show b ≠ j by omega]
theorem setsG_in : ∀ (xs : List Value) (t : Array Value) (b i : Nat) (d : Value), i < xs.length → b + xs.length ≤ t.size → (setsG t b xs).getD (b + i) d = xs.getD i d
  | [], _, _, _, _, h, _ => absurd h (by simp)
  | x :: xs, t, b, 0, d, _, hs => by
    unfold setsG
    rw [setsG_out xs _ (b + 1) (b + 0) d (by omega)]
    simp only [List.length_cons] at hs
    simp [Array.getElem?_setIfInBounds, show b < t.size by omega]
  | x :: xs, t, b, i + 1, d, h, hs => by
    unfold setsG
    simp only [List.length_cons] at h hs
    have := setsG_in xs (t.setIfInBounds b x) (b + 1) i d (by omega) (by rw [Array.size_setIfInBounds]; omega)
    rw [show b + (i + 1) = b + 1 + i by omega, this]
    simp
theorem setsG_comm : ∀ (xs : List Value) (t : Array Value) (b j : Nat) (v : Value), j < b → (setsG t b xs).setIfInBounds j v = setsG (t.setIfInBounds j v) b xs
  | [], _, _, _, _, _ => rfl
  | x :: xs, t, b, j, v, h => by
    unfold setsG
    rw [setsG_comm xs _ (b + 1) j v (by omega), Array.setIfInBounds_comm _ _ (by omega)]
theorem setsG_set : ∀ (xs : List Value) (t : Array Value) (b i : Nat) (v : Value), i < xs.length → (setsG t b xs).setIfInBounds (b + i) v = setsG t b (xs.set i v)
  | [], _, _, _, _, h => absurd h (by simp)
  | x :: xs, t, b, 0, v, _ => by
    show (setsG (t.setIfInBounds b x) (b + 1) xs).setIfInBounds (b + 0) v = setsG (t.setIfInBounds b v) (b + 1) xs
    rw [setsG_comm xs _ (b + 1) (b + 0) v (by omega)]
    simp
  | x :: xs, t, b, i + 1, v, h => by
    show (setsG (t.setIfInBounds b x) (b + 1) xs).setIfInBounds (b + (i + 1)) v = setsG (t.setIfInBounds b x) (b + 1) (xs.set i v)
    rw [show b + (i + 1) = b + 1 + i by omega]
    exact setsG_set xs _ (b + 1) i v (by simpa using h)
/-- The frame: scratch from b on, the row's variable in so. -/
def insAct (a0 : Act) (b so : Nat) (xs : List Value) (xo : Value) : Act := ⟨(setsG a0.tmps b xs).setIfInBounds so xo, a0.defers⟩
section
variable {a0 : Act} {b so : Nat} {xs : List Value} {xo : Value}
theorem insAct_put {i : Nat} (hi : i < xs.length) (ho : so < b) (v : Value) : (insAct a0 b so xs xo).put (some (b + i)) v = insAct a0 b so (xs.set i v) xo := by
  unfold insAct Act.put
  simp only
  rw [Array.setIfInBounds_comm _ _ (by omega), setsG_set xs a0.tmps b i v hi]
theorem insAct_putO (v : Value) : (insAct a0 b so xs xo).put (some so) v = insAct a0 b so xs v := by
  unfold insAct Act.put
  simp
theorem insAct_in {i : Nat} (hi : i < xs.length) (ho : so < b) (hs : b + xs.length ≤ a0.tmps.size) : (insAct a0 b so xs xo).eval (.tmp (b + i)) = xs.getD i undef := by
  unfold insAct Act.eval
  simp only
  rw [← setsG_in xs a0.tmps b i undef hi hs]
  simp [Array.getElem?_setIfInBounds, show so ≠ b + i by omega]
theorem insAct_o (ho : so < b) (hs : b ≤ a0.tmps.size) : (insAct a0 b so xs xo).eval (.tmp so) = xo := by
  unfold insAct Act.eval
  simp [Array.getElem?_setIfInBounds, setsG_size, show so < a0.tmps.size by omega]
theorem insAct_else {j : Nat} (hj : j < b) (hjo : j ≠ so) : (insAct a0 b so xs xo).eval (.tmp j) = a0.eval (.tmp j) := by
  unfold insAct Act.eval
  simp only
  rw [← setsG_out xs a0.tmps b j undef hj]
  simp [Array.getElem?_setIfInBounds, show so ≠ j by omega]
end
/-- The statement's twelve operations. -/
def insOps (ts te ti : TypeId) (so sa sr b : Nat) (pos : String) : Array Oper := #[
  { dst := some b, op := .move (.tmp so), type := ts, pos, after := #[], guard := none },
  { dst := some (b + 1), op := .move (.tmp sa), type := ti, pos, after := #[], guard := none },
  { dst := some (b + 2), op := .slice ts (.tmp b) none (some (.tmp (b + 1))) none, type := ts, pos, after := #[{ on := 0, ground := .data }, { on := 1, ground := .data }], guard := none },
  { dst := some (b + 3), op := .call { callee := .builtin .append, args := #[.const (.slice none 0 0), .tmp (b + 2)], argTypes := #[ts, ts] }, type := ts, pos, after := #[{ on := 2, ground := .data }], guard := none },
  { dst := some (b + 4), op := .load te (.tmp sr), type := te, pos, after := #[], guard := none },
  { dst := some (b + 5), op := .buildSlice ts 1 #[(0, .tmp (b + 4))], type := ts, pos, after := #[{ on := 4, ground := .data }], guard := none },
  { dst := some (b + 6), op := .call { callee := .builtin .append, args := #[.tmp (b + 3), .tmp (b + 5)], argTypes := #[ts, ts] }, type := ts, pos, after := #[{ on := 3, ground := .data }, { on := 5, ground := .data }, { on := 3, ground := .chain }], guard := none },
  { dst := some (b + 7), op := .move (.tmp so), type := ts, pos, after := #[], guard := none },
  { dst := some (b + 8), op := .move (.tmp sa), type := ti, pos, after := #[], guard := none },
  { dst := some (b + 9), op := .slice ts (.tmp (b + 7)) (some (.tmp (b + 8))) none none, type := ts, pos, after := #[{ on := 7, ground := .data }, { on := 8, ground := .data }], guard := none },
  { dst := some (b + 10), op := .call { callee := .builtin .append, args := #[.tmp (b + 6), .tmp (b + 9)], argTypes := #[ts, ts] }, type := ts, pos, after := #[{ on := 6, ground := .data }, { on := 9, ground := .data }, { on := 6, ground := .chain }], guard := none },
  { dst := some so, op := .assign (.tmp (b + 10)), type := ts, pos, after := #[{ on := 10, ground := .data }, { on := 10, ground := .chain }, { on := 0, ground := .phase }, { on := 1, ground := .phase }, { on := 2, ground := .phase }, { on := 3, ground := .phase }, { on := 4, ground := .phase }, { on := 5, ground := .phase }, { on := 6, ground := .phase }, { on := 7, ground := .phase }, { on := 8, ground := .phase }, { on := 9, ground := .phase }, { on := 10, ground := .phase }], guard := none }]
theorem ready_nilG {md : Region.Mode} {ops : Array Oper} {li : Array Bool} (hb : ∀ (i : Nat) (o : Oper), ops[i]? = some o → ∀ e ∈ o.after, e.on < i) (hs : li.size = ops.size) (hr : Region.ready md ops li = []) : ∀ m i, i < m → i < ops.size → li.getD i true = true
  | 0, i, h, _ => absurd h (by omega)
  | m + 1, i, h, hi => by
    rcases Nat.lt_or_ge i m with h1 | h1
    · exact ready_nilG hb hs hr m i h1 hi
    · obtain rfl : i = m := by omega
      cases e : li.getD i true with
      | true => rfl
      | false =>
        have hm : i ∈ Region.ready md ops li := mem_ready.2 ⟨e, ops[i], Array.getElem?_eq_getElem hi, fun ed he _ => by
          have hlt := hb i _ (Array.getElem?_eq_getElem hi) ed he
          have h3 := ready_nilG hb hs hr i ed.on hlt (by omega)
          have h4 : ed.on < li.size := by omega
          simpa [Array.getD, h4] using h3⟩
        rw [hr] at hm
        cases hm
theorem getD_ttG {li : Array Bool} {i : Nat} (h : li.getD i false = true) : li.getD i true = true := by
  unfold Array.getD at h ⊢
  split
  · rename_i hi
    simpa [hi] using h
  · rfl
theorem getD_sameG {li : Array Bool} {i : Nat} (h : i < li.size) (b : Bool) : (li.setIfInBounds i b).getD i true = b := by
  simp [Array.getD, h]
theorem list_getD_set {xs : List Value} {i j : Nat} (hi : i < xs.length) (v : Value) : (xs.set i v).getD j undef = if i = j then v else xs.getD j undef := by
  simp only [List.getD_eq_getElem?_getD]
  by_cases h : i = j
  · subst h
    rw [if_pos rfl, List.getElem?_set_self hi]
    rfl
  · rw [if_neg h, List.getElem?_set_ne h]
section
variable {α : Type} (K : EK α) (W : World) (vo : Value) (k : Nat) (A1 A2 : Option Addr) (c1 m c2 : Nat) (r : α) (R1 R2 : List α)
/-- What is known of the value that operation j has given. -/
def InsF (j : Nat) (v : Value) (li : Array Bool) (X : World) : Prop := match j with
  | 0 => v = vo
  | 1 => v = .int .i64 (k : Int)
  | 2 => v = .slice A1 k c1
  | 3 => li.getD 6 true = false → K.Own W.heap.size X v R1 ∧ ∀ i ∈ ownB v, W.heap.size ≤ i
  | 4 => v = .agg (K.enc r).toArray
  | 5 => li.getD 6 true = false → ∃ g1, v = .slice (some ⟨g1, 0, none⟩) 1 1 ∧ K.Reads X X.heap.size (some ⟨g1, 0, none⟩) [r]
  | 6 => li.getD 10 true = false → K.Own W.heap.size X v (R1 ++ [r]) ∧ ∀ i ∈ ownB v, W.heap.size ≤ i
  | 7 => v = vo
  | 8 => v = .int .i64 (k : Int)
  | 9 => v = .slice A2 m c2
  | 10 => K.Own W.heap.size X v (R1 ++ [r] ++ R2)
  | _ => True
structure InsJ (li : Array Bool) (xs : List Value) (xo : Value) (X : World) : Prop where
  len : xs.length = 11
  sz : li.size = 12
  tt : Turns [] W X
  out : li.getD 11 true = false → xo = vo
  all : ∀ j, j < 11 → li.getD j true = true → InsF K W vo k A1 A2 c1 m c2 r R1 R2 j (xs.getD j undef) li X
  d11 : li.getD 11 true = true → xo = xs.getD 10 undef
  o10 : li.getD 10 true = true → li.getD 6 true = true
  o11 : li.getD 11 true = true → ∀ j, j < 11 → li.getD j true = true
variable {K W vo k A1 A2 c1 m c2 r R1 R2}
variable {li : Array Bool} {xs : List Value} {xo : Value} {X X' : World}
theorem InsF.pre {j : Nat} {v : Value} {li' : Array Bool} (h : InsF K W vo k A1 A2 c1 m c2 r R1 R2 j v li X) (ht : Turns [] X X') (hl : ∀ q, li'.getD q true = false → li.getD q true = false) : InsF K W vo k A1 A2 c1 m c2 r R1 R2 j v li' X' := by
  match j with
  | 0 | 1 | 2 | 4 | 7 | 8 | 9 => exact h
  | 3 => exact fun e => let ⟨a, b⟩ := h (hl 6 e); ⟨a.turns ht (by simp), b⟩
  | 5 => exact fun e => let ⟨g1, a, b⟩ := h (hl 6 e); ⟨g1, a, (b.turns (Nat.le_refl _) ht (by simp)).more ht.size⟩
  | 6 => exact fun e => let ⟨a, b⟩ := h (hl 10 e); ⟨a.turns ht (by simp), b⟩
  | 10 => exact EK.Own.turns h ht (by simp)
  | n + 11 => trivial
theorem set_false {i q : Nat} (h : (li.setIfInBounds i true).getD q true = false) : li.getD q true = false := by
  by_cases e : i = q
  · subst e
    unfold Array.getD at h ⊢
    split
    · rename_i hi
      simp [hi] at h
    · rename_i hi
      simp [hi] at h
  · rwa [getD_set_ne true e] at h
theorem InsJ.open_ (h : InsJ K W vo k A1 A2 c1 m c2 r R1 R2 li xs xo X) {i : Nat} (hi : li.getD i true = false) (h11 : i < 11) : li.getD 11 true = false := by
  cases e : li.getD 11 true with
  | false => rfl
  | true => rw [h.o11 e i h11] at hi; cases hi
/-- One more value; nothing that was there has changed. -/
theorem InsJ.step (h : InsJ K W vo k A1 A2 c1 m c2 r R1 R2 li xs xo X) {i : Nat} (hi : i < 11) (hl : li.getD i true = false) (h10 : i = 10 → li.getD 6 true = true) {v : Value} (ht : Turns [] W X')
    (hk : ∀ j, j < 11 → j ≠ i → li.getD j true = true → InsF K W vo k A1 A2 c1 m c2 r R1 R2 j (xs.getD j undef) (li.setIfInBounds i true) X') (hn : InsF K W vo k A1 A2 c1 m c2 r R1 R2 i v (li.setIfInBounds i true) X') :
    InsJ K W vo k A1 A2 c1 m c2 r R1 R2 (li.setIfInBounds i true) (xs.set i v) xo X' := by
  have h11 := h.open_ hl hi
  have hlen := h.len
  have hsz := h.sz
  have hn11 : (li.setIfInBounds i true).getD 11 true = li.getD 11 true := getD_set_ne true (by omega)
  refine ⟨by rw [List.length_set]; exact h.len, by rw [Array.size_setIfInBounds]; exact h.sz, ht, fun _ => h.out h11, fun j hj e => ?_, fun e => absurd e (by rw [hn11, h11]; simp), fun e => ?_, fun e => absurd e (by rw [hn11, h11]; simp)⟩
  · rw [list_getD_set (by omega)]
    by_cases hij : i = j
    · rw [if_pos hij]
      subst hij
      exact hn
    · rw [if_neg hij]
      exact hk j hj (Ne.symm hij) (by rwa [getD_set_ne true hij] at e)
  · by_cases h6 : i = 6
    · rw [h6]; exact getD_sameG (by omega) true
    · rw [getD_set_ne true h6]
      by_cases h1 : i = 10
      · exact h10 h1
      · exact h.o10 (by rwa [getD_set_ne true h1] at e)
theorem InsJ.pure (h : InsJ K W vo k A1 A2 c1 m c2 r R1 R2 li xs xo X) {i : Nat} (hi : i < 10) (hl : li.getD i true = false) {v : Value} (ht : Turns [] X X') (hn : InsF K W vo k A1 A2 c1 m c2 r R1 R2 i v (li.setIfInBounds i true) X') :
    InsJ K W vo k A1 A2 c1 m c2 r R1 R2 (li.setIfInBounds i true) (xs.set i v) xo X' :=
  h.step (by omega) hl (fun e => absurd e (by omega)) (h.tt.then ht) (fun j hj _ e => (h.all j hj e).pre ht fun _ => set_false) hn
end
end Go.Proofs.Ytcjmieofmogeiaa

namespace Go.Proofs.Ytcjmieofmogeiaa
open Go.RowKit

/-- A pointer to a place of a block, or none, read as a datum of its own. -/
def vread : RdV
  | .pointer none => some (.nil, [])
  | .pointer (some ⟨b, j, none⟩) => some (.agg [.lit (.int .i64 (b : Int)), .lit (.int .i64 (j : Int))], [])
  | _ => none
theorem vread_inj : RInj vread := by
  intro v v' d ps ps' h h'
  have key : ∀ v d ps, vread v = some (d, ps) → (v = .pointer none ∧ d = .nil) ∨ ∃ b j : Nat, v = .pointer (some ⟨b, j, none⟩) ∧ d = .agg [.lit (.int .i64 (b : Int)), .lit (.int .i64 (j : Int))] := by
    intro v d ps h
    unfold vread at h
    split at h
    · cases h
      exact .inl ⟨rfl, rfl⟩
    · cases h
      exact .inr ⟨_, _, rfl, rfl⟩
    · cases h
  rcases key v d ps h with ⟨rfl, e⟩ | ⟨b, j, rfl, e⟩ <;> rcases key v' d ps' h' with ⟨rfl, e'⟩ | ⟨b', j', rfl, e'⟩
  · rfl
  · rw [e] at e'; cases e'
  · rw [e] at e'; cases e'
  · rw [e] at e'
    simp only [DataW.agg.injEq, List.cons.injEq, DataW.lit.injEq, Lit.int.injEq, true_and, and_true] at e'
    have h1 : b = b' := by omega
    have h2 : j = j' := by omega
    rw [h1, h2]
theorem vread_ptr (b j : Nat) : vread (.pointer (some ⟨b, j, none⟩)) = some (.agg [.lit (.int .i64 (b : Int)), .lit (.int .i64 (j : Int))], []) := rfl
/-- Which keys are there by now: a key's place among the operations is four times it. -/
def litF (p c : Nat) (li : Array Bool) : Int → Option Value := fun k => if 1 ≤ k ∧ k ≤ 4 ∧ li.getD (4 * k.toNat) true = true then some (.pointer (some ⟨p, c + k.toNat, none⟩)) else none
abbrev verdKD : KD 69 Int := intKD Try.underlying69
theorem verd_keyed : Maps.Keyed Try.prog 69 := Maps.int_keyed Try.underlying69
/-- What holds, by what has come up (li): the scratch slots xs, the result xo, the world. -/
structure LitJ (W : World) (p c : Nat) (li : Array Bool) (xs : List Value) (xo : Value) (X : World) : Prop where
  sz : li.size = 19
  len : xs.length = 14
  s0 : li.getD 0 true = true → xs.getD 0 undef = .map (some W.heap.size)
  sm : ∀ j, j < 4 → li.getD (4 * j + 1) true = true → xs.getD (3 * j + 1) undef = .pointer (some ⟨p, c, none⟩)
  sn : ∀ j, j < 4 → li.getD (4 * j + 2) true = true → xs.getD (3 * j + 2) undef = .pointer (some ⟨p, c, none⟩)
  sa : ∀ j, j < 4 → li.getD (4 * j + 3) true = true → xs.getD (3 * j + 3) undef = .pointer (some ⟨p, c + (j + 1), none⟩)
  s17 : li.getD 17 true = true → xs.getD 13 undef = .map (some W.heap.size)
  s18 : li.getD 18 true = true → xo = .map (some W.heap.size)
  tt : Turns [] W X
  no : li.getD 0 true = false → X.heap.size = W.heap.size ∧ ∀ j, j < 4 → li.getD (4 * j + 4) true = false
  yes : li.getD 0 true = true → ∃ n, n + unlisted li ≤ 19 ∧ MapG verdKD vread X W.heap.size (litF p c li) n
theorem unlisted_le (li : Array Bool) : unlisted li ≤ li.size := List.count_le_length
section
variable {W X X' : World} {p c : Nat} {li : Array Bool} {xs : List Value} {xo : Value}
theorem litF_other {i : Nat} (h : ∀ j, j < 4 → i ≠ 4 * j + 4) : litF p c (li.setIfInBounds i true) = litF p c li := by
  funext k
  unfold litF
  by_cases hk : 1 ≤ k ∧ k ≤ 4
  · have h4 : i ≠ 4 * k.toNat := by
      have := h (k.toNat - 1) (by omega)
      omega
    rw [getD_set_ne true h4]
  · rw [if_neg (fun h => hk ⟨h.1, h.2.1⟩), if_neg (fun h => hk ⟨h.1, h.2.1⟩)]
theorem litF_put (hs : li.size = 19) {j : Nat} (hj : j < 4) : litF p c (li.setIfInBounds (4 * j + 4) true) = fun k => if k = ((j + 1 : Nat) : Int) then some (.pointer (some ⟨p, c + (j + 1), none⟩)) else litF p c li k := by
  funext k
  by_cases hk : k = ((j + 1 : Nat) : Int)
  · subst hk
    unfold litF
    rw [if_pos rfl, if_pos ⟨by omega, by omega, by
      rw [show 4 * ((j + 1 : Nat) : Int).toNat = 4 * j + 4 by omega]
      exact getD_sameG (by omega) true⟩]
    rw [show ((j + 1 : Nat) : Int).toNat = j + 1 by omega]
  · rw [if_neg hk]
    unfold litF
    by_cases hk2 : 1 ≤ k ∧ k ≤ 4
    · rw [getD_set_ne true (show 4 * j + 4 ≠ 4 * k.toNat by omega)]
    · rw [if_neg (fun h => hk2 ⟨h.1, h.2.1⟩), if_neg (fun h => hk2 ⟨h.1, h.2.1⟩)]
/-- A slot comes up that holds no memory of its own. -/
theorem LitJ.slot (h : LitJ W p c li xs xo X) {i s : Nat} (hi : li.getD i true = false) (hi0 : i ≠ 0) (hin : ∀ j, j < 4 → i ≠ 4 * j + 4) (v : Value)
    (h17 : i = 17 → s = 13 ∧ v = .map (some W.heap.size)) (h18 : i ≠ 18)
    (hm : ∀ j, j < 4 → i = 4 * j + 1 → s = 3 * j + 1 ∧ v = .pointer (some ⟨p, c, none⟩))
    (hn : ∀ j, j < 4 → i = 4 * j + 2 → s = 3 * j + 2 ∧ v = .pointer (some ⟨p, c, none⟩))
    (ha : ∀ j, j < 4 → i = 4 * j + 3 → s = 3 * j + 3 ∧ v = .pointer (some ⟨p, c + (j + 1), none⟩)) (hlt : i < 19) :
    LitJ W p c (li.setIfInBounds i true) (xs.set s v) xo X := by
  have hs : s < 14 := by
    have : i = 17 ∨ i = 18 ∨ (∃ j, j < 4 ∧ (i = 4 * j + 1 ∨ i = 4 * j + 2 ∨ i = 4 * j + 3 ∨ i = 4 * j + 4)) := by
      by_cases e : i = 17
      · exact .inl e
      by_cases e : i = 18
      · exact .inr (.inl e)
      refine .inr (.inr ⟨(i - 1) / 4, by omega, by omega⟩)
    rcases this with e | e | ⟨j, hj, e | e | e | e⟩
    · have := (h17 e).1; omega
    · exact absurd e h18
    · have := (hm j hj e).1; omega
    · have := (hn j hj e).1; omega
    · have := (ha j hj e).1; omega
    · exact absurd e (hin j hj)
  have hu := unlisted_set hi
  have look : ∀ {a b : Nat} {u : Value}, (i = a → s = b ∧ v = u) → (i ≠ a → s ≠ b) → (li.getD a true = true → xs.getD b undef = u) → (li.setIfInBounds i true).getD a true = true → (xs.set s v).getD b undef = u := fun {a b u} e1 e2 e3 hl => by
    by_cases e : i = a
    · obtain ⟨rfl, rfl⟩ := e1 e
      rw [list_getD_set (by rw [h.len]; omega), if_pos rfl]
    · rw [getD_set_ne true e] at hl
      rw [list_getD_set (by rw [h.len]; omega), if_neg (e2 e)]
      exact e3 hl
  have pin : ∀ {a b : Nat}, s = b → (i = 17 ∧ b = 13) ∨ (∃ j, j < 4 ∧ ((i = 4 * j + 1 ∧ b = 3 * j + 1) ∨ (i = 4 * j + 2 ∧ b = 3 * j + 2) ∨ (i = 4 * j + 3 ∧ b = 3 * j + 3))) := fun {a b} e => by
    subst e
    by_cases e : i = 17
    · exact .inl ⟨e, (h17 e).1⟩
    refine .inr ⟨(i - 1) / 4, by omega, ?_⟩
    have hi4 := hin ((i - 1) / 4) (by omega)
    have : i = 4 * ((i - 1) / 4) + 1 ∨ i = 4 * ((i - 1) / 4) + 2 ∨ i = 4 * ((i - 1) / 4) + 3 := by omega
    rcases this with e | e | e
    · exact .inl ⟨e, (hm _ (by omega) e).1⟩
    · exact .inr (.inl ⟨e, (hn _ (by omega) e).1⟩)
    · exact .inr (.inr ⟨e, (ha _ (by omega) e).1⟩)
  refine ⟨by rw [Array.size_setIfInBounds]; exact h.sz, by rw [List.length_set]; exact h.len, ?_, fun j hj => ?_, fun j hj => ?_, fun j hj => ?_, ?_, fun hl => ?_, h.tt, fun hl => ?_, fun hl => ?_⟩
  · refine look (fun e => absurd e hi0) (fun _ e => ?_) h.s0
    rcases pin (a := 0) e with ⟨_, e⟩ | ⟨j, hj, ⟨_, e⟩ | ⟨_, e⟩ | ⟨_, e⟩⟩ <;> omega
  · refine look (hm j hj) (fun hne e => ?_) (h.sm j hj)
    rcases pin (a := 0) e with ⟨_, e⟩ | ⟨j', hj', ⟨_, e⟩ | ⟨_, e⟩ | ⟨_, e⟩⟩ <;> omega
  · refine look (hn j hj) (fun hne e => ?_) (h.sn j hj)
    rcases pin (a := 0) e with ⟨_, e⟩ | ⟨j', hj', ⟨_, e⟩ | ⟨_, e⟩ | ⟨_, e⟩⟩ <;> omega
  · refine look (ha j hj) (fun hne e => ?_) (h.sa j hj)
    rcases pin (a := 0) e with ⟨_, e⟩ | ⟨j', hj', ⟨_, e⟩ | ⟨_, e⟩ | ⟨_, e⟩⟩ <;> omega
  · refine look h17 (fun hne e => ?_) h.s17
    rcases pin (a := 0) e with ⟨e1, _⟩ | ⟨j', hj', ⟨_, e⟩ | ⟨_, e⟩ | ⟨_, e⟩⟩ <;> omega
  · rw [getD_set_ne true h18] at hl
    exact h.s18 hl
  · rw [getD_set_ne true hi0] at hl
    obtain ⟨h1, h2⟩ := h.no hl
    exact ⟨h1, fun j hj => by rw [getD_set_ne true (hin j hj)]; exact h2 j hj⟩
  · rw [getD_set_ne true hi0] at hl
    obtain ⟨n, h1, h2⟩ := h.yes hl
    exact ⟨n, by omega, by rw [litF_other hin]; exact h2⟩
/-- The result comes up. -/
theorem LitJ.res (h : LitJ W p c li xs xo X) (hi : li.getD 18 true = false) : LitJ W p c (li.setIfInBounds 18 true) xs (.map (some W.heap.size)) X := by
  have hu := unlisted_set hi
  have g : ∀ {a : Nat}, a ≠ 18 → (li.setIfInBounds 18 true).getD a true = li.getD a true := fun {a} ha => getD_set_ne true (Ne.symm ha)
  refine ⟨by rw [Array.size_setIfInBounds]; exact h.sz, h.len, fun hl => h.s0 ((g (by decide)).symm.trans hl), fun j hj hl => h.sm j hj ((g (by omega)).symm.trans hl), fun j hj hl => h.sn j hj ((g (by omega)).symm.trans hl), fun j hj hl => h.sa j hj ((g (by omega)).symm.trans hl), fun hl => h.s17 ((g (by decide)).symm.trans hl), fun _ => rfl, h.tt, fun hl => ?_, fun hl => ?_⟩
  · obtain ⟨h1, h2⟩ := h.no ((g (by decide)).symm.trans hl)
    exact ⟨h1, fun j hj => (g (by omega)).trans (h2 j hj)⟩
  · obtain ⟨n, h1, h2⟩ := h.yes ((g (by decide)).symm.trans hl)
    exact ⟨n, by omega, by rw [litF_other (fun j hj => by omega)]; exact h2⟩
/-- The map is made. -/
theorem LitJ.make (h : LitJ W p c li xs xo X) (hi : li.getD 0 true = false) : LitJ W p c (li.setIfInBounds 0 true) (xs.set 0 (.map (some X.heap.size))) xo (X.alloc (.map #[] 0)) := by
  have hu := unlisted_set hi
  have g : ∀ {a : Nat}, a ≠ 0 → (li.setIfInBounds 0 true).getD a true = li.getD a true := fun {a} ha => getD_set_ne true (Ne.symm ha)
  have gx : ∀ {a : Nat} {v : Value}, a ≠ 0 → (xs.set 0 v).getD a undef = xs.getD a undef := fun {a v} ha => by rw [list_getD_set (by rw [h.len]; omega), if_neg (Ne.symm ha)]
  obtain ⟨hsz, hno⟩ := h.no hi
  refine ⟨by rw [Array.size_setIfInBounds]; exact h.sz, by rw [List.length_set]; exact h.len, fun _ => ?_, fun j hj hl => ?_, fun j hj hl => ?_, fun j hj hl => ?_, fun hl => ?_, fun hl => h.s18 ((g (by decide)).symm.trans hl), h.tt.then (Turns.alloc _ _), fun hl => ?_, fun _ => ?_⟩
  · rw [list_getD_set (by rw [h.len]; omega), if_pos rfl, hsz]
  · rw [gx (by omega)]; exact h.sm j hj ((g (by omega)).symm.trans hl)
  · rw [gx (by omega)]; exact h.sn j hj ((g (by omega)).symm.trans hl)
  · rw [gx (by omega)]; exact h.sa j hj ((g (by omega)).symm.trans hl)
  · rw [gx (by decide)]; exact h.s17 ((g (by decide)).symm.trans hl)
  · rw [getD_sameG (by rw [h.sz]; decide)] at hl; cases hl
  · refine ⟨0, by have := unlisted_le li; rw [h.sz] at this; omega, ?_⟩
    have := MapG.made verdKD vread X
    rw [hsz] at this
    refine this.congr fun k => ?_
    unfold litF
    rw [if_neg fun hk => ?_]
    obtain ⟨h1, h2, h3⟩ := hk
    have := hno (k.toNat - 1) (by omega)
    rw [show 4 * (k.toNat - 1) + 4 = 4 * k.toNat by omega] at this
    rw [g (by omega), this] at h3
    cases h3
/-- A key comes in. -/
theorem LitJ.ins (h : LitJ W p c li xs xo X) {j : Nat} (hj : j < 4) (hi : li.getD (4 * j + 4) true = false) (h0 : li.getD 0 true = true) :
    ∃ X', (Instr.mapUpdate 78 (.map (some W.heap.size)) (.int .i64 ((j + 1 : Nat) : Int)) (.pointer (some ⟨p, c + (j + 1), none⟩))).run Try.prog X = .ok () X' ∧ LitJ W p c (li.setIfInBounds (4 * j + 4) true) xs xo X' := by
  obtain ⟨n, hn, hM⟩ := h.yes h0
  have hu := unlisted_set hi
  obtain ⟨X', hrun, hM', ht⟩ := hM.store (t := 78) (e := 81) verd_keyed Try.underlying78 (by unfold maxLen; omega) (x := ((j + 1 : Nat) : Int)) (by
    show (Lit.int .i64 ((j + 1 : Nat) : Int)).wf = true
    obtain rfl | rfl | rfl | rfl : j = 0 ∨ j = 1 ∨ j = 2 ∨ j = 3 := by omega
    all_goals rfl) (vread_ptr p (c + (j + 1)))
  have g : ∀ {a : Nat}, a ≠ 4 * j + 4 → (li.setIfInBounds (4 * j + 4) true).getD a true = li.getD a true := fun {a} ha => getD_set_ne true (Ne.symm ha)
  refine ⟨X', hrun, ⟨by rw [Array.size_setIfInBounds]; exact h.sz, h.len, fun hl => h.s0 h0, fun i hi' hl => h.sm i hi' ((g (by omega)).symm.trans hl), fun i hi' hl => h.sn i hi' ((g (by omega)).symm.trans hl), fun i hi' hl => h.sa i hi' ((g (by omega)).symm.trans hl), fun hl => h.s17 ((g (by omega)).symm.trans hl), fun hl => h.s18 ((g (by omega)).symm.trans hl), h.tt.trans ht fun i hi' => .inr (by rw [List.mem_singleton] at hi'; rw [hi']; exact Nat.le_refl _), fun hl => ?_, fun _ => ⟨_, ?_, by rw [litF_put h.sz hj]; exact hM'⟩⟩⟩
  · rw [g (by omega), h0] at hl; cases hl
  · split <;> omega
end
end Go.Proofs.Ytcjmieofmogeiaa

namespace Go.Proofs.Ytcjmieofmogeiaa
open Go.RowKit

theorem wp_skipG {P : Program} {o : Oper} {a : Act} {w w' : World} {Kk : Act → World → Prop} {Q : Exit → Act → World → Prop} (h : (execOp a.eval o).run P w = .ok .skip w') (hK : Kk (a.put o.dst undef) w') : Oper.wp P o a w Kk Q := by
  unfold Oper.wp
  rw [h]
  exact hK
theorem ins_run {P : Program} {o : Oper} {a : Act} {w w' : World} {t : TypeId} {m k x : Operand} (ho : o.op = .insert t m k x) (h : (Instr.mapUpdate t (a.eval m) (a.eval k) (a.eval x)).run P w = .ok () w') : (execOp a.eval o).run P w = .ok .skip w' := by
  unfold execOp
  simp [ho, h]
def opsV : Array Oper := #[
  { dst := some 3, op := Op.makeMap 78 none, type := 78, pos := "delta.go:43", after := #[], guard := none },
  { dst := some 4, op := Op.move (Operand.tmp 0), type := 80, pos := "delta.go:43", after := #[], guard := none },
  { dst := some 5, op := Op.nilCheck (Operand.tmp 4), type := 0, pos := "delta.go:43", after := #[{ on := 1, ground := Ground.data }], guard := none },
  { dst := some 6, op := Op.fieldAddr 34 (Operand.tmp 5) 1, type := 0, pos := "delta.go:43", after := #[{ on := 2, ground := Ground.data }], guard := none },
  { dst := none, op := Op.insert 78 (Operand.tmp 3) (Operand.const (Value.int IntKind.i64 1)) (Operand.tmp 6), type := 0, pos := "delta.go:43", after := #[{ on := 0, ground := Ground.data }, { on := 3, ground := Ground.data }], guard := none },
  { dst := some 7, op := Op.move (Operand.tmp 0), type := 80, pos := "delta.go:43", after := #[], guard := none },
  { dst := some 8, op := Op.nilCheck (Operand.tmp 7), type := 0, pos := "delta.go:43", after := #[{ on := 5, ground := Ground.data }], guard := none },
  { dst := some 9, op := Op.fieldAddr 34 (Operand.tmp 8) 2, type := 0, pos := "delta.go:43", after := #[{ on := 6, ground := Ground.data }], guard := none },
  { dst := none, op := Op.insert 78 (Operand.tmp 3) (Operand.const (Value.int IntKind.i64 2)) (Operand.tmp 9), type := 0, pos := "delta.go:43", after := #[{ on := 0, ground := Ground.data }, { on := 7, ground := Ground.data }], guard := none },
  { dst := some 10, op := Op.move (Operand.tmp 0), type := 80, pos := "delta.go:43", after := #[], guard := none },
  { dst := some 11, op := Op.nilCheck (Operand.tmp 10), type := 0, pos := "delta.go:43", after := #[{ on := 9, ground := Ground.data }], guard := none },
  { dst := some 12, op := Op.fieldAddr 34 (Operand.tmp 11) 3, type := 0, pos := "delta.go:43", after := #[{ on := 10, ground := Ground.data }], guard := none },
  { dst := none, op := Op.insert 78 (Operand.tmp 3) (Operand.const (Value.int IntKind.i64 3)) (Operand.tmp 12), type := 0, pos := "delta.go:43", after := #[{ on := 0, ground := Ground.data }, { on := 11, ground := Ground.data }], guard := none },
  { dst := some 13, op := Op.move (Operand.tmp 0), type := 80, pos := "delta.go:43", after := #[], guard := none },
  { dst := some 14, op := Op.nilCheck (Operand.tmp 13), type := 0, pos := "delta.go:43", after := #[{ on := 13, ground := Ground.data }], guard := none },
  { dst := some 15, op := Op.fieldAddr 34 (Operand.tmp 14) 4, type := 0, pos := "delta.go:43", after := #[{ on := 14, ground := Ground.data }], guard := none },
  { dst := none, op := Op.insert 78 (Operand.tmp 3) (Operand.const (Value.int IntKind.i64 4)) (Operand.tmp 15), type := 0, pos := "delta.go:43", after := #[{ on := 0, ground := Ground.data }, { on := 15, ground := Ground.data }], guard := none },
  { dst := some 16, op := Op.move (Operand.tmp 3), type := 78, pos := "delta.go:43", after := #[{ on := 0, ground := Ground.data }, { on := 1, ground := Ground.data }, { on := 2, ground := Ground.data }, { on := 3, ground := Ground.data }, { on := 4, ground := Ground.data }, { on := 5, ground := Ground.data }, { on := 6, ground := Ground.data }, { on := 7, ground := Ground.data }, { on := 8, ground := Ground.data }, { on := 9, ground := Ground.data }, { on := 10, ground := Ground.data }, { on := 11, ground := Ground.data }, { on := 12, ground := Ground.data }, { on := 13, ground := Ground.data }, { on := 14, ground := Ground.data }, { on := 15, ground := Ground.data }, { on := 16, ground := Ground.data }], guard := none },
  { dst := some 2, op := Op.assign (Operand.tmp 16), type := 78, pos := "delta.go:43", after := #[{ on := 17, ground := Ground.data }, { on := 0, ground := Ground.phase }, { on := 1, ground := Ground.phase }, { on := 2, ground := Ground.phase }, { on := 3, ground := Ground.phase }, { on := 4, ground := Ground.phase }, { on := 5, ground := Ground.phase }, { on := 6, ground := Ground.phase }, { on := 7, ground := Ground.phase }, { on := 8, ground := Ground.phase }, { on := 9, ground := Ground.phase }, { on := 10, ground := Ground.phase }, { on := 11, ground := Ground.phase }, { on := 12, ground := Ground.phase }, { on := 13, ground := Ground.phase }, { on := 14, ground := Ground.phase }, { on := 15, ground := Ground.phase }, { on := 16, ground := Ground.phase }, { on := 17, ground := Ground.phase }], guard := none }]
theorem opsV_back (i : Nat) (o : Oper) (h : opsV[i]? = some o) (e : Edge) (he : e ∈ o.after) : e.on < i := by
  have hlt : i < 19 := (Array.getElem?_eq_some_iff.1 h).1
  have ha : ∀ j : Fin 19, ((opsV[j.1]?.getD default).after.toList.all (fun e => Nat.blt e.on j.1)) = true := by decide
  have h1 := ha ⟨i, hlt⟩
  simp only [h, Option.getD_some, List.all_eq_true] at h1
  exact Nat.le_of_ble_eq_true (h1 e (by simpa using he))
/-- The frame: scratch from 3 on, the result in 2. -/
abbrev litAct (v1 : Value) (p c : Nat) (xs : List Value) (xo : Value) (d : List Deferred) : Act := ⟨List.toArray (.pointer (some ⟨p, c, none⟩) :: v1 :: xo :: xs), d⟩
set_option maxRecDepth 100000 in
set_option maxHeartbeats 4000000 in
theorem regionV_any {Q : Exit → Act → World → Prop} (W : World) (p c : Nat) (v1 xo : Value) (xs : List Value) (d : List Deferred) (hlen : xs.length = 14)
    (hQ : ∀ (ys : List Value) (Y : World), Turns [] W Y → (∃ n, MapG verdKD vread Y W.heap.size (fun k => if 1 ≤ k ∧ k ≤ 4 then some (.pointer (some ⟨p, c + k.toNat, none⟩)) else none) n) → ys.length = 14 → Q .normal (litAct v1 p c ys (.map (some W.heap.size)) d) Y) :
    (Code.region 1 opsV true).wp Try.prog Q (litAct v1 p c xs xo d) W := by
  have hmm := @run_makeMap Try.prog
  refine wp_region_any (by kernel_rfl) ?_
  refine wpAny_inv (fun li a X => ∃ ys yo, a = litAct v1 p c ys yo d ∧ LitJ W p c li ys yo X) ?_ ?_ _ _ _ _ (by decide) ⟨xs, xo, rfl, ?_⟩
  · rintro li a X ⟨ys, yo, rfl, hJ⟩ hr
    have hA := ready_nilG (ops := opsV) (li := li) opsV_back hJ.sz hr
    obtain ⟨n, _, hM⟩ := hJ.yes (hA 19 0 (by decide) (by decide))
    rw [hJ.s18 (hA 19 18 (by decide) (by decide))]
    refine hQ ys X hJ.tt ⟨n, hM.congr fun k => ?_⟩ hJ.len
    unfold litF
    by_cases hk : 1 ≤ k ∧ k ≤ 4
    · rw [if_pos hk, if_pos ⟨hk.1, hk.2, hA 19 (4 * k.toNat) (by omega) (by show _ < 19; omega)⟩]
    · rw [if_neg hk, if_neg (fun h => hk ⟨h.1, h.2.1⟩)]
  · rintro li a X ⟨ys, yo, rfl, hJ⟩ i hmem
    obtain ⟨hi, oo, ho, hall⟩ := mem_ready.1 hmem
    have hlt : i < 19 := (Array.getElem?_eq_some_iff.1 ho).1
    obtain ⟨y0, y1, y2, y3, y4, y5, y6, y7, y8, y9, y10, y11, y12, y13, rfl⟩ : ∃ y0 y1 y2 y3 y4 y5 y6 y7 y8 y9 y10 y11 y12 y13, ys = [y0, y1, y2, y3, y4, y5, y6, y7, y8, y9, y10, y11, y12, y13] := by
      have := hJ.len
      match ys, this with
      | [y0, y1, y2, y3, y4, y5, y6, y7, y8, y9, y10, y11, y12, y13], _ => exact ⟨_, _, _, _, _, _, _, _, _, _, _, _, _, _, rfl⟩
    obtain rfl | rfl | rfl | rfl | rfl | rfl | rfl | rfl | rfl | rfl | rfl | rfl | rfl | rfl | rfl | rfl | rfl | rfl | rfl : i = 0 ∨ i = 1 ∨ i = 2 ∨ i = 3 ∨ i = 4 ∨ i = 5 ∨ i = 6 ∨ i = 7 ∨ i = 8 ∨ i = 9 ∨ i = 10 ∨ i = 11 ∨ i = 12 ∨ i = 13 ∨ i = 14 ∨ i = 15 ∨ i = 16 ∨ i = 17 ∨ i = 18 := by omega
    all_goals
      obtain rfl := (Option.some.inj ho).symm
      clear ho hlt hmem
    · refine wpOp_plain (o := opsV[0]) rfl rfl fun K' hK' => ?_
      have HJ := Lib.hid (hJ.make hi)
      unfold Oper.wp
      go_simp
      exact hK'.out _ _ ⟨_, _, rfl, HJ.out⟩
    · refine wpOp_plain (o := opsV[1]) rfl rfl fun K' hK' => ?_
      have HJ := Lib.hid (hJ.slot (s := 1) hi (by decide) (fun j hj => by omega) (.pointer (some ⟨p, c, none⟩)) (fun e => by omega) (by decide) (fun j hj e => by obtain rfl : j = 0 := (by omega); exact ⟨rfl, rfl⟩) (fun j hj e => by omega) (fun j hj e => by omega) (by decide))
      unfold Oper.wp
      go_simp
      exact hK'.out _ _ ⟨_, _, rfl, HJ.out⟩
    · refine wpOp_plain (o := opsV[2]) rfl rfl fun K' hK' => ?_
      have l1 := getD_ttG (hall ⟨1, .data⟩ (by simp [opsV]) rfl)
      have e1 := hJ.sm 0 (by decide) l1
      simp only [List.getD_cons_zero, List.getD_cons_succ, Nat.mul_zero, Nat.reduceMul, Nat.reduceAdd, Nat.zero_add] at e1
      subst e1
      have HJ := Lib.hid (hJ.slot (s := 2) hi (by decide) (fun j hj => by omega) (.pointer (some ⟨p, c, none⟩)) (fun e => by omega) (by decide) (fun j hj e => by omega) (fun j hj e => by obtain rfl : j = 0 := (by omega); exact ⟨rfl, rfl⟩) (fun j hj e => by omega) (by decide))
      unfold Oper.wp
      go_simp
      exact hK'.out _ _ ⟨_, _, rfl, HJ.out⟩
    · refine wpOp_plain (o := opsV[3]) rfl rfl fun K' hK' => ?_
      have l2 := getD_ttG (hall ⟨2, .data⟩ (by simp [opsV]) rfl)
      have e2 := hJ.sn 0 (by decide) l2
      simp only [List.getD_cons_zero, List.getD_cons_succ, Nat.mul_zero, Nat.reduceMul, Nat.reduceAdd, Nat.zero_add] at e2
      subst e2
      have HJ := Lib.hid (hJ.slot (s := 3) hi (by decide) (fun j hj => by omega) (.pointer (some ⟨p, c + 1, none⟩)) (fun e => by omega) (by decide) (fun j hj e => by omega) (fun j hj e => by omega) (fun j hj e => by obtain rfl : j = 0 := (by omega); exact ⟨rfl, rfl⟩) (by decide))
      unfold Oper.wp
      go_simp
      exact hK'.out _ _ ⟨_, _, rfl, HJ.out⟩
    · refine wpOp_plain (o := opsV[4]) rfl rfl fun K' hK' => ?_
      have l0 := getD_ttG (hall ⟨0, .data⟩ (by simp [opsV]) rfl)
      have e0 := hJ.s0 l0
      simp only [List.getD_cons_zero, List.getD_cons_succ, Nat.mul_zero, Nat.reduceMul, Nat.reduceAdd, Nat.zero_add] at e0
      subst e0
      have l3 := getD_ttG (hall ⟨3, .data⟩ (by simp [opsV]) rfl)
      have e3 := hJ.sa 0 (by decide) l3
      simp only [List.getD_cons_zero, List.getD_cons_succ, Nat.mul_zero, Nat.reduceMul, Nat.reduceAdd, Nat.zero_add] at e3
      subst e3
      obtain ⟨X', hrun, HJ⟩ := hJ.ins (j := 0) (by decide) hi l0
      have HJ := Lib.hid HJ
      exact wp_skipG (ins_run rfl hrun) (hK'.out _ _ ⟨_, _, rfl, HJ.out⟩)
    · refine wpOp_plain (o := opsV[5]) rfl rfl fun K' hK' => ?_
      have HJ := Lib.hid (hJ.slot (s := 4) hi (by decide) (fun j hj => by omega) (.pointer (some ⟨p, c, none⟩)) (fun e => by omega) (by decide) (fun j hj e => by obtain rfl : j = 1 := (by omega); exact ⟨rfl, rfl⟩) (fun j hj e => by omega) (fun j hj e => by omega) (by decide))
      unfold Oper.wp
      go_simp
      exact hK'.out _ _ ⟨_, _, rfl, HJ.out⟩
    · refine wpOp_plain (o := opsV[6]) rfl rfl fun K' hK' => ?_
      have l5 := getD_ttG (hall ⟨5, .data⟩ (by simp [opsV]) rfl)
      have e5 := hJ.sm 1 (by decide) l5
      simp only [List.getD_cons_zero, List.getD_cons_succ, Nat.mul_zero, Nat.reduceMul, Nat.reduceAdd, Nat.zero_add] at e5
      subst e5
      have HJ := Lib.hid (hJ.slot (s := 5) hi (by decide) (fun j hj => by omega) (.pointer (some ⟨p, c, none⟩)) (fun e => by omega) (by decide) (fun j hj e => by omega) (fun j hj e => by obtain rfl : j = 1 := (by omega); exact ⟨rfl, rfl⟩) (fun j hj e => by omega) (by decide))
      unfold Oper.wp
      go_simp
      exact hK'.out _ _ ⟨_, _, rfl, HJ.out⟩
    · refine wpOp_plain (o := opsV[7]) rfl rfl fun K' hK' => ?_
      have l6 := getD_ttG (hall ⟨6, .data⟩ (by simp [opsV]) rfl)
      have e6 := hJ.sn 1 (by decide) l6
      simp only [List.getD_cons_zero, List.getD_cons_succ, Nat.mul_zero, Nat.reduceMul, Nat.reduceAdd, Nat.zero_add] at e6
      subst e6
      have HJ := Lib.hid (hJ.slot (s := 6) hi (by decide) (fun j hj => by omega) (.pointer (some ⟨p, c + 2, none⟩)) (fun e => by omega) (by decide) (fun j hj e => by omega) (fun j hj e => by omega) (fun j hj e => by obtain rfl : j = 1 := (by omega); exact ⟨rfl, rfl⟩) (by decide))
      unfold Oper.wp
      go_simp
      exact hK'.out _ _ ⟨_, _, rfl, HJ.out⟩
    · refine wpOp_plain (o := opsV[8]) rfl rfl fun K' hK' => ?_
      have l0 := getD_ttG (hall ⟨0, .data⟩ (by simp [opsV]) rfl)
      have e0 := hJ.s0 l0
      simp only [List.getD_cons_zero, List.getD_cons_succ, Nat.mul_zero, Nat.reduceMul, Nat.reduceAdd, Nat.zero_add] at e0
      subst e0
      have l7 := getD_ttG (hall ⟨7, .data⟩ (by simp [opsV]) rfl)
      have e7 := hJ.sa 1 (by decide) l7
      simp only [List.getD_cons_zero, List.getD_cons_succ, Nat.mul_zero, Nat.reduceMul, Nat.reduceAdd, Nat.zero_add] at e7
      subst e7
      obtain ⟨X', hrun, HJ⟩ := hJ.ins (j := 1) (by decide) hi l0
      have HJ := Lib.hid HJ
      exact wp_skipG (ins_run rfl hrun) (hK'.out _ _ ⟨_, _, rfl, HJ.out⟩)
    · refine wpOp_plain (o := opsV[9]) rfl rfl fun K' hK' => ?_
      have HJ := Lib.hid (hJ.slot (s := 7) hi (by decide) (fun j hj => by omega) (.pointer (some ⟨p, c, none⟩)) (fun e => by omega) (by decide) (fun j hj e => by obtain rfl : j = 2 := (by omega); exact ⟨rfl, rfl⟩) (fun j hj e => by omega) (fun j hj e => by omega) (by decide))
      unfold Oper.wp
      go_simp
      exact hK'.out _ _ ⟨_, _, rfl, HJ.out⟩
    · refine wpOp_plain (o := opsV[10]) rfl rfl fun K' hK' => ?_
      have l9 := getD_ttG (hall ⟨9, .data⟩ (by simp [opsV]) rfl)
      have e9 := hJ.sm 2 (by decide) l9
      simp only [List.getD_cons_zero, List.getD_cons_succ, Nat.mul_zero, Nat.reduceMul, Nat.reduceAdd, Nat.zero_add] at e9
      subst e9
      have HJ := Lib.hid (hJ.slot (s := 8) hi (by decide) (fun j hj => by omega) (.pointer (some ⟨p, c, none⟩)) (fun e => by omega) (by decide) (fun j hj e => by omega) (fun j hj e => by obtain rfl : j = 2 := (by omega); exact ⟨rfl, rfl⟩) (fun j hj e => by omega) (by decide))
      unfold Oper.wp
      go_simp
      exact hK'.out _ _ ⟨_, _, rfl, HJ.out⟩
    · refine wpOp_plain (o := opsV[11]) rfl rfl fun K' hK' => ?_
      have l10 := getD_ttG (hall ⟨10, .data⟩ (by simp [opsV]) rfl)
      have e10 := hJ.sn 2 (by decide) l10
      simp only [List.getD_cons_zero, List.getD_cons_succ, Nat.mul_zero, Nat.reduceMul, Nat.reduceAdd, Nat.zero_add] at e10
      subst e10
      have HJ := Lib.hid (hJ.slot (s := 9) hi (by decide) (fun j hj => by omega) (.pointer (some ⟨p, c + 3, none⟩)) (fun e => by omega) (by decide) (fun j hj e => by omega) (fun j hj e => by omega) (fun j hj e => by obtain rfl : j = 2 := (by omega); exact ⟨rfl, rfl⟩) (by decide))
      unfold Oper.wp
      go_simp
      exact hK'.out _ _ ⟨_, _, rfl, HJ.out⟩
    · refine wpOp_plain (o := opsV[12]) rfl rfl fun K' hK' => ?_
      have l0 := getD_ttG (hall ⟨0, .data⟩ (by simp [opsV]) rfl)
      have e0 := hJ.s0 l0
      simp only [List.getD_cons_zero, List.getD_cons_succ, Nat.mul_zero, Nat.reduceMul, Nat.reduceAdd, Nat.zero_add] at e0
      subst e0
      have l11 := getD_ttG (hall ⟨11, .data⟩ (by simp [opsV]) rfl)
      have e11 := hJ.sa 2 (by decide) l11
      simp only [List.getD_cons_zero, List.getD_cons_succ, Nat.mul_zero, Nat.reduceMul, Nat.reduceAdd, Nat.zero_add] at e11
      subst e11
      obtain ⟨X', hrun, HJ⟩ := hJ.ins (j := 2) (by decide) hi l0
      have HJ := Lib.hid HJ
      exact wp_skipG (ins_run rfl hrun) (hK'.out _ _ ⟨_, _, rfl, HJ.out⟩)
    · refine wpOp_plain (o := opsV[13]) rfl rfl fun K' hK' => ?_
      have HJ := Lib.hid (hJ.slot (s := 10) hi (by decide) (fun j hj => by omega) (.pointer (some ⟨p, c, none⟩)) (fun e => by omega) (by decide) (fun j hj e => by obtain rfl : j = 3 := (by omega); exact ⟨rfl, rfl⟩) (fun j hj e => by omega) (fun j hj e => by omega) (by decide))
      unfold Oper.wp
      go_simp
      exact hK'.out _ _ ⟨_, _, rfl, HJ.out⟩
    · refine wpOp_plain (o := opsV[14]) rfl rfl fun K' hK' => ?_
      have l13 := getD_ttG (hall ⟨13, .data⟩ (by simp [opsV]) rfl)
      have e13 := hJ.sm 3 (by decide) l13
      simp only [List.getD_cons_zero, List.getD_cons_succ, Nat.mul_zero, Nat.reduceMul, Nat.reduceAdd, Nat.zero_add] at e13
      subst e13
      have HJ := Lib.hid (hJ.slot (s := 11) hi (by decide) (fun j hj => by omega) (.pointer (some ⟨p, c, none⟩)) (fun e => by omega) (by decide) (fun j hj e => by omega) (fun j hj e => by obtain rfl : j = 3 := (by omega); exact ⟨rfl, rfl⟩) (fun j hj e => by omega) (by decide))
      unfold Oper.wp
      go_simp
      exact hK'.out _ _ ⟨_, _, rfl, HJ.out⟩
    · refine wpOp_plain (o := opsV[15]) rfl rfl fun K' hK' => ?_
      have l14 := getD_ttG (hall ⟨14, .data⟩ (by simp [opsV]) rfl)
      have e14 := hJ.sn 3 (by decide) l14
      simp only [List.getD_cons_zero, List.getD_cons_succ, Nat.mul_zero, Nat.reduceMul, Nat.reduceAdd, Nat.zero_add] at e14
      subst e14
      have HJ := Lib.hid (hJ.slot (s := 12) hi (by decide) (fun j hj => by omega) (.pointer (some ⟨p, c + 4, none⟩)) (fun e => by omega) (by decide) (fun j hj e => by omega) (fun j hj e => by omega) (fun j hj e => by obtain rfl : j = 3 := (by omega); exact ⟨rfl, rfl⟩) (by decide))
      unfold Oper.wp
      go_simp
      exact hK'.out _ _ ⟨_, _, rfl, HJ.out⟩
    · refine wpOp_plain (o := opsV[16]) rfl rfl fun K' hK' => ?_
      have l0 := getD_ttG (hall ⟨0, .data⟩ (by simp [opsV]) rfl)
      have e0 := hJ.s0 l0
      simp only [List.getD_cons_zero, List.getD_cons_succ, Nat.mul_zero, Nat.reduceMul, Nat.reduceAdd, Nat.zero_add] at e0
      subst e0
      have l15 := getD_ttG (hall ⟨15, .data⟩ (by simp [opsV]) rfl)
      have e15 := hJ.sa 3 (by decide) l15
      simp only [List.getD_cons_zero, List.getD_cons_succ, Nat.mul_zero, Nat.reduceMul, Nat.reduceAdd, Nat.zero_add] at e15
      subst e15
      obtain ⟨X', hrun, HJ⟩ := hJ.ins (j := 3) (by decide) hi l0
      have HJ := Lib.hid HJ
      exact wp_skipG (ins_run rfl hrun) (hK'.out _ _ ⟨_, _, rfl, HJ.out⟩)
    · refine wpOp_plain (o := opsV[17]) rfl rfl fun K' hK' => ?_
      have l0 := getD_ttG (hall ⟨0, .data⟩ (by simp [opsV]) rfl)
      have e0 := hJ.s0 l0
      simp only [List.getD_cons_zero, List.getD_cons_succ, Nat.mul_zero, Nat.reduceMul, Nat.reduceAdd, Nat.zero_add] at e0
      subst e0
      have HJ := Lib.hid (hJ.slot (s := 13) hi (by decide) (by omega) (.map (some W.heap.size)) (fun _ => ⟨rfl, rfl⟩) (by decide) (fun j hj e => by omega) (fun j hj e => by omega) (fun j hj e => by omega) (by decide))
      unfold Oper.wp
      go_simp
      exact hK'.out _ _ ⟨_, _, rfl, HJ.out⟩
    · refine wpOp_plain (o := opsV[18]) rfl rfl fun K' hK' => ?_
      have l17 := getD_ttG (hall ⟨17, .data⟩ (by simp [opsV]) rfl)
      have e17 := hJ.s17 l17
      simp only [List.getD_cons_zero, List.getD_cons_succ, Nat.mul_zero, Nat.reduceMul, Nat.reduceAdd, Nat.zero_add] at e17
      subst e17
      have HJ := Lib.hid (hJ.res hi)
      unfold Oper.wp
      go_simp
      exact hK'.out _ _ ⟨_, _, rfl, HJ.out⟩
  · have hz : ∀ i, i < 19 → (Array.replicate opsV.size false).getD i true = false := fun i hi => by
      have : opsV.size = 19 := rfl
      simp [Array.getD, this, hi]
    have no : ∀ {i : Nat} {R : Prop}, i < 19 → (Array.replicate opsV.size false).getD i true = true → R := fun {i R} hi h => by rw [hz i hi] at h; cases h
    exact ⟨by simp [opsV], hlen, no (by decide), fun j hj => no (by omega), fun j hj => no (by omega), fun j hj => no (by omega), no (by decide), no (by decide), ⟨rfl, rfl, rfl, Nat.le_refl _, fun _ _ _ => rfl⟩, fun _ => ⟨rfl, fun j hj => hz _ (by omega)⟩, no (by decide)⟩
set_option maxHeartbeats 400000 in
theorem byVerd_any (p c : Nat) (w : World) :
    Calls Try.prog 30 #[.pointer (some ⟨p, c, none⟩)] w fun e w' => ∃ b n, e = .returned (.map (some b)) ∧ w.heap.size ≤ b ∧ MapG verdKD vread w' b (fun k => if 1 ≤ k ∧ k ≤ 4 then some (.pointer (some ⟨p, c + k.toNat, none⟩)) else none) n ∧ Turns [] w w' := by
  go_enter Try.func30, Try.ntmps30
  go_upto_region 1 with fail
  refine regionV_any w p c _ _ [_, _, _, _, _, _, _, _, _, _, _, _, _, _] _ rfl fun ys Y ht hM hl => ?_
  obtain ⟨n, hM⟩ := hM
  obtain ⟨y0, y1, y2, y3, y4, y5, y6, y7, y8, y9, y10, y11, y12, y13, rfl⟩ : ∃ y0 y1 y2 y3 y4 y5 y6 y7 y8 y9 y10 y11 y12 y13, ys = [y0, y1, y2, y3, y4, y5, y6, y7, y8, y9, y10, y11, y12, y13] := by
    match ys, hl with
    | [y0, y1, y2, y3, y4, y5, y6, y7, y8, y9, y10, y11, y12, y13], _ => exact ⟨_, _, _, _, _, _, _, _, _, _, _, _, _, _, rfl⟩
  have HM := Lib.hid hM
  have HT := Lib.hid ht
  clear hM ht hl
  go_wp2
  go_ret
  exact ⟨_, n, rfl, Nat.le_refl _, HM.out, HT.out⟩
end Go.Proofs.Ytcjmieofmogeiaa
