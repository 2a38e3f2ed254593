/- Lists of windows in memory: each with its credits elsewhere; nothing of them is ever written again. -/
import Derived.Test.YtjkkpdflijjllaaWnMem
namespace Go.Proofs.Ytjkkpdflijjllaa
open Go.RowKit

/-- The slice at A reads as l; its block is one of G. -/
def EK.ReadsG {α : Type} (K : EK α) (W : World) (G : List Nat) (A : Option Addr) (l : List α) : Prop :=
  l = [] ∨ ∃ b off, A = some ⟨b, off, none⟩ ∧ b ∈ G ∧ b < W.heap.size ∧ ∀ j u, (K.flat l)[j]? = some u → W.cell? ⟨b, off + j, none⟩ = some u
section
variable {α : Type} {K : EK α} {W W' : World} {G G' F : List Nat} {A : Option Addr} {l : List α}
theorem EK.ReadsG.reads (h : K.ReadsG W G A l) : K.Reads W W.heap.size A l := by
  rcases h with h | ⟨b, off, rfl, _, hb, hc⟩
  · exact .inl h
  · exact .inr ⟨b, off, rfl, hb, hc⟩
theorem EK.ReadsG.turns (h : K.ReadsG W G A l) (ht : Turns F W W') (hF : ∀ i ∈ G, i ∉ F) : K.ReadsG W' G A l := by
  rcases h with h | ⟨b, off, rfl, hg, hb, hc⟩
  · exact .inl h
  · exact .inr ⟨b, off, rfl, hg, Nat.lt_of_lt_of_le hb ht.size, fun j u hj => (ht.cell hb (hF b hg) _).trans (hc j u hj)⟩
theorem EK.ReadsG.mono (h : K.ReadsG W G A l) (hG : ∀ i ∈ G, i ∈ G') : K.ReadsG W G' A l := by
  rcases h with h | ⟨b, off, rfl, hg, hb, hc⟩
  · exact .inl h
  · exact .inr ⟨b, off, rfl, hG b hg, hb, hc⟩
theorem EK.Own.readsG {B : Nat} {v : Value} (h : K.Own B W v l) : ∃ A cap, v = .slice A l.length cap ∧ K.ReadsG W (ownB v) A l ∧ l.length ≤ cap ∧ cap ≤ maxLen := by
  rcases h.form with ⟨rfl, rfl⟩ | ⟨g, cap, rfl, _, hg, hn, hm⟩
  · exact ⟨none, 0, rfl, .inl rfl, Nat.le_refl _, by unfold maxLen; omega⟩
  · refine ⟨_, cap, rfl, .inr ⟨g, 0, rfl, by simp [ownB, Value.ownBlock], hg, fun j c hj => ?_⟩, hn, hm⟩
    have := World.ownsRow.cells h (g := g) rfl j c hj
    rwa [add_plain'] at this
theorem EK.ReadsG.at {P : Program} (ok : K.Ok P) (h : K.ReadsG W G A l) {k : Nat} {x : α} (hx : l[k]? = some x) : ∃ b off, A = some ⟨b, off, none⟩ ∧ b ∈ G ∧ b < W.heap.size ∧ ∀ i u, (K.enc x)[i]? = some u → W.cell? ⟨b, off + (k * K.sz + i), none⟩ = some u := by
  rcases h with rfl | ⟨b, off, rfl, hg, hb, hc⟩
  · simp at hx
  · exact ⟨b, off, rfl, hg, hb, fun i u hu => hc _ _ (EK.flat_at ok hx i u hu)⟩
end
/-- A window as it lies in a list. -/
structure Rw where
  num : Int
  A : Option Addr
  n : Nat
  c : Nat
instance : Inhabited Rw := ⟨⟨0, none, 0, 0⟩⟩
def wK : EK Rw := ⟨39, 42, 2, 32, .agg #[.int .i64 0, .slice none 0 0], fun x => [.int .i64 x.num, .slice x.A x.n x.c]⟩
theorem wOk : wK.Ok Try.prog := ⟨Try.underlying39, by kernel_rfl, rfl, by decide, by decide, fun _ => rfl, fun x u hu => by simp [wK] at hu; rcases hu with rfl | rfl <;> rfl⟩
structure WRd (W : World) (G : List Nat) (r : Rw) (x : Wn) : Prop where
  num : r.num = x.num
  len : r.n = x.cr.length
  cap : r.n ≤ r.c ∧ r.c ≤ maxLen
  rd : cK.ReadsG W G r.A x.cr
/-- Raw windows that read as these. -/
def WRds (W : World) (G : List Nat) (R : List Rw) (L : List Wn) : Prop := R.length = L.length ∧ ∀ (j : Nat) (r : Rw) (x : Wn), R[j]? = some r → L[j]? = some x → WRd W G r x
/-- The value is a list that reads as these windows. -/
def WnL (W : World) (G : List Nat) (v : Value) (L : List Wn) : Prop := ∃ A c R, v = .slice A L.length c ∧ L.length ≤ c ∧ c ≤ maxLen ∧ wK.ReadsG W G A R ∧ WRds W G R L
section
variable {W W' : World} {G G' F : List Nat} {r : Rw} {x : Wn} {v : Value} {R R' : List Rw} {L L' : List Wn}
theorem WRd.turns (h : WRd W G r x) (ht : Turns F W W') (hF : ∀ i ∈ G, i ∉ F) : WRd W' G r x := ⟨h.num, h.len, h.cap, h.rd.turns ht hF⟩
theorem WRd.mono (h : WRd W G r x) (hG : ∀ i ∈ G, i ∈ G') : WRd W G' r x := ⟨h.num, h.len, h.cap, h.rd.mono hG⟩
theorem WRds.turns (h : WRds W G R L) (ht : Turns F W W') (hF : ∀ i ∈ G, i ∉ F) : WRds W' G R L := ⟨h.1, fun j r x h1 h2 => (h.2 j r x h1 h2).turns ht hF⟩
theorem WRds.mono (h : WRds W G R L) (hG : ∀ i ∈ G, i ∈ G') : WRds W G' R L := ⟨h.1, fun j r x h1 h2 => (h.2 j r x h1 h2).mono hG⟩
theorem WRds.nil : WRds W G [] [] := ⟨rfl, fun j r x h => by simp at h⟩
theorem WRds.append (h : WRds W G R L) (h' : WRds W G R' L') : WRds W G (R ++ R') (L ++ L') := by
  refine ⟨by rw [List.length_append, List.length_append, h.1, h'.1], fun j r x h1 h2 => ?_⟩
  rcases Nat.lt_or_ge j R.length with hj | hj
  · rw [List.getElem?_append_left hj] at h1
    rw [List.getElem?_append_left (by rw [← h.1]; exact hj)] at h2
    exact h.2 j r x h1 h2
  · rw [List.getElem?_append_right hj] at h1
    rw [List.getElem?_append_right (by rw [← h.1]; exact hj), ← h.1] at h2
    exact h'.2 _ r x h1 h2
theorem WRds.take (h : WRds W G R L) (k : Nat) : WRds W G (R.take k) (L.take k) := by
  refine ⟨by rw [List.length_take, List.length_take, h.1], fun j r x h1 h2 => ?_⟩
  rcases Nat.lt_or_ge j k with hj | hj
  · rw [List.getElem?_take_of_lt hj] at h1 h2
    exact h.2 j r x h1 h2
  · rw [List.getElem?_take_eq_none hj] at h1
    cases h1
theorem WRds.drop (h : WRds W G R L) (k : Nat) : WRds W G (R.drop k) (L.drop k) := by
  refine ⟨by rw [List.length_drop, List.length_drop, h.1], fun j r x h1 h2 => ?_⟩
  rw [List.getElem?_drop] at h1 h2
  exact h.2 _ r x h1 h2
theorem WRds.one (h : WRd W G r x) : WRds W G [r] [x] := by
  refine ⟨rfl, fun j r' x' h1 h2 => ?_⟩
  cases j with
  | zero => simp at h1 h2; subst h1 h2; exact h
  | succ j => simp at h1
theorem WnL.turns (h : WnL W G v L) (ht : Turns F W W') (hF : ∀ i ∈ G, i ∉ F) : WnL W' G v L := by
  obtain ⟨A, c, R, e, h1, h2, h3, h4⟩ := h
  exact ⟨A, c, R, e, h1, h2, h3.turns ht hF, h4.turns ht hF⟩
theorem WnL.pre (h : WnL W G v L) (ht : Turns [] W W') : WnL W' G v L := h.turns ht (by simp)
theorem WnL.mono (h : WnL W G v L) (hG : ∀ i ∈ G, i ∈ G') : WnL W G' v L := by
  obtain ⟨A, c, R, e, h1, h2, h3, h4⟩ := h
  exact ⟨A, c, R, e, h1, h2, h3.mono hG, h4.mono hG⟩
theorem WnL.nil : WnL W G (.slice none 0 0) [] := ⟨none, 0, [], rfl, Nat.le_refl _, Nat.zero_le _, .inl rfl, .nil⟩
/-- What was built of raw windows. -/
theorem WnL.built {B : Nat} (h : wK.Own B W v R) (h' : WRds W G R L) (hv : ∀ i ∈ ownB v, i ∈ G) : WnL W G v L := by
  obtain ⟨A, c, e, h1, h2, h3⟩ := h.readsG
  exact ⟨A, c, R, by rw [← h'.1]; exact e, by rw [← h'.1]; exact h2, h3, h1.mono hv, h'⟩
/-- One window of a list: where its cells lie. -/
theorem WnL.at (h : WnL W G v L) {k : Nat} {x : Wn} (hx : L[k]? = some x) : ∃ b off c r, v = .slice (some ⟨b, off, none⟩) L.length c ∧ WRd W G r x ∧ W.cell? ⟨b, off + k * 2, none⟩ = some (.int .i64 x.num) ∧ W.cell? ⟨b, off + k * 2 + 1, none⟩ = some (.slice r.A x.cr.length r.c) := by
  obtain ⟨A, c, R, e, h1, h2, h3, h4⟩ := h
  obtain ⟨r, hr⟩ : ∃ r, R[k]? = some r := ⟨_, List.getElem?_eq_getElem (by rw [h4.1]; exact (List.getElem?_eq_some_iff.1 hx).1)⟩
  have hw := h4.2 k r x hr hx
  obtain ⟨b, off, rfl, _, hb, hc⟩ := h3.at wOk hr
  have c0 := hc 0 _ rfl
  have c1 := hc 1 _ rfl
  simp only [wK, Nat.add_zero, ← Nat.add_assoc] at c0 c1
  rw [hw.num] at c0
  rw [hw.len] at c1
  exact ⟨b, off, c, r, e, hw, c0, c1⟩
/-- So it stays while nothing is written. -/
theorem WnL.atT (h : WnL W G v L) {k : Nat} {x : Wn} (hx : L[k]? = some x) : ∃ b off c r, v = .slice (some ⟨b, off, none⟩) L.length c ∧ ∀ W', Turns [] W W' → WRd W' G r x ∧ W'.cell? ⟨b, off + k * 2, none⟩ = some (.int .i64 x.num) ∧ W'.cell? ⟨b, off + k * 2 + 1, none⟩ = some (.slice r.A x.cr.length r.c) := by
  obtain ⟨A, c, R, e, h1, h2, h3, h4⟩ := h
  obtain ⟨r, hr⟩ : ∃ r, R[k]? = some r := ⟨_, List.getElem?_eq_getElem (by rw [h4.1]; exact (List.getElem?_eq_some_iff.1 hx).1)⟩
  have hw := h4.2 k r x hr hx
  obtain ⟨b, off, rfl, _, hb, hc⟩ := h3.at wOk hr
  have c0 := hc 0 _ rfl
  have c1 := hc 1 _ rfl
  simp only [wK, Nat.add_zero, ← Nat.add_assoc] at c0 c1
  rw [hw.num] at c0
  rw [hw.len] at c1
  exact ⟨b, off, c, r, e, fun W' ht => ⟨hw.turns ht (by simp), (ht.cell hb (by simp) _).trans c0, (ht.cell hb (by simp) _).trans c1⟩⟩
end
end Go.Proofs.Ytjkkpdflijjllaa
