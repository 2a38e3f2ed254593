/- How far the document's Add has come: its windows, what closed, the list that it builds. -/
import Derived.Test.YtjkkpdflijjllaaWnAddQ
namespace Go.Proofs.Ytjkkpdflijjllaa
open Go.RowKit

/-- K: all blocks that are read still, and never written again. -/
structure AddL (B : Nat) (w : World) (rv : Nat) (G : List Nat) (bx : Array Value) (K : List Nat) (v4 : Value) (S4 : Ws) (o : Value) (C : List Wn) (vl : Value) (Rl : List Rw) (Ll : List Wn) (W : World) : Prop where
  ref : RefW B W rv K v4 S4
  clo : WnL W K o C
  own : wK.Own (w.heap.size + 1) W vl Rl
  rds : WRds W K Rl Ll
  box : W.heap[w.heap.size]? = some (.cells bx 34 (0, 0))
  tt : Turns [rv] w W
  foot : ∀ i ∈ K, (i ∈ G ∨ w.heap.size ≤ i) ∧ i ≠ w.heap.size
  ap : ∀ i ∈ ownB vl, i ∉ K
  lt : rv < w.heap.size ∧ B ≤ w.heap.size
section
variable {B : Nat} {w W W' : World} {rv : Nat} {G K : List Nat} {bx : Array Value} {v4 : Value} {S4 : Ws} {o : Value} {C : List Wn} {vl : Value} {Rl : List Rw} {Ll : List Wn}
theorem AddL.more (h : AddL B w rv G bx K v4 S4 o C vl Rl Ll W) : w.heap.size + 1 ≤ W.heap.size := lt_of_block h.box
theorem AddL.start {v : Value} {S : Ws} (h : RefW B w rv G v S) (hB : B ≤ w.heap.size) (ht : Turns [] w W) (hb : W.heap[w.heap.size]? = some (.cells bx 34 (0, 0))) : AddL B w rv G bx G v S (.slice none 0 0) [] (.slice none 0 0) [] [] W :=
  ⟨h.pre ht, .nil, World.ownsRow_nil _ _ _ _, .nil, hb, ht.mono (by simp), fun i hi => ⟨.inl hi, by have := (h.foot i hi).2; omega⟩, by simp [ownB, Value.ownBlock], h.lt, hB⟩
theorem AddL.next (h : AddL B w rv G bx K v4 S4 o C vl Rl Ll W) (ht : Turns [] W W') : AddL B w rv G bx K v4 S4 o C vl Rl Ll W' :=
  ⟨h.ref.pre ht, h.clo.pre ht, h.own.turns ht (by simp), h.rds.turns ht (by simp), (ht.block _ h.more (by simp)).trans h.box, h.tt.trans ht (by simp), h.foot, h.ap, h.lt⟩
/-- The first window is taken away. -/
theorem AddL.first (h : AddL B w rv G bx K v4 S4 o C vl Rl Ll W) {K' : List Nat} {v' : Value} {S' : Ws} (hr : RefW B W' rv K' v' S') (ht : Turns [rv] W W') (hK : ∀ i ∈ K, i ∈ K') (hK' : ∀ i ∈ K', i ∈ K ∨ W.heap.size ≤ i) : AddL B w rv G bx K' v' S' o C vl Rl Ll W' := by
  have hn : ∀ i ∈ K, i ∉ [rv] := fun i hi hm => h.ref.ne (by rw [List.mem_singleton] at hm; rw [← hm]; exact hi)
  have hm := h.more
  have hlt := h.lt
  refine ⟨hr, (h.clo.turns ht hn).mono hK, h.own.turns ht (fun i hi hm => ?_), (h.rds.turns ht hn).mono hK, (ht.block _ (by omega) (by simp; omega)).trans h.box, h.tt.after ht (fun i hi => hi), fun i hi => ?_, fun i hi hi' => ?_, h.lt⟩
  · have := (h.own.foot i (by simp [ownB, hi])).1
    rw [List.mem_singleton] at hm
    omega
  · rcases hK' i hi with h1 | h1
    · exact h.foot i h1
    · exact ⟨.inr (by omega), by omega⟩
  · have := (h.own.foot i hi).2
    rcases hK' i hi' with h1 | h1
    · exact h.ap i hi h1
    · omega
/-- What is new is read, too. -/
theorem AddL.keep (h : AddL B w rv G bx K v4 S4 o C vl Rl Ll W) (ht : Turns [] W W') {N : List Nat} (hN : ∀ i ∈ N, W.heap.size ≤ i ∧ i < W'.heap.size) : AddL B w rv G bx (N ++ K) v4 S4 o C vl Rl Ll W' := by
  have h2 := h.next ht
  have hm := h.more
  have hlt := h.lt
  refine ⟨⟨h2.ref.head, h2.ref.list.mono fun i hi => List.mem_append.2 (.inr hi), h2.ref.low, fun hi => ?_, fun i hi => ?_⟩, h2.clo.mono fun i hi => List.mem_append.2 (.inr hi), h2.own, h2.rds.mono fun i hi => List.mem_append.2 (.inr hi), h2.box, h2.tt, fun i hi => ?_, fun i hi hi' => ?_, h.lt⟩
  · rcases List.mem_append.1 hi with h1 | h1
    · have := (hN _ h1).1; omega
    · exact h.ref.ne h1
  · rcases List.mem_append.1 hi with h1 | h1
    · have := hN _ h1
      exact ⟨by omega, this.2⟩
    · exact h2.ref.foot i h1
  · rcases List.mem_append.1 hi with h1 | h1
    · have := hN _ h1
      exact ⟨.inr (by omega), by omega⟩
    · exact h.foot i h1
  · have := (h.own.foot i hi).2
    rcases List.mem_append.1 hi' with h1 | h1
    · have := hN _ h1; omega
    · exact h.ap i hi h1
/-- A window closed: it is what is handed back. -/
theorem AddL.closed (h : AddL B w rv G bx K v4 S4 o C vl Rl Ll W) (ht : Turns [] W W') {base : Nat} (hb : W.heap.size ≤ base) {vo : Value} {r : Rw} {x : Wn} (ho : wK.Own base W' vo [r]) (hr : WRd W K r x) : AddL B w rv G bx (ownB vo ++ K) v4 S4 vo [x] vl Rl Ll W' := by
  have h2 := h.keep ht (N := ownB vo) fun i hi => ⟨Nat.le_trans hb (ho.foot i hi).1, (ho.foot i hi).2⟩
  exact ⟨h2.ref, WnL.built ho (.one ((hr.turns ht (by simp)).mono fun i hi => List.mem_append.2 (.inr hi))) fun i hi => List.mem_append.2 (.inl hi), h2.own, h2.rds, h2.box, h2.tt, h2.foot, h2.ap, h2.lt⟩
/-- New credits. -/
theorem AddL.creds (h : AddL B w rv G bx K v4 S4 o C vl Rl Ll W) (ht : Turns [] W W') {oc : Value} {cr : List Cr} (ho : cK.Own W.heap.size W' oc cr) (n : Int) : ∃ A c, oc = .slice A cr.length c ∧ AddL B w rv G bx (ownB oc ++ K) v4 S4 o C vl Rl Ll W' ∧ WRd W' (ownB oc ++ K) ⟨n, A, cr.length, c⟩ ⟨n, cr⟩ := by
  obtain ⟨A, c, e, h1, h2, h3⟩ := ho.readsG
  exact ⟨A, c, e, h.keep ht (fun i hi => ho.foot i hi), rfl, rfl, ⟨h2, h3⟩, h1.mono fun i hi => List.mem_append.2 (.inl hi)⟩
/-- The list is longer. -/
theorem AddL.app (h : AddL B w rv G bx K v4 S4 o C vl Rl Ll W) {vl' : Value} {R2 : List Rw} {L2 : List Wn} (hown : wK.Own (w.heap.size + 1) W' vl' (Rl ++ R2)) (ht : Turns (ownB vl) W W') (hf : ∀ i ∈ ownB vl', i ∈ ownB vl ∨ i = W.heap.size) (h2 : WRds W K R2 L2) : AddL B w rv G bx K v4 S4 o C vl' (Rl ++ R2) (Ll ++ L2) W' := by
  have hK : ∀ i ∈ K, i ∉ ownB vl := fun i hi hm => h.ap i hm hi
  have hm := h.more
  have hlt := h.lt
  have hrv : rv ∉ ownB vl := fun hi => by have := (h.own.foot _ hi).1; omega
  refine ⟨h.ref.turns ht hrv hK, h.clo.turns ht hK, hown, (h.rds.turns ht hK).append (h2.turns ht hK), (ht.block _ (by omega) fun hi => by have := (h.own.foot _ hi).1; omega).trans h.box, h.tt.trans ht fun i hi => .inr (by have := (h.own.foot i hi).1; omega), h.foot, fun i hi hi' => ?_, h.lt⟩
  rcases hf i hi with h1 | h1
  · exact h.ap i h1 hi'
  · have := (h.ref.foot i hi').2; omega
/-- A gain more is credited. -/
theorem AddL.cred (h : AddL B w rv G bx K v4 S4 o C vl Rl Ll W) : AddL B w rv G bx K v4 { S4 with cred := S4.cred + 1 } o C vl Rl Ll (W.setCell ⟨rv, 6, none⟩ (.int .i64 (S4.cred + 1))) := by
  have ht : Turns [rv] W (W.setCell ⟨rv, 6, none⟩ (.int .i64 (S4.cred + 1))) := Turns.setCell _ _ _ (by simp)
  exact h.first (h.ref.put 6 _ rfl rfl) ht (fun i hi => hi) fun i hi => .inl hi
/-- It is done. -/
theorem AddL.fin (h : AddL B w rv G bx K v4 S4 o C vl Rl Ll W) :
    RefW B (W.setCell ⟨rv, 3, none⟩ vl) rv (ownB vl ++ K) vl { S4 with L := Ll } ∧ WnL (W.setCell ⟨rv, 3, none⟩ vl) K o C ∧ Turns [rv] w (W.setCell ⟨rv, 3, none⟩ vl) ∧ (∀ i ∈ ownB vl ++ K, i ∈ G ∨ w.heap.size ≤ i) ∧ ∀ i ∈ K, i ∈ G ∨ w.heap.size ≤ i := by
  have ht : Turns [rv] W (W.setCell ⟨rv, 3, none⟩ vl) := Turns.setCell _ _ _ (by simp)
  have hn : ∀ i ∈ K, i ∉ [rv] := fun i hi hm => h.ref.ne (by rw [List.mem_singleton] at hm; rw [← hm]; exact hi)
  have hm := h.more
  have hlt := h.lt
  refine ⟨h.ref.putList (WnL.built h.own (h.rds.mono fun i hi => List.mem_append.2 (.inr hi)) fun i hi => List.mem_append.2 (.inl hi)) (fun hi => ?_) fun i hi => ?_, h.clo.turns ht hn, h.tt.after ht (fun i hi => hi), fun i hi => ?_, fun i hi => (h.foot i hi).1⟩
  · rcases List.mem_append.1 hi with h1 | h1
    · have := (h.own.foot _ h1).1; omega
    · exact h.ref.ne h1
  · rcases List.mem_append.1 hi with h1 | h1
    · have := h.own.foot _ h1
      exact ⟨by omega, this.2⟩
    · exact h.ref.foot i h1
  · rcases List.mem_append.1 hi with h1 | h1
    · exact .inr (by have := (h.own.foot _ h1).1; omega)
    · exact (h.foot i h1).1
/-- The windows, in parts. -/
theorem AddL.parts (h : AddL B w rv G bx K v4 S4 o C vl Rl Ll W) : ∃ (A4 : Option Addr) (c4 : Nat) (R4 : List Rw), v4 = .slice A4 S4.L.length c4 ∧ S4.L.length ≤ c4 ∧ c4 ≤ maxLen ∧ R4.length = S4.L.length ∧ (∀ k, WRds W K (R4.take k) (S4.L.take k) ∧ WRds W K (R4.drop k) (S4.L.drop k)) ∧ ∀ W', Turns [] W W' → ∀ k, wK.Reads W' W'.heap.size A4 (R4.take k) ∧ wK.Reads W' W'.heap.size (if c4 = k then A4 else Option.map (fun x => x.add (k * 2)) A4) (R4.drop k) := by
  obtain ⟨A, c, R, e, h1, h2, h3, h4⟩ := h.ref.list
  refine ⟨A, c, R, e, h1, h2, h4.1, fun k => ⟨h4.take k, h4.drop k⟩, fun W' ht k => ⟨?_, ?_⟩⟩
  · have h5 := h3.turns ht (by simp)
    rcases h5 with h6 | ⟨b, off, hA, hg, hb, hc⟩
    · exact .inl (by rw [h6]; simp)
    · refine .inr ⟨b, off, hA, hb, fun j u hj => hc j u ?_⟩
      have e2 : wK.flat R = wK.flat (R.take k) ++ wK.flat (R.drop k) := by
        unfold EK.flat
        rw [← List.flatMap_append, List.take_append_drop]
      rw [e2, List.getElem?_append_left (List.getElem?_eq_some_iff.1 hj).1]
      exact hj
  · split
    · exact .inl (List.drop_eq_nil_of_le (by rw [h4.1]; omega))
    · rcases h3 with h6 | ⟨b, off, hA, hg, hb, hc⟩
      · exact .inl (by rw [h6]; simp)
      · subst hA
        have h5 : wK.ReadsG W K (some ⟨b, off, none⟩) R := .inr ⟨b, off, rfl, hg, hb, hc⟩
        have := ((h5.turns ht (by simp)).drop wOk k).reads
        show wK.Reads W' W'.heap.size (some ((⟨b, off, none⟩ : Addr).add (k * 2))) (R.drop k)
        rw [add_plain']
        exact this
end
end Go.Proofs.Ytjkkpdflijjllaa
