/- A wheel and the document's, side by side; one act, by both. -/
import Derived.Test.YtaepgcicgmbbeaaWhNextW
import Derived.Test.YtaepgcicgmbbeaaWhRSet
namespace Go.Proofs.Ytaepgcicgmbbeaa
open Go.RowKit

theorem rset_any {B : Nat} {w : World} {rv : Nat} {A : Option Addr} {c : Nat} {T : Int} {L : List Fi} (h : RefW B w rv A c T L) (hi : Ids L) (hL : L.length ≤ 900) (id at' : Int) :
    Calls Try.prog 22 #[.pointer (some ⟨rv, 0, none⟩), .int .i64 id, .int .i64 at'] w (RefP B w rv A T (setL T L id at').2 (.int .i64 (setL T L id at').1)) := by
  unfold setL
  by_cases hn : at' < T ∨ 1125899906842624 < at'
  · rw [if_pos hn]
    exact rset_no h id at' hn
  · rw [if_neg hn]
    exact rset_yes h hi hL id at' hn
/-- The world that a pair stands on, blocks beside it, and a world in which they lie as they lie. -/
structure Base where
  w : World
  K : List Nat
  Z : World
abbrev Base.plain (w : World) : Base := ⟨w, [], w⟩
def footF (F : List Nat) (rv : Nat) (A : Option Addr) : List Nat := F ++ rv :: blkA A
theorem mem_footF {F : List Nat} {rv : Nat} {A : Option Addr} {i : Nat} : i ∈ footF F rv A ↔ i ∈ F ∨ i = rv ∨ i ∈ blkA A := by simp [footF]
/-- What is beside it stays. -/
def Stay (b : Base) (X : World) (G : List Nat) : Prop := b.Z.heap.size ≤ X.heap.size ∧ ∀ k ∈ b.K, k < b.Z.heap.size ∧ k ∉ G ∧ X.heap[k]? = b.Z.heap[k]?
theorem Stay.next {b : Base} {X Y : World} {G G' H : List Nat} (h : Stay b X G) (ht : Turns H X Y) (hH : ∀ i ∈ H, i ∈ G) (hG : ∀ i ∈ G', i ∈ G ∨ X.heap.size ≤ i) : Stay b Y G' := by
  obtain ⟨h1, h2⟩ := h
  refine ⟨Nat.le_trans h1 ht.size, fun k hk => ?_⟩
  obtain ⟨a, c, d⟩ := h2 k hk
  refine ⟨a, fun hm => ?_, (ht.block k (by omega) fun hm => c (hH k hm)).trans d⟩
  rcases hG k hm with h | h
  · exact c h
  · omega
theorem Stay.pre {b : Base} {X Y : World} {G : List Nat} (h : Stay b X G) (ht : Turns [] X Y) : Stay b Y G := h.next ht (by simp) fun _ h => .inl h
theorem Stay.plain {w X : World} (h : w.heap.size ≤ X.heap.size) (G : List Nat) : Stay (.plain w) X G := ⟨h, by simp⟩
/-- Both hold the same. -/
def PairW (w : Base) (X : World) (bw rv : Nat) (T : Int) (L : List Fi) : Prop :=
  ∃ F A c, WhAt w.w.heap.size X bw T L F ∧ RefW w.w.heap.size X rv A c T L ∧ rv ∉ F ∧ (∀ i ∈ blkA A, i ∉ F) ∧ Turns [] w.w X ∧ Stay w X (footF F rv A)
/-- An act under way: what the program's wheel, the document's has done. -/
def DoQ (w : Base) (X0 : World) (bw rv : Nat) (T T' : Int) (L L' : List Fi) (C : Array Value) (p r : Bool) (X : World) : Prop :=
  ∃ F A c, WhAt w.w.heap.size X bw (if p then T' else T) (if p then L' else L) F ∧ RefW w.w.heap.size X rv A c (if r then T' else T) (if r then L' else L) ∧ rv ∉ F ∧ (∀ i ∈ blkA A, i ∉ F) ∧ Turns [] w.w X ∧ X.heap[X0.heap.size]? = some (.cells C 32 (0, 0)) ∧ X0.heap.size ∉ F ∧ X0.heap.size ≠ rv ∧ Stay w X (footF F rv A)
section
variable {w : Base} {X0 X Y : World} {bw rv : Nat} {T T' : Int} {L L' : List Fi} {C : Array Value} {p r : Bool} {i a : Int}
theorem PairW.turns (h : PairW w X bw rv T L) : Turns [] w.w X := by
  obtain ⟨F, A, c, _, _, _, _, h, _⟩ := h
  exact h
theorem PairW.pre (h : PairW w X bw rv T L) (ht : Turns [] X Y) : PairW w Y bw rv T L := by
  obtain ⟨F, A, c, a, b, d, e, f, s⟩ := h
  exact ⟨F, A, c, a.pre ht, b.pre ht, d, e, f.then ht, s.pre ht⟩
theorem DoQ.start (h : PairW w X0 bw rv T L) (T' : Int) (L' : List Fi) (C : Array Value) : DoQ w X0 bw rv T T' L L' C false false (X0.alloc (.cells C 32)) := by
  obtain ⟨F, A, c, a, b, d, e, f, s⟩ := h
  have ht : Turns [] X0 (X0.alloc (.cells C 32)) := Turns.alloc _ _
  exact ⟨F, A, c, a.pre ht, b.pre ht, d, e, f.then ht, heap_alloc_new X0 _, fun hm => by have := (a.1 _ hm).2; omega, fun e => by have := b.lt; omega, s.pre ht⟩
theorem DoQ.pre (h : DoQ w X0 bw rv T T' L L' C p r X) (ht : Turns [] X Y) : DoQ w X0 bw rv T T' L L' C p r Y := by
  obtain ⟨F, A, c, a, b, d, e, f, g, k, l, s⟩ := h
  exact ⟨F, A, c, a.pre ht, b.pre ht, d, e, f.then ht, (ht.block _ (lt_of_block g) (by simp)).trans g, k, l, s.pre ht⟩
theorem DoQ.drew (h : DoQ w X0 bw rv T T' L L' C p r X) : DoQ w X0 bw rv T T' L L' C p r X.drew := h.pre ((Turns.refl [] X).drew)
theorem DoQ.done (h : DoQ w X0 bw rv T T' L L' C true true X) : PairW w X bw rv T' L' := by
  obtain ⟨F, A, c, a, b, d, e, f, g, k, l, s⟩ := h
  exact ⟨F, A, c, a, b, d, e, f, s⟩
theorem DoQ.cells {k i a : Int} (h : DoQ w X0 bw rv T T' L L' #[.int .i64 k, .int .i64 i, .int .i64 a] p r X) : X.cell? ⟨X0.heap.size, 0, none⟩ = some (.int .i64 k) ∧ X.cell? ⟨X0.heap.size, 1, none⟩ = some (.int .i64 i) ∧ X.cell? ⟨X0.heap.size, 2, none⟩ = some (.int .i64 a) := by
  obtain ⟨F, A, c, _, _, _, _, _, g, _⟩ := h
  simp [World.cell?, g]
theorem DoQ.now (h : DoQ w X0 bw rv T T L L' C p r X) : X.cell? ⟨rv, 0, none⟩ = some (.int .i64 T) := by
  obtain ⟨F, A, c, _, b, _⟩ := h
  have := b.cells.1
  simpa using this
theorem DoQ.prog {F : List Nat} {A : Option Addr} {c : Nat} (a : WhAt w.w.heap.size X bw T L F) (b : RefW w.w.heap.size X rv A c (if r then T' else T) (if r then L' else L)) (d : rv ∉ F) (e : ∀ i ∈ blkA A, i ∉ F) (f : Turns [] w.w X) (g : X.heap[X0.heap.size]? = some (.cells C 32 (0, 0))) (k : X0.heap.size ∉ F) (l : X0.heap.size ≠ rv) (s : Stay w X (footF F rv A))
    {F' : List Nat} (h1 : WhAt w.w.heap.size Y bw T' L' F') (h2 : Turns F X Y) (h3 : ∀ i ∈ F', i ∈ F ∨ X.heap.size ≤ i) : DoQ w X0 bw rv T T' L L' C true r Y := by
  have hbl : ∀ i ∈ blkA A, i < X.heap.size := fun i hi => by
    rcases b.form with ⟨h, _⟩ | ⟨b', o, h, _, h5, _⟩
    · simp [blkA, h] at hi
    · simp [blkA, h] at hi; omega
  refine ⟨F', A, c, h1, b.turns h2 d e, fun hm => ?_, fun i hi hm => ?_, f.trans h2 fun i hi => .inr (a.1 i hi).1, (h2.block _ (lt_of_block g) k).trans g, fun hm => ?_, l, ?_⟩
  · rcases h3 _ hm with h | h
    · exact d h
    · have := b.lt; omega
  · rcases h3 _ hm with h | h
    · exact e i hi h
    · have := hbl i hi; omega
  · rcases h3 _ hm with h | h
    · exact k h
    · have := lt_of_block g; omega
  · refine s.next h2 (fun i hi => mem_footF.2 (.inl hi)) fun i hi => ?_
    rcases mem_footF.1 hi with h | h
    · exact (h3 i h).imp (fun h => mem_footF.2 (.inl h)) id
    · exact .inl (mem_footF.2 (.inr h))
theorem DoQ.ref {F : List Nat} {A : Option Addr} {c : Nat} (a : WhAt w.w.heap.size X bw (if p then T' else T) (if p then L' else L) F) (b : RefW w.w.heap.size X rv A c T L) (d : rv ∉ F) (e : ∀ i ∈ blkA A, i ∉ F) (f : Turns [] w.w X) (g : X.heap[X0.heap.size]? = some (.cells C 32 (0, 0))) (k : X0.heap.size ∉ F) (l : X0.heap.size ≠ rv) (s : Stay w X (footF F rv A))
    {A' : Option Addr} {c' : Nat} (h1 : RefW w.w.heap.size Y rv A' c' T' L') (h2 : Turns [rv] X Y) (h3 : ∀ i ∈ blkA A', i ∈ blkA A ∨ X.heap.size ≤ i) : DoQ w X0 bw rv T T' L L' C p true Y := by
  refine ⟨F, A', c', a.turns h2 fun i hi hm => ?_, h1, d, fun i hi hm => ?_, f.trans h2 fun i hi => .inr (by simp at hi; rw [hi]; exact b.low), (h2.block _ (lt_of_block g) (by simpa using l)).trans g, k, l, ?_⟩
  · simp at hm
    subst hm
    exact d hi
  · rcases h3 i hi with h | h
    · exact e i h hm
    · have := (a.1 i hm).2; omega
  · refine s.next h2 (fun i hi => mem_footF.2 (.inr (.inl (by simpa using hi)))) fun i hi => ?_
    rcases mem_footF.1 hi with h | h | h
    · exact .inl (mem_footF.2 (.inl h))
    · exact .inl (mem_footF.2 (.inr (.inl h)))
    · exact (h3 i h).imp (fun h => mem_footF.2 (.inr (.inr h))) id
theorem doq_set (h : DoQ w X0 bw rv T T L (setL T L i a).2 C false r X) (hok : WOk T L) (hid : -9223372036854775808 ≤ i ∧ i ≤ 9223372036854775807) (hat : -9223372036854775808 ≤ a ∧ a ≤ 9223372036854775807) (hL : L.length ≤ 900) :
    Calls Try.prog 15 #[.pointer (some ⟨bw, 0, none⟩), .int .i64 i, .int .i64 a] X fun e Y => e = .returned (.int .i64 (setL T L i a).1) ∧ DoQ w X0 bw rv T T L (setL T L i a).2 C true r Y := by
  obtain ⟨F, A, c, a1, b, d, e, f, g, k, l, s⟩ := h
  simp only [Bool.false_eq_true, if_false] at a1
  refine (set_any a1 hok i a hid hat (by omega)).mono ?_
  rintro _ Y ⟨rfl, F', h1, h2, h3⟩
  exact ⟨rfl, DoQ.prog a1 b d e f g k l s h1 h2 h3⟩
theorem doq_rset (h : DoQ w X0 bw rv T T L (setL T L i a).2 C p false X) (hok : WOk T L) (hL : L.length ≤ 900) :
    Calls Try.prog 22 #[.pointer (some ⟨rv, 0, none⟩), .int .i64 i, .int .i64 a] X fun e Y => e = .returned (.int .i64 (setL T L i a).1) ∧ DoQ w X0 bw rv T T L (setL T L i a).2 C p true Y := by
  obtain ⟨F, A, c, a1, b, d, e, f, g, k, l, s⟩ := h
  simp only [Bool.false_eq_true, if_false] at b
  refine (rset_any b hok.ids hL i a).mono ?_
  rintro _ Y ⟨rfl, A', c', h1, h2, h3⟩
  exact ⟨rfl, DoQ.ref a1 b d e f g k l s h1 h2 h3⟩
theorem doq_can (h : DoQ w X0 bw rv T T L (canL i L) C false r X) (hok : WOk T L) (hid : -9223372036854775808 ≤ i ∧ i ≤ 9223372036854775807) (hL : L.length ≤ 900) :
    Calls Try.prog 19 #[.pointer (some ⟨bw, 0, none⟩), .int .i64 i] X fun e Y => e = .returned (.bool (getL i L).isSome) ∧ DoQ w X0 bw rv T T L (canL i L) C true r Y := by
  obtain ⟨F, A, c, a1, b, d, e, f, g, k, l, s⟩ := h
  simp only [Bool.false_eq_true, if_false] at a1
  refine (cancel_any a1 hok i hid (by omega)).mono ?_
  rintro _ Y ⟨rfl, F', h1, h2, h3⟩
  exact ⟨rfl, DoQ.prog a1 b d e f g k l s h1 h2 h3⟩
theorem doq_rcan (h : DoQ w X0 bw rv T T L (canL i L) C p false X) (hok : WOk T L) (hL : L.length ≤ 900) :
    Calls Try.prog 23 #[.pointer (some ⟨rv, 0, none⟩), .int .i64 i] X fun e Y => e = .returned (.bool (getL i L).isSome) ∧ DoQ w X0 bw rv T T L (canL i L) C p true Y := by
  obtain ⟨F, A, c, a1, b, d, e, f, g, k, l, s⟩ := h
  simp only [Bool.false_eq_true, if_false] at b
  refine (rcancel_any b hok.ids (by omega) i).mono ?_
  rintro _ Y ⟨rfl, A', c', h1, h2, h3⟩
  exact ⟨rfl, DoQ.ref a1 b d e f g k l s h1 h2 h3⟩
end
def DoP (w : Base) (bw rv : Nat) (L : List Fi) (e : Ending) (Y : World) : Prop := e = .returned (.bool true) ∧ ∃ T' L', PairW w Y bw rv T' L' ∧ WOk T' L' ∧ L'.length ≤ L.length + 1
section
variable {w : Base} {X : World} {bw rv : Nat} {T : Int} {L : List Fi}
set_option maxRecDepth 100000 in
set_option maxHeartbeats 4000000 in
theorem do_x (h : PairW w X bw rv T L) (hok : WOk T L) (k i a : Int) (h1 : k ≠ 1) (h2 : k ≠ 2) (h3 : k ≠ 3) (h4 : k ≠ 4) :
    Calls Try.prog 9 #[.pointer (some ⟨bw, 0, none⟩), .pointer (some ⟨rv, 0, none⟩), .agg #[.int .i64 k, .int .i64 i, .int .i64 a]] X (DoP w bw rv L) := by
  have e1 : (k == 1) = false := by simpa using h1
  have e2 : (k == 2) = false := by simpa using h2
  have e3 : (k == 3) = false := by simpa using h3
  have e4 : (k == 4) = false := by simpa using h4
  have HE : Hid (∀ o, DoP w bw rv L (.returned (.bool true)) (X.alloc o)) := Lib.hid (fun o => ⟨rfl, T, L, h.pre (Turns.alloc (F := []) X o), hok, Nat.le_succ _⟩)
  clear h hok h1 h2 h3 h4
  go_enter Try.func9, Try.ntmps9
  go_wp2
  go_ret
  exact HE.out _
end
theorem wrap_in (x : Int) : -9223372036854775808 ≤ wrap64 x ∧ wrap64 x ≤ 9223372036854775807 := by simp [wrap64]; omega
end Go.Proofs.Ytaepgcicgmbbeaa
