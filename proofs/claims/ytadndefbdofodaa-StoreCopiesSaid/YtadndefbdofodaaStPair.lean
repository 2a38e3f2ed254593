/- A store and the document's, side by side. -/
import Derived.Test.YtadndefbdofodaaStKnown
import Derived.Test.YtadndefbdofodaaStLook
namespace Go.Proofs.Ytadndefbdofodaa
open Go.RowKit

/-- A store and the document's; beside them blocks that stay. -/
def PairX (C : StC) (b : Base) (X : World) (p : Nat) (m1 : Nat) (L1 : List One) (rv : Nat) (m2 : Nat) (L2 : List One) : Prop :=
  ∃ F v, C.At b.w.heap.size X p F m1 L1 ∧ RefS b.w.heap.size X rv v m2 L2 ∧ (∀ i ∈ F, i ∉ rv :: ownB v) ∧ Turns [] b.w X ∧ Stay b X (F ++ rv :: ownB v)
section
variable {C : StC} {b : Base} {X Y Z : World} {p rv m1 m2 : Nat} {L1 L2 : List One}
theorem PairX.turns (h : PairX C b X p m1 L1 rv m2 L2) : Turns [] b.w X := by
  obtain ⟨F, v, _, _, _, h, _⟩ := h
  exact h
theorem PairX.stays (h : PairX C b X p m1 L1 rv m2 L2) : ∀ k ∈ b.K, X.heap[k]? = b.Z.heap[k]? := by
  obtain ⟨F, v, _, _, _, _, s⟩ := h
  exact fun k hk => s.block hk
theorem PairX.pre (h : PairX C b X p m1 L1 rv m2 L2) (ht : Turns [] X Y) : PairX C b Y p m1 L1 rv m2 L2 := by
  obtain ⟨F, v, a1, a2, c, d, s⟩ := h
  exact ⟨F, v, C.pre a1 ht, a2.pre ht, c, d.then ht, s.pre ht⟩
theorem RefS.foot {B : Nat} {v : Value} (a : RefS B X rv v m2 L2) : ∀ i ∈ rv :: ownB v, B ≤ i ∧ i < X.heap.size := fun i hi => by
  rcases List.mem_cons.1 hi with rfl | h
  · exact ⟨a.low, a.lt⟩
  · exact a.own.foot i h
theorem PairX.hold (h : PairX C b X p m1 L1 rv m2 L2) (ht : Turns [] X Y) (K : List Nat) (hK : ∀ k ∈ K, X.heap.size ≤ k ∧ k < Y.heap.size) : PairX C ⟨b.w, K ++ b.K, Y⟩ Y p m1 L1 rv m2 L2 := by
  obtain ⟨F, v, a1, a2, c, d, s⟩ := h
  exact ⟨F, v, C.pre a1 ht, a2.pre ht, c, d.then ht, s.hold ht K hK fun i hi => by
    rcases List.mem_append.1 hi with h | h
    · exact (C.foot a1 i h).2
    · exact (a2.foot i h).2⟩
/-- What stays may be turned at last. -/
theorem PairX.free (h : PairX C b X p m1 L1 rv m2 L2) {H : List Nat} (ht : Turns H X Y) (hH : ∀ i ∈ H, i ∈ b.K ∧ b.w.heap.size ≤ i) : PairX C (.plain b.w) Y p m1 L1 rv m2 L2 := by
  obtain ⟨F, v, a1, a2, c, d, s⟩ := h
  have hn : ∀ i ∈ F ++ rv :: ownB v, i ∉ H := fun i hi hm => (s.2 i (hH i hm).1).2.1 hi
  refine ⟨F, v, C.turns a1 ht fun i hi => hn i (List.mem_append.2 (.inl hi)), a2.turns ht (hn _ (by simp)) fun i hi => hn i (by simp [hi]), c, d.trans ht fun i hi => .inr (hH i hi).2, Stay.plain (Nat.le_trans d.size ht.size) _⟩
theorem PairX.start {w : World} (h : LoneS C (.plain w) X p m1 L1) (ht : Turns [] X Y) {v : Value} (hr : RefS X.heap.size Y rv v m2 L2) : PairX C (.plain w) Y p m1 L1 rv m2 L2 := by
  obtain ⟨F, a, t, s⟩ := h
  refine ⟨F, v, C.pre a ht, ⟨hr.head, hr.own.low t.size, Nat.le_trans t.size hr.low, hr.ne⟩, fun i hi hm => ?_, t.then ht, Stay.plain (t.then ht).size _⟩
  have := (C.foot a i hi).2
  have := (hr.foot i hm).1
  omega
theorem pair_put (hp : PairX C b Y p m1 L1 rv m2 L2) (hY : Turns [] Y X) {l : List Smp} {A : Option Addr} {c : Nat} (hl : L1.length + l.length ≤ 90000) (hc : l.length ≤ c) (hm : c ≤ maxLen) (hr : sK.Reads X X.heap.size A l)
    (hA : l = [] ∨ ∀ a, A = some a → a.block < b.w.heap.size ∨ a.block ∈ b.K ∨ Y.heap.size ≤ a.block) (owner : Int) (ho : -9223372036854775808 ≤ owner ∧ owner ≤ 9223372036854775807) (hok : ∀ x ∈ l, x.Ok) :
    Calls Try.prog 12 #[ptr p, .int .i64 owner, .slice A l.length c] X fun e Z => ∃ o, e = .returned o ∧ nK.Own X.heap.size Z o (putP m1 owner l L1).1 ∧ PairX C ⟨b.w, ownB o ++ b.K, Z⟩ Z p m1 (putP m1 owner l L1).2 rv m2 L2 ∧ ∀ k ∈ b.K, Z.heap[k]? = X.heap[k]? := by
  obtain ⟨F, v, a1, a2, d, t, s⟩ := hp
  refine (C.put (C.pre a1 hY) (t.then hY).size hl hc hm hr (hA.imp id fun hA a' e hF => ?_) owner ho hok).mono ?_
  · rcases hA a' e with h | h | h
    · have := (C.foot a1 _ hF).1; omega
    · exact (s.2 _ h).2.1 (List.mem_append.2 (.inl hF))
    · have := (C.foot a1 _ hF).2; omega
  rintro e Z ⟨o, F', rfl, ho, a', tz, hf, hof⟩
  have s1 := (s.pre hY).next tz (G' := F' ++ rv :: ownB v) (fun i hi => List.mem_append.2 (.inl hi)) fun i hi => by
    rcases List.mem_append.1 hi with h | h
    · exact (hf i h).imp (fun h => List.mem_append.2 (.inl h)) id
    · exact .inl (List.mem_append.2 (.inr h))
  have a2X := a2.pre hY
  have hF : ∀ i ∈ F' ++ rv :: ownB v, i ∉ ownB o := fun i hi hm => by
    rcases List.mem_append.1 hi with h | h
    · exact hof i hm h
    · have := (a2X.foot i h).2
      have := (ho.foot i hm).1
      omega
  refine ⟨o, rfl, ho, ⟨F', v, a', a2X.turns tz (fun hm => d _ hm (List.mem_cons_self ..)) (fun i hi hm => d i hm (List.mem_cons_of_mem _ hi)), fun i hi hm => ?_, (t.then hY).trans tz fun i hi => .inr (C.foot a1 i hi).1, Nat.le_refl _, fun k hk => ?_⟩, fun k hk => ?_⟩
  · rcases hf i hi with h | h
    · exact d i h hm
    · have := (a2X.foot i hm).2
      omega
  · rcases List.mem_append.1 hk with h | h
    · exact ⟨(ho.foot k h).2, fun hm => hF k hm h, rfl⟩
    · have := (s1.2 k h).1
      have := s1.1
      exact ⟨by show k < Z.heap.size; omega, (s1.2 k h).2.1, rfl⟩
  · rw [s1.block hk, (s.pre hY).block hk]
theorem pair_rput (hp : PairX C b X p m1 L1 rv m2 L2) {l : List Smp} {A : Option Addr} {c : Nat} (hl : L2.length + l.length ≤ 90000) (hc : l.length ≤ c) (hr : sK.Reads X X.heap.size A l)
    (hA : l = [] ∨ ∀ a, A = some a → a.block < b.w.heap.size ∨ a.block ∈ b.K) (owner : Int) :
    Calls Try.prog 14 #[ptr rv, .int .i64 owner, .slice A l.length c] X fun e Z => ∃ o, e = .returned o ∧ nK.Own X.heap.size Z o (putP m2 owner l L2).1 ∧ PairX C b Z p m1 L1 rv m2 (putP m2 owner l L2).2 := by
  obtain ⟨F, v, a1, a2, d, t, s⟩ := hp
  refine (rput_any a2 t.size hl hc hr (hA.imp id fun hA a e hm => ?_) owner).mono ?_
  · rcases hA a e with h | h
    · have := (a2.foot _ hm).1; omega
    · exact (s.2 _ h).2.1 (List.mem_append.2 (.inr hm))
  rintro e Z ⟨o, rfl, hI⟩
  obtain ⟨v', r1, r2, r3⟩ := hI.old
  refine ⟨o, rfl, hI.out, F, v', C.turns a1 hI.tt d, r1, fun i hi hm => ?_, t.trans hI.tt fun i hi => .inr (a2.foot i hi).1, s.next hI.tt (fun i hi => List.mem_append.2 (.inr hi)) fun i hi => ?_⟩
  · rcases List.mem_cons.1 hm with rfl | h
    · exact d _ hi (List.mem_cons_self ..)
    · rcases r2 i h with h | h
      · exact d i hi (List.mem_cons_of_mem _ h)
      · have := (C.foot a1 i hi).2; omega
  · rcases List.mem_append.1 hi with h | h
    · exact .inl (List.mem_append.2 (.inl h))
    · rcases List.mem_cons.1 h with rfl | h
      · exact .inl (List.mem_append.2 (.inr (List.mem_cons_self ..)))
      · exact (r2 i h).imp (fun h => List.mem_append.2 (.inr (List.mem_cons_of_mem _ h))) id
theorem pair_look (hp : PairX C b X p m1 L1 rv m1 L1) (hl : L1.length ≤ 900) (leave : Int) :
    Calls Try.prog 11 #[ptr p, ptr rv, .int .i64 leave] X fun e Y => e = .returned (.bool true) ∧ Turns [] X Y := by
  obtain ⟨F, v, a1, a2, _⟩ := hp
  exact (look_st C a1 a2 hl leave).mono fun e Y h => ⟨h.1, Turns.of_below h.2 (Nat.le_refl _)⟩
theorem putsP_most (m : Nat) (owner : Int) : ∀ (l : List Smp) (L : List One), (putP m owner l L).2.length ≤ L.length + l.length ∧ (putP m owner l L).1.length = l.length := fun l L => by
  have := putsP_len m owner l L
  unfold putP
  simp only [List.length_map]
  exact ⟨this.2, this.1⟩
/-- The shape of a row of samples: its values may be counted up. -/
def RowV (X : World) (g n : Nat) : Prop := ∃ cur t, X.heap[g]? = some (.cells cur t (0, 0)) ∧ ∀ k, k < n → ∃ z : Int, cur[k * 4 + 1]? = some (.int .i64 z)
theorem RowV.of {B : Nat} {v : Value} {l : List Smp} (h : sK.Own B X v l) : (v = .slice none 0 0 ∧ l = []) ∨ ∃ g c, v = .slice (some ⟨g, 0, none⟩) l.length c ∧ B ≤ g ∧ g < X.heap.size ∧ RowV X g l.length := by
  obtain ⟨hl, h2⟩ := h
  rcases h2 with ⟨e, h0⟩ | ⟨g, cap, cur, e, hB, hg, h3, h4, h5, h6⟩
  · exact .inl ⟨e, List.length_eq_zero_iff.1 h0⟩
  · refine .inr ⟨g, cap, e, hB, lt_of_block hg, cur, _, hg, fun k hk => ?_⟩
    obtain ⟨x, hx⟩ : ∃ x, l[k]? = some x := ⟨_, List.getElem?_eq_getElem hk⟩
    have h7 := EK.flat_at sOk hx 1 (.int .i64 x.val) rfl
    rw [← h6] at h7
    refine ⟨x.val, ?_⟩
    have h8 : k * 4 + 1 < l.length * 4 := by omega
    have h9 : (cur.toList.take (l.length * 4))[k * 4 + 1]? = some (.int .i64 x.val) := h7
    rw [List.getElem?_take_of_lt h8] at h9
    simpa using h9
theorem RowV.get {g n : Nat} (h : RowV X g n) {k : Nat} (hk : k < n) : ∃ z : Int, X.cell? ⟨g, k * 4 + 1, none⟩ = some (.int .i64 z) ∧ X.frozen? ⟨g, k * 4 + 1, none⟩ = false ∧ ∀ u : Int, RowV (X.setCell ⟨g, k * 4 + 1, none⟩ (.int .i64 u)) g n := by
  obtain ⟨cur, t, hg, hc⟩ := h
  obtain ⟨z, hz⟩ := hc k hk
  refine ⟨z, by simp [World.cell?, hg, hz], by simp [World.frozen?, hg], fun u => ⟨_, t, heap_setCell_same X g (k * 4 + 1) _ _ (.int .i64 u) hg, fun j hj => ?_⟩⟩
  obtain ⟨y, hy⟩ := hc j hj
  by_cases e : k * 4 + 1 = j * 4 + 1
  · refine ⟨u, ?_⟩
    rw [← e]
    have := (Array.getElem?_eq_some_iff.1 hz).1
    simp [this]
  · refine ⟨y, ?_⟩
    have e2 : ¬ k * 4 = j * 4 := by omega
    simp [Array.getElem?_setIfInBounds, Array.getElem?_set, e2, hy]
theorem RowV.keep {g n : Nat} (h : RowV X g n) (hg : Y.heap[g]? = X.heap[g]?) : RowV Y g n := by
  obtain ⟨cur, t, h1, h2⟩ := h
  exact ⟨cur, t, hg.trans h1, h2⟩
end
end Go.Proofs.Ytadndefbdofodaa
