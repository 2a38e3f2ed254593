/- A program's meter by what its calls do, apart from how it lies in memory. -/
import Derived.Test.YtcjmieofmogeiaaStPt
import Derived.Test.YtcjmieofmogeiaaDlCopy
namespace Go.Proofs.Ytcjmieofmogeiaa
open Go.RowKit

structure MeC where
  At : Nat → World → Nat → List Nat → Nat → Tl → List One → Prop
  foot : ∀ {B w p F most T L}, At B w p F most T L → ∀ i ∈ F, B ≤ i ∧ i < w.heap.size
  low : ∀ {B B' w p F most T L}, At B' w p F most T L → B ≤ B' → At B w p F most T L
  turns : ∀ {B w w' p F most T L} {G : List Nat}, At B w p F most T L → Turns G w w' → (∀ i ∈ F, i ∉ G) → At B w' p F most T L
  new : ∀ (most : Int) (w : World), -9223372036854775808 ≤ most → most ≤ 9223372036854775807 → Calls Try.prog 10 #[.int .i64 most] w fun e w' => ∃ p F, e = .returned (ptr p) ∧ At w.heap.size w' p F most.toNat .zero [] ∧ Turns [] w w'
  put : ∀ {B w p F most T L} {l : List Smp} {A : Option Addr} {c N : Nat}, At B w p F most T L → B ≤ w.heap.size → L.length + l.length ≤ 90000 → T.Le N → N + l.length ≤ 1000000 → l.length ≤ c → c ≤ maxLen → sK.Reads w w.heap.size A l → (l = [] ∨ ∀ a, A = some a → a.block ∉ F) → ∀ (owner : Int), (-9223372036854775808 ≤ owner ∧ owner ≤ 9223372036854775807) → (∀ x ∈ l, x.Ok) → (∀ x ∈ (putP most owner l L).1, SnOk x) →
    Calls Try.prog 16 #[ptr p, .int .i64 owner, .slice A l.length c] w fun e w' => ∃ o og F', e = .returned (.tuple #[o, og]) ∧ nK.Own w.heap.size w' o (putP most owner l L).1 ∧ gK.Own w.heap.size w' og (gainsL (putP most owner l L).1) ∧ At B w' p F' most (tallyL T (putP most owner l L).1) (putP most owner l L).2 ∧ Turns F w w' ∧ (∀ i ∈ F', i ∈ F ∨ w.heap.size ≤ i) ∧ (∀ i ∈ ownB o, i ∉ F') ∧ ∀ i ∈ ownB og, i ∉ F'
  tally : ∀ {B w p F most T L}, At B w p F most T L → Calls Try.prog 13 #[ptr p] w fun e w' => e = .returned T.val' ∧ Turns [] w w'
  store : ∀ {B w p F most T L}, At B w p F most T L → L.length ≤ 90000 → Calls Try.prog 14 #[ptr p] w fun e w' => ∃ q, e = .returned (ptr q) ∧ Turns [] w w' ∧ ∀ X, Turns [] w' X → Calls Try.prog 15 #[ptr q] X fun e Y => e = .returned (.int .i64 (L.length : Nat)) ∧ Turns [] X Y
  copy : ∀ {B w p F most T L}, At B w p F most T L → L.length ≤ 90000 → Calls Try.prog 19 #[ptr p] w fun e w' => ∃ q G, e = .returned (ptr q) ∧ At w.heap.size w' q G most T L ∧ Turns [] w w'
  same : ∀ {B1 B2 w p q F G m1 m2 T1 T2 L1 L2}, At B1 w p F m1 T1 L1 → At B2 w q G m2 T2 L2 → L1.length ≤ 90000 → L2.length ≤ 90000 → Calls Try.prog 21 #[ptr p, ptr q] w fun e w' => e = .returned (.bool (decide (m1 = m2 ∧ T1 = T2 ∧ L1 = L2))) ∧ Turns [] w w'
  gain : ∀ (ahead value : Int) (w : World), (-9223372036854775808 ≤ ahead ∧ ahead ≤ 9223372036854775807) → (-9223372036854775808 ≤ value ∧ value ≤ 9223372036854775807) → Calls Try.prog 17 #[.int .i64 ahead, .int .i64 value] w fun e w' => e = .returned (.tuple #[.int .i64 (gainL ahead value).1, .bool (gainL ahead value).2]) ∧ Turns [] w w'
section
variable {C : MeC} {b : Base} {w X Y Z : World} {p q rm rq m : Nat} {T T1 T2 : Tl} {L L1 L2 : List One}
theorem MeC.pre (C : MeC) {B w w' p F most T L} (h : C.At B w p F most T L) (ht : Turns [] w w') : C.At B w' p F most T L := C.turns h ht (by simp)
/-- What a store holds has come in. -/
def LOk (L : List One) : Prop := ∀ y ∈ L, y.l.s.Ok
theorem LOk.nil : LOk [] := fun y hy => by cases hy
theorem oneP_ok {most : Nat} {owner : Int} {x : Smp} (hx : x.Ok) {L : List One} (hL : LOk L) : SnOk (oneP most owner x L).1 ∧ LOk (oneP most owner x L).2 := by
  unfold oneP
  cases ho : ofN x.name L with
  | none =>
    simp only
    by_cases hm : most ≤ L.length
    · rw [if_pos hm]
      exact ⟨⟨hx.2.1, by simp⟩, hL⟩
    · rw [if_neg hm]
      refine ⟨⟨hx.2.1, by simp⟩, fun y hy => ?_⟩
      rcases List.mem_append.1 hy with h | h
      · exact hL y (List.mem_of_mem_take h)
      · rcases List.mem_cons.1 h with rfl | h
        · exact hx
        · exact hL y (List.mem_of_mem_drop h)
  | some i =>
    obtain ⟨y, hy, _⟩ := ofN_some ho
    have hyo := hL y (List.mem_of_getElem? hy)
    simp only [hy]
    by_cases h1 : x.tm < y.l.s.tm
    · rw [if_pos h1]
      exact ⟨⟨hx.2.1, by simp⟩, hL⟩
    rw [if_neg h1]
    by_cases h2 : x.tm = y.l.s.tm
    · rw [if_pos h2]
      exact ⟨⟨hx.2.1, by simp⟩, hL⟩
    rw [if_neg h2]
    refine ⟨?_, fun z hz => ?_⟩
    · cases y.l.live with
      | true => exact ⟨hx.2.1, hyo.2.1⟩
      | false => exact ⟨hx.2.1, by simp⟩
    · rcases List.mem_or_eq_of_mem_set hz with h | rfl
      · exact hL z h
      · exact hx
theorem putsP_ok {most : Nat} {owner : Int} : ∀ {l : List Smp} {L : List One}, (∀ x ∈ l, x.Ok) → LOk L → (∀ x ∈ (putsP most owner l L).1, SnOk x) ∧ LOk (putsP most owner l L).2
  | [], L, _, hL => ⟨fun x hx => (by cases hx), hL⟩
  | x :: l, L, hx, hL => by
    have h1 := oneP_ok (most := most) (owner := owner) (hx x (List.mem_cons_self ..)) hL
    have h2 := putsP_ok (most := most) (owner := owner) (l := l) (fun y hy => hx y (List.mem_cons_of_mem _ hy)) h1.2
    refine ⟨fun y hy => ?_, h2.2⟩
    rcases List.mem_cons.1 hy with rfl | h
    · exact h1.1
    · exact h2.1 y h
theorem putP_ok {most : Nat} {owner : Int} {l : List Smp} {L : List One} (hx : ∀ x ∈ l, x.Ok) (hL : LOk L) : (∀ x ∈ (putP most owner l L).1, SnOk x) ∧ LOk (putP most owner l L).2 := by
  have h := putsP_ok (most := most) (owner := owner) hx hL
  refine ⟨h.1, fun y hy => ?_⟩
  obtain ⟨z, hz, rfl⟩ := List.mem_map.1 hy
  have := h.2 z hz
  unfold staleB
  split <;> exact this
theorem putP_lens (m : Nat) (owner : Int) (l : List Smp) (L : List One) : (putP m owner l L).2.length ≤ L.length + l.length ∧ (putP m owner l L).1.length = l.length := by
  have := putsP_len m owner l L
  unfold putP
  simp only [List.length_map]
  exact ⟨this.2, this.1⟩
/-- A meter and the document's; beside them blocks that stay. -/
def PairM (C : MeC) (b : Base) (X : World) (p m : Nat) (T1 : Tl) (L1 : List One) (rm : Nat) (T2 : Tl) (L2 : List One) : Prop :=
  ∃ F rs v, C.At b.w.heap.size X p F m T1 L1 ∧ RefM b.w.heap.size X rm T2 rs v m L2 ∧ (∀ i ∈ F, i ∉ rm :: rs :: ownB v) ∧ Turns [] b.w X ∧ Stay b X (F ++ rm :: rs :: ownB v)
theorem PairM.turns (h : PairM C b X p m T1 L1 rm T2 L2) : Turns [] b.w X := by
  obtain ⟨F, rs, v, _, _, _, h, _⟩ := h
  exact h
theorem PairM.stays (h : PairM C b X p m T1 L1 rm T2 L2) : ∀ k ∈ b.K, X.heap[k]? = b.Z.heap[k]? := by
  obtain ⟨F, rs, v, _, _, _, _, s⟩ := h
  exact fun k hk => s.block hk
theorem PairM.pre (h : PairM C b X p m T1 L1 rm T2 L2) (ht : Turns [] X Y) : PairM C b Y p m T1 L1 rm T2 L2 := by
  obtain ⟨F, rs, v, a1, a2, c, d, s⟩ := h
  exact ⟨F, rs, v, C.pre a1 ht, a2.pre ht, c, d.then ht, s.pre ht⟩
theorem PairM.hold (h : PairM C b X p m T1 L1 rm T2 L2) (ht : Turns [] X Y) (K : List Nat) (hK : ∀ k ∈ K, X.heap.size ≤ k ∧ k < Y.heap.size) : PairM C ⟨b.w, K ++ b.K, Y⟩ Y p m T1 L1 rm T2 L2 := by
  obtain ⟨F, rs, v, a1, a2, c, d, s⟩ := h
  exact ⟨F, rs, v, C.pre a1 ht, a2.pre ht, c, d.then ht, s.hold ht K hK fun i hi => by
    rcases List.mem_append.1 hi with h | h
    · exact (C.foot a1 i h).2
    · exact (a2.foot i h).2⟩
/-- Less is held. -/
theorem PairM.less {K' : List Nat} (h : PairM C ⟨b.w, K', Z⟩ X p m T1 L1 rm T2 L2) (hK : ∀ k ∈ b.K, k ∈ K') (hZ : ∀ k ∈ b.K, k < b.Z.heap.size ∧ Z.heap[k]? = b.Z.heap[k]?) (hs : b.Z.heap.size ≤ Z.heap.size) : PairM C b X p m T1 L1 rm T2 L2 := by
  obtain ⟨F, rs, v, a1, a2, c, d, s⟩ := h
  exact ⟨F, rs, v, a1, a2, c, d, Nat.le_trans hs s.1, fun k hk => ⟨(hZ k hk).1, (s.2 k (hK k hk)).2.1, (s.2 k (hK k hk)).2.2.trans (hZ k hk).2⟩⟩
theorem pairM_put (h : PairM C b X p m T1 L1 rm T2 L2) {l : List Smp} {A : Option Addr} {c N : Nat} (hl : L1.length + l.length ≤ 90000) (hT : T1.Le N) (hN : N + l.length ≤ 1000000) (hc : l.length ≤ c) (hm : c ≤ maxLen) (hr : sK.Reads X X.heap.size A l)
    (hA : l = [] ∨ ∀ a, A = some a → a.block < b.w.heap.size ∨ a.block ∈ b.K) (owner : Int) (ho : -9223372036854775808 ≤ owner ∧ owner ≤ 9223372036854775807) (hok : ∀ x ∈ l, x.Ok) (hL : LOk L1) :
    Calls Try.prog 16 #[ptr p, .int .i64 owner, .slice A l.length c] X fun e Z => ∃ o og, e = .returned (.tuple #[o, og]) ∧ nK.Own X.heap.size Z o (putP m owner l L1).1 ∧ gK.Own X.heap.size Z og (gainsL (putP m owner l L1).1) ∧ PairM C ⟨b.w, (ownB o ++ ownB og) ++ b.K, Z⟩ Z p m (tallyL T1 (putP m owner l L1).1) (putP m owner l L1).2 rm T2 L2 ∧ (∀ k ∈ b.K, Z.heap[k]? = X.heap[k]?) ∧ X.heap.size ≤ Z.heap.size := by
  obtain ⟨F, rs, v, a1, a2, d, t, s⟩ := h
  refine (C.put a1 t.size hl hT hN hc hm hr (hA.imp id fun hA a' e hF => ?_) owner ho hok (putP_ok hok hL).1).mono ?_
  · rcases hA a' e with h | h
    · have := (C.foot a1 _ hF).1; omega
    · exact (s.2 _ h).2.1 (List.mem_append.2 (.inl hF))
  rintro e Z ⟨o, og, F', rfl, ho, hog, a', tz, hf, hof, hogf⟩
  have hF : ∀ i ∈ F' ++ rm :: rs :: ownB v, i ∉ ownB o ++ ownB og := fun i hi hm => by
    rcases List.mem_append.1 hi with h | h
    · rcases List.mem_append.1 hm with h2 | h2
      · exact hof i h2 h
      · exact hogf i h2 h
    · have := (a2.foot i h).2
      rcases List.mem_append.1 hm with h2 | h2
      · have := (ho.foot i h2).1; omega
      · have := (hog.foot i h2).1; omega
  refine ⟨o, og, rfl, ho, hog, ⟨F', rs, v, a', a2.turns tz fun i hi hm => d i hm hi, fun i hi hm => ?_, t.trans tz fun i hi => .inr (C.foot a1 i hi).1, Nat.le_refl _, fun k hk => ?_⟩, fun k hk => ?_, tz.size⟩
  · rcases hf i hi with h | h
    · exact d i h hm
    · have := (a2.foot i hm).2; omega
  · rcases List.mem_append.1 hk with h | h
    · refine ⟨?_, fun hm => hF k hm h, rfl⟩
      rcases List.mem_append.1 h with h2 | h2
      · exact (ho.foot k h2).2
      · exact (hog.foot k h2).2
    · obtain ⟨s1, s2, s3⟩ := s.2 k h
      have := s.1
      have := tz.size
      refine ⟨by show k < Z.heap.size; omega, fun hm => ?_, rfl⟩
      rcases List.mem_append.1 hm with h2 | h2
      · rcases hf k h2 with h3 | h3
        · exact s2 (List.mem_append.2 (.inl h3))
        · omega
      · exact s2 (List.mem_append.2 (.inr h2))
  · obtain ⟨s1, s2, s3⟩ := s.2 k hk
    have := s.1
    exact tz.block k (by omega) fun hm => s2 (List.mem_append.2 (.inl hm))
theorem pairM_rput (h : PairM C b X p m T1 L1 rm T2 L2) {l : List Smp} {A : Option Addr} {c N : Nat} (hl : L2.length + l.length ≤ 90000) (hT : T2.Le N) (hN : N + l.length ≤ 1000000) (hc : l.length ≤ c) (hr : sK.Reads X X.heap.size A l)
    (hA : l = [] ∨ ∀ a, A = some a → a.block < b.w.heap.size ∨ a.block ∈ b.K) (owner : Int) (hok : ∀ x ∈ l, x.Ok) (hL : LOk L2) :
    Calls Try.prog 25 #[ptr rm, .int .i64 owner, .slice A l.length c] X fun e Z => ∃ o og, e = .returned (.tuple #[o, og]) ∧ nK.Own X.heap.size Z o (putP m owner l L2).1 ∧ gK.Own X.heap.size Z og (gainsL (putP m owner l L2).1) ∧ PairM C b Z p m T1 L1 rm (tallyL T2 (putP m owner l L2).1) (putP m owner l L2).2 := by
  obtain ⟨F, rs, v, a1, a2, d, t, s⟩ := h
  refine (rputM_any a2 t.size hl hT hN hc hr (hA.imp id fun hA a e hm => ?_) owner (putP_ok hok hL).1).mono ?_
  · rcases hA a e with h | h
    · have := (a2.foot _ hm).1; omega
    · exact (s.2 _ h).2.1 (List.mem_append.2 (.inr hm))
  rintro e Z ⟨o, og, rfl, hI⟩
  obtain ⟨v', r1, r2, r3, r4⟩ := hI.ref
  have hfo : ∀ i ∈ rm :: rs :: ownB v', i ∈ rm :: rs :: ownB v ∨ X.heap.size ≤ i := fun i hi => by
    rcases List.mem_cons.1 hi with rfl | hi
    · exact .inl (by simp)
    · rcases List.mem_cons.1 hi with rfl | hi
      · exact .inl (by simp)
      · exact (r2 i hi).imp (fun h => by simp [h]) id
  refine ⟨o, og, rfl, hI.seen, hI.gains, F, rs, v', C.turns a1 hI.tt d, r1, fun i hi hm => ?_, t.trans hI.tt fun i hi => .inr (a2.foot i hi).1, s.next hI.tt (fun i hi => List.mem_append.2 (.inr hi)) fun i hi => ?_⟩
  · rcases hfo i hm with h | h
    · exact d i hi h
    · have := (C.foot a1 i hi).2; omega
  · rcases List.mem_append.1 hi with h | h
    · exact .inl (List.mem_append.2 (.inl h))
    · exact (hfo i h).imp (fun h => List.mem_append.2 (.inr h)) id
end
end Go.Proofs.Ytcjmieofmogeiaa
