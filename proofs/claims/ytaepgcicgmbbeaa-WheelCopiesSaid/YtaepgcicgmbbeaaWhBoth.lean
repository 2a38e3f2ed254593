/- Two pairs that stand apart. -/
import Derived.Test.YtaepgcicgmbbeaaWhPlaysW
import Derived.Test.YtaepgcicgmbbeaaWhRCopy
import Derived.Test.YtaepgcicgmbbeaaWhRSameQ
namespace Go.Proofs.Ytaepgcicgmbbeaa
open Go.RowKit

/-- Two pairs, apart. -/
def BothW (w X : World) (b1 v1 : Nat) (T1 : Int) (L1 : List Fi) (b2 v2 : Nat) (T2 : Int) (L2 : List Fi) : Prop :=
  ∃ F1 A1 c1 F2 A2 c2, (WhAt w.heap.size X b1 T1 L1 F1 ∧ RefW w.heap.size X v1 A1 c1 T1 L1 ∧ v1 ∉ F1 ∧ ∀ i ∈ blkA A1, i ∉ F1) ∧ (WhAt w.heap.size X b2 T2 L2 F2 ∧ RefW w.heap.size X v2 A2 c2 T2 L2 ∧ v2 ∉ F2 ∧ ∀ i ∈ blkA A2, i ∉ F2) ∧ (∀ i ∈ footF F1 v1 A1, i ∉ footF F2 v2 A2) ∧ Turns [] w X
/-- A wheel that is copied, its document's not yet. -/
def MidW (w X : World) (b1 v1 b2 : Nat) (T : Int) (L : List Fi) : Prop :=
  ∃ F A c F2 Z, (WhAt w.heap.size X b1 T L F ∧ RefW w.heap.size X v1 A c T L ∧ v1 ∉ F ∧ ∀ i ∈ blkA A, i ∉ F) ∧ WhAt Z X b2 T L F2 ∧ (∀ i ∈ footF F v1 A, i < Z) ∧ w.heap.size ≤ Z ∧ Turns [] w X
section
variable {w X Y : World} {b1 v1 b2 v2 : Nat} {T T1 T2 : Int} {L L1 L2 : List Fi}
theorem foot_lt {B bw rv : Nat} {F : List Nat} {A : Option Addr} {c : Nat} (a : WhAt B X bw T L F) (b : RefW B X rv A c T1 L1) : ∀ i ∈ footF F rv A, B ≤ i ∧ i < X.heap.size := fun i hi => by
  rcases mem_footF.1 hi with h | rfl | h
  · exact a.1 i h
  · exact ⟨b.low, b.lt⟩
  · rcases b.form with ⟨e, _⟩ | ⟨b', o, e, h1, h2, _⟩
    · simp [blkA, e] at h
    · simp [blkA, e] at h; omega
theorem WhAt.low {B B' bw : Nat} {F : List Nat} (a : WhAt B' X bw T L F) (hB : B ≤ B') : WhAt B X bw T L F := by
  refine ⟨fun i hi => ⟨Nat.le_trans hB (a.1 i hi).1, (a.1 i hi).2⟩, a.2.1, ?_⟩
  rcases a.2.2 with c | ⟨bs, bp, S, P, c⟩
  · exact .inl c
  · exact .inr ⟨bs, bp, S, P, c.head, c.slots, c.places, fun k v l e => ⟨EK.Own.low (c.own k v l e).1 hB, (c.own k v l e).2⟩, c.apart, c.heads, c.perm, c.place⟩
theorem RefW.low' {B B' rv : Nat} {A : Option Addr} {c : Nat} (h : RefW B' X rv A c T L) (hB : B ≤ B') : RefW B X rv A c T L :=
  ⟨h.head, h.reads, Nat.le_trans hB h.low, h.form.imp id fun ⟨b, o, e, h1, h2⟩ => ⟨b, o, e, Nat.le_trans hB h1, h2⟩, h.cap⟩
theorem BothW.swap (h : BothW w X b1 v1 T1 L1 b2 v2 T2 L2) : BothW w X b2 v2 T2 L2 b1 v1 T1 L1 := by
  obtain ⟨F1, A1, c1, F2, A2, c2, h1, h2, h3, h4⟩ := h
  exact ⟨F2, A2, c2, F1, A1, c1, h2, h1, fun i hi hm => h3 i hm hi, h4⟩
theorem BothW.pre (h : BothW w X b1 v1 T1 L1 b2 v2 T2 L2) (ht : Turns [] X Y) : BothW w Y b1 v1 T1 L1 b2 v2 T2 L2 := by
  obtain ⟨F1, A1, c1, F2, A2, c2, ⟨a1, a2, a3⟩, ⟨d1, d2, d3⟩, h3, h4⟩ := h
  exact ⟨F1, A1, c1, F2, A2, c2, ⟨a1.pre ht, a2.pre ht, a3⟩, ⟨d1.pre ht, d2.pre ht, d3⟩, h3, h4.then ht⟩
theorem BothW.turns (h : BothW w X b1 v1 T1 L1 b2 v2 T2 L2) : Turns [] w X := by
  obtain ⟨F1, A1, c1, F2, A2, c2, _, _, _, h4⟩ := h
  exact h4
theorem BothW.pair (h : BothW w X b1 v1 T1 L1 b2 v2 T2 L2) : PairW (.plain w) X b1 v1 T1 L1 := by
  obtain ⟨F1, A1, c1, F2, A2, c2, ⟨a1, a2, a3, a4⟩, _, _, h4⟩ := h
  exact ⟨F1, A1, c1, a1, a2, a3, a4, h4, Stay.plain h4.size _⟩
theorem both_do (h : BothW w X b1 v1 T1 L1 b2 v2 T2 L2) (hok : WOk T1 L1) (hL : L1.length ≤ 900) (x : Ac) (hx : In64 x.1 ∧ In64 x.2.1 ∧ In64 x.2.2) :
    Calls Try.prog 9 #[.pointer (some ⟨b1, 0, none⟩), .pointer (some ⟨v1, 0, none⟩), .agg #[.int .i64 x.1, .int .i64 x.2.1, .int .i64 x.2.2]] X fun e Y => e = .returned (.bool true) ∧ ∃ T' L', BothW w Y b1 v1 T' L' b2 v2 T2 L2 ∧ WOk T' L' ∧ L'.length ≤ L1.length + 1 := by
  obtain ⟨F1, A1, c1, F2, A2, c2, ⟨a1, a2, a3, a4⟩, ⟨d1, d2, d3⟩, hd, ht⟩ := h
  have f2 := foot_lt d1 d2
  have hp : PairW ⟨w, footF F2 v2 A2, X⟩ X b1 v1 T1 L1 := ⟨F1, A1, c1, a1, a2, a3, a4, ht, Nat.le_refl _, fun k hk => ⟨(f2 k hk).2, fun hm => hd k hm hk, rfl⟩⟩
  refine (do_any hp hok hL x hx).mono ?_
  rintro e Y ⟨rfl, T', L', ⟨F, A, c, p1, p2, p3, p4, p5, p6⟩, q1, q2⟩
  have hty : Turns ((List.range X.heap.size).filter fun i => decide (i ∉ footF F2 v2 A2)) X Y := ⟨p5.os.trans ht.os.symm, p5.tape.trans ht.tape.symm, p5.output.trans ht.output.symm, p6.1, fun i hi hn => (p6.2 i (by
    apply Classical.byContradiction
    intro hm
    exact hn (List.mem_filter.2 ⟨List.mem_range.2 hi, by simpa using hm⟩))).2.2⟩
  have hno : ∀ i ∈ footF F2 v2 A2, i ∉ (List.range X.heap.size).filter fun i => decide (i ∉ footF F2 v2 A2) := fun i hi hm => by
    have := (List.mem_filter.1 hm).2
    simp [hi] at this
  exact ⟨rfl, T', L', ⟨F, A, c, F2, A2, c2, ⟨p1, p2, p3, p4⟩, ⟨d1.turns hty fun i hi => hno i (mem_footF.2 (.inl hi)), d2.turns hty (hno _ (mem_footF.2 (.inr (.inl rfl)))) fun i hi => hno i (mem_footF.2 (.inr (.inr hi))), d3⟩, fun i hi hm => (p6.2 i hm).2.1 hi, p5⟩, q1, q2⟩
theorem both_same (h : BothW w X b1 v1 T1 L1 b2 v2 T2 L2) (o1 : WOk T1 L1) (o2 : WOk T2 L2) (hL : L1.length ≤ 900) :
    Calls Try.prog 13 #[.pointer (some ⟨b1, 0, none⟩), .pointer (some ⟨b2, 0, none⟩)] X fun e Y => e = .returned (.bool (decide (T1 = T2 ∧ L1 = L2))) ∧ Turns [] X Y := by
  obtain ⟨F1, A1, c1, F2, A2, c2, ⟨a1, _⟩, ⟨d1, _⟩, _⟩ := h
  exact same_any a1 d1 o1 o2 (by omega)
/-- Are both alike? The document's two say it, and so do both wheels. -/
theorem both_alike (h : BothW w X b1 v1 T1 L1 b2 v2 T2 L2) (o1 : WOk T1 L1) (o2 : WOk T2 L2) (hL1 : L1.length ≤ 900) (hL2 : L2.length ≤ 900) :
    ∃ (al : Bool) (A1 A2 : Option Addr) (n1 n2 c1 c2 : Nat), (∀ Y, Turns [] X Y → Y.cell? ⟨v1, 0, none⟩ = some (.int .i64 T1) ∧ Y.cell? ⟨v1, 1, none⟩ = some (.slice A1 n1 c1) ∧ Y.cell? ⟨v2, 0, none⟩ = some (.int .i64 T2) ∧ Y.cell? ⟨v2, 1, none⟩ = some (.slice A2 n2 c2))
      ∧ (T1 = T2 → ∀ Y, Turns [] X Y → Calls Try.prog 14 #[.slice A1 n1 c1, .slice A2 n2 c2] Y fun e Z => e = .returned (.bool al) ∧ ∃ n, Z = Y.drewN n)
      ∧ (T1 ≠ T2 → al = false)
      ∧ (∀ Y, Turns [] X Y → Calls Try.prog 13 #[.pointer (some ⟨b1, 0, none⟩), .pointer (some ⟨b2, 0, none⟩)] Y fun e Z => e = .returned (.bool al) ∧ Turns [] Y Z)
      ∧ (∀ Y, Turns [] X Y → Calls Try.prog 13 #[.pointer (some ⟨b2, 0, none⟩), .pointer (some ⟨b1, 0, none⟩)] Y fun e Z => e = .returned (.bool al) ∧ Turns [] Y Z) := by
  obtain ⟨F1, A1, c1, F2, A2, c2, ⟨_, a2, _⟩, ⟨_, d2, _⟩, _⟩ := id h
  refine ⟨decide (T1 = T2 ∧ L1 = L2), A1, A2, L1.length, L2.length, c1, c2, fun Y ht => ⟨(a2.pre ht).cells.1, (a2.pre ht).cells.2.1, (d2.pre ht).cells.1, (d2.pre ht).cells.2.1⟩, fun hT Y ht => ?_, fun hT => by simp [hT], fun Y ht => both_same (h.pre ht) o1 o2 hL1, fun Y ht => ?_⟩
  · have e : decide (T1 = T2 ∧ L1 = L2) = decide (L1 = L2) := by simp [hT]
    rw [e]
    exact rsame_q A1 A2 c1 c2 L1 L2 Y (by omega) (by omega) (a2.pre ht).reads (d2.pre ht).reads
  · have e : decide (T1 = T2 ∧ L1 = L2) = decide (T2 = T1 ∧ L2 = L1) := decide_eq_decide.2 ⟨fun ⟨a, b⟩ => ⟨a.symm, b.symm⟩, fun ⟨a, b⟩ => ⟨a.symm, b.symm⟩⟩
    rw [e]
    exact both_same (h.pre ht).swap o2 o1 hL2
theorem pair_copy (h : PairW (.plain w) X b1 v1 T L) (hok : WOk T L) (hL : L.length ≤ 900) :
    Calls Try.prog 11 #[.pointer (some ⟨b1, 0, none⟩)] X fun e Y => ∃ b2, e = .returned (.pointer (some ⟨b2, 0, none⟩)) ∧ MidW w Y b1 v1 b2 T L := by
  obtain ⟨F, A, c, a1, a2, a3, a4, ht, _⟩ := h
  refine (copy_any a1 hok hL).mono ?_
  rintro e Y ⟨rfl, F2, a, b⟩
  exact ⟨X.heap.size, rfl, F, A, c, F2, X.heap.size, ⟨a1.pre b, a2.pre b, a3, a4⟩, a, fun i hi => (foot_lt a1 a2 i hi).2, ht.size, ht.then b⟩
theorem mid_copy (h : MidW w X b1 v1 b2 T L) (hL : L.length ≤ 900) :
    Calls Try.prog 12 #[.pointer (some ⟨v1, 0, none⟩)] X fun e Y => ∃ v2, e = .returned (.pointer (some ⟨v2, 0, none⟩)) ∧ BothW w Y b1 v1 T L b2 v2 T L := by
  obtain ⟨F, A, c, F2, Z, ⟨a1, a2, a3, a4⟩, d1, hz, hB, ht⟩ := h
  refine (rcopy_any a2 (by omega)).mono ?_
  rintro e Y ⟨⟨v2, A2, c2, rfl, r⟩, t⟩
  have hl2 : ∀ i ∈ footF [] v2 A2, X.heap.size ≤ i := fun i hi => by
    rcases mem_footF.1 hi with h | rfl | h
    · simp at h
    · exact r.low
    · rcases r.form with ⟨e, _⟩ | ⟨b', o, e, h1, h2, _⟩
      · simp [blkA, e] at h
      · simp [blkA, e] at h; omega
  have hv := hl2 v2 (mem_footF.2 (.inr (.inl rfl)))
  have hA := fun i hi => hl2 i (mem_footF.2 (.inr (.inr hi)))
  refine ⟨v2, rfl, F, A, c, F2, A2, c2, ⟨a1.pre t, a2.pre t, a3, a4⟩, ⟨(d1.low hB).pre t, r.low' ht.size, fun hm => by have := (d1.1 _ hm).2; omega, fun i hi hm => by have := (d1.1 i hm).2; have := hA i hi; omega⟩, fun i hi hm => ?_, ht.then t⟩
  have h1 := (foot_lt a1 a2 i hi).2
  rcases mem_footF.1 hm with h | h | h
  · have := (d1.1 i h).1; have := hz i hi; omega
  · omega
  · have := hA i h; omega
end
end Go.Proofs.Ytaepgcicgmbbeaa
