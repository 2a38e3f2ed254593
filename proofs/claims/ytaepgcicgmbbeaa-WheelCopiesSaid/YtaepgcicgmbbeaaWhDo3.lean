/- One act, by both: Advance. -/
import Derived.Test.YtaepgcicgmbbeaaWhDoQ
namespace Go.Proofs.Ytaepgcicgmbbeaa
open Go.RowKit

/-- Advance under way: and what each has told. -/
def DoS (w : Base) (X0 : World) (bw rv : Nat) (T T' : Int) (L L' D : List Fi) (C : Array Value) (p r : Bool) (A1 A2 : Option Addr) (X : World) : Prop :=
  ∃ F A c, (WhAt w.w.heap.size X bw (if p then T' else T) (if p then L' else L) F ∧ RefW w.w.heap.size X rv A c (if r then T' else T) (if r then L' else L) ∧ rv ∉ F ∧ (∀ i ∈ blkA A, i ∉ F) ∧ Turns [] w.w X ∧ X.heap[X0.heap.size]? = some (.cells C 32 (0, 0)) ∧ X0.heap.size ∉ F ∧ X0.heap.size ≠ rv ∧ Stay w X (footF F rv A)) ∧
    (p = true → fK.Reads X X.heap.size A1 D ∧ ∀ i ∈ blkA A1, i ≠ rv) ∧ (r = true → fK.Reads X X.heap.size A2 D ∧ ∀ i ∈ blkA A2, i ∉ F)
section
variable {w : Base} {X0 X Y : World} {bw rv : Nat} {T T' : Int} {L L' D : List Fi} {C : Array Value} {p r : Bool} {A1 A2 : Option Addr}
theorem DoS.pre (h : DoS w X0 bw rv T T' L L' D C p r A1 A2 X) (ht : Turns [] X Y) : DoS w X0 bw rv T T' L L' D C p r A1 A2 Y := by
  obtain ⟨F, A, c, hq, h1, h2⟩ := h
  obtain ⟨a, b, d, e, f, g, k, l, s⟩ := hq
  exact ⟨F, A, c, ⟨a.pre ht, b.pre ht, d, e, f.then ht, (ht.block _ (lt_of_block g) (by simp)).trans g, k, l, s.pre ht⟩, fun hp => ⟨((h1 hp).1.turns (Nat.le_refl _) ht (by simp)).more ht.size, (h1 hp).2⟩, fun hr => ⟨((h2 hr).1.turns (Nat.le_refl _) ht (by simp)).more ht.size, (h2 hr).2⟩⟩
theorem DoS.drew (h : DoS w X0 bw rv T T' L L' D C p r A1 A2 X) : DoS w X0 bw rv T T' L L' D C p r A1 A2 X.drew := h.pre ((Turns.refl [] X).drew)
theorem DoS.start (h : DoQ w X0 bw rv T T' L L' C false false X) (D : List Fi) : DoS w X0 bw rv T T' L L' D C false false none none X := by
  obtain ⟨F, A, c, hq⟩ := h
  exact ⟨F, A, c, hq, fun h => (by cases h), fun h => (by cases h)⟩
theorem DoS.q (h : DoS w X0 bw rv T T' L L' D C p r A1 A2 X) : DoQ w X0 bw rv T T' L L' C p r X := by
  obtain ⟨F, A, c, hq, _⟩ := h
  exact ⟨F, A, c, hq⟩
theorem blk_mem {A : Option Addr} {a : Addr} (h : A = some a) : a.block ∈ blkA A := by simp [blkA, h]
theorem dos_adv {tu : Int} (h : DoS w X0 bw rv T (advL T L tu).2.1 L (advL T L tu).2.2 (advL T L tu).1 C false r none A2 X) (hok : WOk T L) (hw : -9223372036854775808 ≤ tu ∧ tu ≤ 9223372036854775807) (hL : L.length ≤ 900) :
    Calls Try.prog 16 #[.pointer (some ⟨bw, 0, none⟩), .int .i64 tu] X fun e Y => ∃ A1 c1, e = .returned (.slice A1 (advL T L tu).1.length c1) ∧ DoS w X0 bw rv T (advL T L tu).2.1 L (advL T L tu).2.2 (advL T L tu).1 C true r A1 A2 Y := by
  obtain ⟨F, A, c, ⟨a, b, d, e, f, g, k, l, s⟩, _, h2⟩ := h
  simp only [Bool.false_eq_true, if_false] at a
  refine (adv_any a hok tu hw (by omega)).mono ?_
  rintro _ Y ⟨v, rfl, ho, hwh, ht⟩
  obtain ⟨A1, c1, rfl, hr1, _⟩ := ho.reads
  have hblk : ∀ i ∈ blkA A1, X.heap.size ≤ i := fun i hi => by
    refine (ho.foot i ?_).1
    cases A1 with
    | none => simp [blkA] at hi
    | some x => simpa [blkA, ownB, Value.ownBlock] using hi
  refine ⟨A1, c1, rfl, F, A, c, ⟨hwh, b.turns ht d e, d, e, f.trans ht fun i hi => .inr (a.1 i hi).1, (ht.block _ (lt_of_block g) k).trans g, k, l, s.next ht (fun i hi => mem_footF.2 (.inl hi)) fun _ h => .inl h⟩, fun _ => ⟨hr1, fun i hi => by have := hblk i hi; have := b.lt; omega⟩, fun hr => ⟨((h2 hr).1.turns (Nat.le_refl _) ht fun x hx => (h2 hr).2 _ (blk_mem hx)).more ht.size, (h2 hr).2⟩⟩
theorem dos_radv {tu : Int} (h : DoS w X0 bw rv T (advL T L tu).2.1 L (advL T L tu).2.2 (advL T L tu).1 C p false A1 none X) (hok : WOk T L) (hL : L.length ≤ 900) :
    Calls Try.prog 24 #[.pointer (some ⟨rv, 0, none⟩), .int .i64 tu] X fun e Y => ∃ A2 c2, e = .returned (.slice A2 (advL T L tu).1.length c2) ∧ DoS w X0 bw rv T (advL T L tu).2.1 L (advL T L tu).2.2 (advL T L tu).1 C p true A1 A2 Y := by
  obtain ⟨F, A, c, ⟨a, b, d, e, f, g, k, l, s⟩, h1, _⟩ := h
  simp only [Bool.false_eq_true, if_false] at b
  refine (radv_any b hok (by omega) tu).mono ?_
  rintro _ Y ⟨A2, c2, A', c', rfl, hr2, hb2, hrw, ht, hb'⟩
  refine ⟨A2, c2, rfl, F, A', c', ⟨a.turns ht fun i hi hm => ?_, hrw, d, fun i hi => e i (hb' i hi), f.trans ht fun i hi => .inr (by simp at hi; rw [hi]; exact b.low), (ht.block _ (lt_of_block g) (by simpa using l)).trans g, k, l, s.next ht (fun i hi => mem_footF.2 (.inr (.inl (by simpa using hi)))) fun i hi => .inl (by
    rcases mem_footF.1 hi with h | h | h
    · exact mem_footF.2 (.inl h)
    · exact mem_footF.2 (.inr (.inl h))
    · exact mem_footF.2 (.inr (.inr (hb' i h))))⟩, fun hp => ⟨((h1 hp).1.turns (Nat.le_refl _) ht fun x hx hm => (h1 hp).2 _ (blk_mem hx) (by simpa using hm)).more ht.size, (h1 hp).2⟩, fun _ => ⟨hr2, fun i hi => e i (hb2 i hi)⟩⟩
  simp at hm
  subst hm
  exact d hi
theorem dos_same {c1 c2 : Nat} (h : DoS w X0 bw rv T T' L L' D C true true A1 A2 X) (hD : D.length ≤ 2000) :
    Calls Try.prog 14 #[.slice A1 D.length c1, .slice A2 D.length c2] X fun e Y => e = .returned (.bool true) ∧ DoS w X0 bw rv T T' L L' D C true true A1 A2 Y := by
  obtain ⟨F, A, c, _, h1, h2⟩ := id h
  refine (rsame_any A1 A2 c1 c2 D D X hD hD (h1 rfl).1 (h2 rfl).1).mono ?_
  rintro _ Y ⟨rfl, ht⟩
  exact ⟨by simp, h.pre ht⟩
end
section
variable {w : Base} {X : World} {bw rv : Nat} {T : Int} {L : List Fi}
set_option maxRecDepth 100000 in
set_option maxHeartbeats 4000000 in
theorem do_3 (h : PairW w X bw rv T L) (hok : WOk T L) (hL : L.length ≤ 900) (i a : Int) (hat : -9223372036854775808 ≤ a ∧ a ≤ 9223372036854775807) :
    Calls Try.prog 9 #[.pointer (some ⟨bw, 0, none⟩), .pointer (some ⟨rv, 0, none⟩), .agg #[.int .i64 3, .int .i64 i, .int .i64 a]] X (DoP w bw rv L) := by
  have HP := Lib.hid (fun r A2 X' (hq : DoS w X bw rv T (advL T L a).2.1 L (advL T L a).2.2 (advL T L a).1 #[.int .i64 3, .int .i64 i, .int .i64 a] false r none A2 X') => dos_adv hq hok hat hL)
  have HR := Lib.hid (fun p A1 X' (hq : DoS w X bw rv T (advL T L a).2.1 L (advL T L a).2.2 (advL T L a).1 #[.int .i64 3, .int .i64 i, .int .i64 a] p false A1 none X') => dos_radv hq hok hL)
  have hl : (advL T L a).2.2.length ≤ L.length + 1 ∧ (advL T L a).1.length ≤ 2000 := by
    unfold advL
    split
    · exact ⟨by simp, by simp⟩
    · have h1 : (restL a L).length ≤ L.length := List.length_filter_le _ _
      have h2 : (dueL a L).length ≤ L.length := List.length_filter_le _ _
      exact ⟨by simp only; omega, by simp only; omega⟩
  have HE := Lib.hid (And.intro (hok.adv hat) hl.1)
  have hq0 := DoS.start (DoQ.start h (advL T L a).2.1 (advL T L a).2.2 #[.int .i64 3, .int .i64 i, .int .i64 a]) (advL T L a).1
  obtain ⟨X1, hX1⟩ : ∃ X1, X1 = X.alloc (.cells #[.int .i64 3, .int .i64 i, .int .i64 a] 32) := ⟨_, rfl⟩
  rw [← hX1] at hq0
  have HQ0 := Lib.hid hq0
  have n0 := hq0.q.cells.1
  have n1 := hq0.q.cells.2.1
  have n2 := hq0.q.cells.2.2
  have hl2 := hl.2
  generalize (advL T L a).2.1 = T' at *
  generalize (advL T L a).2.2 = L' at *
  generalize (advL T L a).1 = D at *
  have HS := Lib.hid (fun A1 A2 c1 c2 X' (hq : DoS w X bw rv T T' L L' D #[.int .i64 3, .int .i64 i, .int .i64 a] true true A1 A2 X') => dos_same (c1 := c1) (c2 := c2) hq hl2)
  clear h hok hL hat hq0 hl hl2
  go_enter Try.func9, Try.ntmps9
  go_wp2
  rw [← hX1]
  clear hX1
  go_region_law (first | (go_simp; go_at_call 16; refine (HP.out _ _ _ (by first | exact HQ0.out.drew | exact HQ0.out | exact HQ1.out.drew | exact HQ1.out)).mono ?_; rintro e X2 ⟨A1, d1, rfl, hq1⟩; have HQ1 := Lib.hid hq1; obtain ⟨c0, c1, c2⟩ := hq1.q.cells; clear hq1) | (go_simp; go_at_call 24; refine (HR.out _ _ _ (by first | exact HQ0.out.drew | exact HQ0.out | exact HQ1.out.drew | exact HQ1.out)).mono ?_; rintro e X2 ⟨A2, d2, rfl, hq1⟩; have HQ1 := Lib.hid hq1; obtain ⟨c0, c1, c2⟩ := hq1.q.cells; clear hq1) | (go_simp; go_at_call 14; refine (HS.out _ _ _ _ _ (by first | exact HQ1.out.drew | exact HQ1.out)).mono ?_; rintro e X2 ⟨rfl, hq1⟩; have HQ1 := Lib.hid hq1; obtain ⟨c0, c1, c2⟩ := hq1.q.cells; clear hq1))
  all_goals
    go_wp2
    go_ret
    exact ⟨by first | rfl | simp, _, _, HQ1.out.q.done, HE.out.1, HE.out.2⟩
end
end Go.Proofs.Ytaepgcicgmbbeaa
