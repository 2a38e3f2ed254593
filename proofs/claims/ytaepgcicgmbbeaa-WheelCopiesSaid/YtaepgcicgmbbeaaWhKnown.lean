/- The chapter's row. -/
import Derived.Test.YtaepgcicgmbbeaaWhNilA
namespace Go.Proofs.Ytaepgcicgmbbeaa
open Go.RowKit

/-- A wheel that was made since w. -/
def Lone (w W : World) (bw : Nat) (T : Int) (L : List Fi) : Prop := ∃ F, WhAt w.heap.size W bw T L F ∧ Turns [] w W
section
variable {w W W1 : World} {bw : Nat} {T : Int} {L : List Fi}
theorem Lone.pre (h : Lone w W bw T L) (ht : Turns [] W W1) : Lone w W1 bw T L := by
  obtain ⟨F, h1, h2⟩ := h
  exact ⟨F, h1.pre ht, h2.then ht⟩
theorem Lone.turns (h : Lone w W bw T L) : Turns [] w W := by
  obtain ⟨F, h1, h2⟩ := h
  exact h2
theorem lone_new (T : Int) (h : Turns [] w W) : Calls Try.prog 8 #[.int .i64 T] W fun e W1 => e = .returned (.pointer (some ⟨W.heap.size, 0, none⟩)) ∧ Lone w W1 W.heap.size T [] :=
  (new_any T W).mono fun _ _ ⟨h1, h2, h3⟩ => ⟨h1, [W.heap.size], ⟨fun i hi => ⟨Nat.le_trans h.size (h2.1 i hi).1, (h2.1 i hi).2⟩, h2.2.1, by
    rcases h2.2.2 with a | ⟨bs, bp, S, P, a⟩
    · exact .inl a
    · exact .inr ⟨bs, bp, S, P, a.head, a.slots, a.places, fun k v l e => ⟨EK.Own.low (a.own k v l e).1 h.size, (a.own k v l e).2⟩, a.apart, a.heads, a.perm, a.place⟩⟩, h.then h3⟩
theorem lone_set (h : Lone w W bw T L) (hok : WOk T L) (id at' : Int) (hid : -9223372036854775808 ≤ id ∧ id ≤ 9223372036854775807) (hat : -9223372036854775808 ≤ at' ∧ at' ≤ 9223372036854775807) (hL : L.length ≤ 1000) :
    Calls Try.prog 15 #[.pointer (some ⟨bw, 0, none⟩), .int .i64 id, .int .i64 at'] W fun e W1 => e = .returned (.int .i64 (setL T L id at').1) ∧ Lone w W1 bw T (setL T L id at').2 := by
  obtain ⟨F, h1, h2⟩ := h
  refine (set_any h1 hok id at' hid hat hL).mono ?_
  rintro e W1 ⟨rfl, F', a, b, c⟩
  exact ⟨rfl, F', a, h2.trans b fun i hi => .inr (h1.1 i hi).1⟩
theorem lone_cancel (h : Lone w W bw T L) (hok : WOk T L) (id : Int) (hid : -9223372036854775808 ≤ id ∧ id ≤ 9223372036854775807) (hL : L.length ≤ 1000) :
    Calls Try.prog 19 #[.pointer (some ⟨bw, 0, none⟩), .int .i64 id] W fun e W1 => e = .returned (.bool (getL id L).isSome) ∧ Lone w W1 bw T (canL id L) := by
  obtain ⟨F, h1, h2⟩ := h
  refine (cancel_any h1 hok id hid hL).mono ?_
  rintro e W1 ⟨rfl, F', a, b, c⟩
  exact ⟨rfl, F', a, h2.trans b fun i hi => .inr (h1.1 i hi).1⟩
theorem lone_adv (h : Lone w W bw T L) (hok : WOk T L) (tu : Int) (hw : -9223372036854775808 ≤ tu ∧ tu ≤ 9223372036854775807) (hL : L.length ≤ 1000) :
    Calls Try.prog 16 #[.pointer (some ⟨bw, 0, none⟩), .int .i64 tu] W fun e W1 => ∃ v, e = .returned v ∧ fK.Own W.heap.size W1 v (advL T L tu).1 ∧ Lone w W1 bw (advL T L tu).2.1 (advL T L tu).2.2 := by
  obtain ⟨F, h1, h2⟩ := h
  refine (adv_any h1 hok tu hw hL).mono ?_
  rintro e W1 ⟨v, rfl, a, b, c⟩
  exact ⟨v, rfl, a, F, b, h2.trans c fun i hi => .inr (h1.1 i hi).1⟩
theorem lone_len (h : Lone w W bw T L) : Calls Try.prog 21 #[.pointer (some ⟨bw, 0, none⟩)] W fun e w' => e = .returned (.int .i64 L.length) ∧ W = w' := by
  obtain ⟨F, h1, _⟩ := h
  exact len_any h1
theorem lone_now (h : Lone w W bw T L) : Calls Try.prog 20 #[.pointer (some ⟨bw, 0, none⟩)] W fun e w' => e = .returned (.int .i64 T) ∧ W = w' := by
  obtain ⟨F, h1, _⟩ := h
  exact now_any h1
end
def kL0 : List Fi := []
def kL1 : List Fi := [(3, 10)]
def kL2 : List Fi := [(1, 10), (3, 10)]
def kL3 : List Fi := [(2, 4), (1, 10), (3, 10)]
def kL4 : List Fi := [(2, 4), (1, 10), (3, 10), (5, 11)]
theorem k1 : setL 0 kL0 3 10 = (0, kL1) := by decide
theorem k2 : setL 0 kL1 1 10 = (0, kL2) := by decide
theorem k3 : setL 0 kL2 2 4 = (0, kL3) := by decide
theorem k4 : setL 0 kL3 5 11 = (0, kL4) := by decide
theorem k5 : advL 0 kL4 10 = (kL3, 10, [(5, 11)]) := by decide
theorem w0 : WOk 0 kL0 := ok_nil (by omega)
theorem w1 : WOk 0 kL1 := by have := w0.set (id := 3) (at' := 10) (by omega); rwa [k1] at this
theorem w2 : WOk 0 kL2 := by have := w1.set (id := 1) (at' := 10) (by omega); rwa [k2] at this
theorem w3 : WOk 0 kL3 := by have := w2.set (id := 2) (at' := 4) (by omega); rwa [k3] at this
theorem w4 : WOk 0 kL4 := by have := w3.set (id := 5) (at' := 11) (by omega); rwa [k4] at this
theorem lone_setK {w W : World} {bw : Nat} {T : Int} {L L' : List Fi} (h : Lone w W bw T L) (hok : WOk T L) (id at' : Int) (hid : -9223372036854775808 ≤ id ∧ id ≤ 9223372036854775807) (hat : -9223372036854775808 ≤ at' ∧ at' ≤ 9223372036854775807) (hL : L.length ≤ 1000) {r : Int} (hk : setL T L id at' = (r, L')) :
    Calls Try.prog 15 #[.pointer (some ⟨bw, 0, none⟩), .int .i64 id, .int .i64 at'] W fun e W1 => e = .returned (.int .i64 r) ∧ Lone w W1 bw T L' := by
  have := lone_set h hok id at' hid hat hL
  rwa [hk] at this
theorem lone_advK {w W : World} {bw : Nat} {T T' : Int} {L D R : List Fi} (h : Lone w W bw T L) (hok : WOk T L) (tu : Int) (hw : -9223372036854775808 ≤ tu ∧ tu ≤ 9223372036854775807) (hL : L.length ≤ 1000) (hk : advL T L tu = (D, T', R)) :
    Calls Try.prog 16 #[.pointer (some ⟨bw, 0, none⟩), .int .i64 tu] W fun e W1 => ∃ v, e = .returned v ∧ fK.Own W.heap.size W1 v D ∧ Lone w W1 bw T' R := by
  have := lone_adv h hok tu hw hL
  rwa [hk] at this
set_option maxRecDepth 100000 in
set_option maxHeartbeats 4000000 in
theorem known_any (w : World) : Calls Try.prog 7 #[] w fun e w' => e = .returned (.bool true) ∧ Turns [] w w' := by
  have HN := Lib.hid (lone_new (w := w) (W := w) 0 (Turns.refl _ _))
  go_enter Try.func7, Try.ntmps7
  go_wp2_with fail
  refine (Hid.out HN).mono ?_
  rintro e W1 ⟨rfl, h1⟩
  have H1 := Lib.hid (lone_setK h1 w0 3 10 (by omega) (by omega) (by decide) k1)
  clear h1 HN
  go_wp2_with fail
  refine (Hid.out H1).mono ?_
  rintro e W2 ⟨rfl, h1⟩
  have H2 := Lib.hid (lone_setK h1 w1 1 10 (by omega) (by omega) (by decide) k2)
  clear h1 H1
  go_wp2_with fail
  refine (Hid.out H2).mono ?_
  rintro e W3 ⟨rfl, h1⟩
  have H3 := Lib.hid (lone_setK h1 w2 2 4 (by omega) (by omega) (by decide) k3)
  clear h1 H2
  go_wp2_with fail
  refine (Hid.out H3).mono ?_
  rintro e W4 ⟨rfl, h1⟩
  have H4 := Lib.hid (lone_setK h1 w3 5 11 (by omega) (by omega) (by decide) k4)
  clear h1 H3
  go_wp2_with fail
  refine (Hid.out H4).mono ?_
  rintro e W5 ⟨rfl, h1⟩
  have H5 := Lib.hid (lone_advK h1 w4 10 (by omega) (by decide) k5)
  clear h1 H4
  go_wp2_with fail
  refine (Hid.out H5).mono ?_
  rintro e W6 ⟨v, rfl, h0, h1⟩
  obtain ⟨A, c, rfl, hr, -⟩ := h0.reads
  have HS : Hid (∀ C, C = #[Value.int .i64 2, .int .i64 4, .int .i64 1, .int .i64 10, .int .i64 3, .int .i64 10] → Calls Try.prog 14 #[.slice A kL3.length c, .slice (some ⟨W6.heap.size, 0, none⟩) 3 3] (W6.alloc (.cells C 44)) fun e w' => e = .returned (.bool true) ∧ Lone w w' w.heap.size 10 [(5, 11)]) := Lib.hid (by
    rintro C rfl
    have hs := rsame_any A (some ⟨W6.heap.size, 0, none⟩) c 3 kL3 kL3 (W6.alloc (.cells #[.int .i64 2, .int .i64 4, .int .i64 1, .int .i64 10, .int .i64 3, .int .i64 10] 44)) (by decide) (by decide)
      ((hr.turns (Nat.le_refl _) (Turns.alloc (F := []) W6 _) (by simp)).more (by simp))
      (.inr ⟨W6.heap.size, 0, rfl, by simp, fun j u hu => by
        have hb := heap_alloc_new W6 (.cells #[.int .i64 2, .int .i64 4, .int .i64 1, .int .i64 10, .int .i64 3, .int .i64 10] 44)
        have hf : fK.flat kL3 = [.int .i64 2, .int .i64 4, .int .i64 1, .int .i64 10, .int .i64 3, .int .i64 10] := rfl
        rw [hf] at hu
        unfold World.cell?
        simp only [hb]
        simpa using hu⟩)
    have e : decide (kL3 = kL3) = true := by decide
    rw [e] at hs
    exact hs.mono fun _ _ ⟨h2, h3⟩ => ⟨h2, h1.pre ((Turns.alloc (F := []) W6 _).then h3)⟩)
  clear h0 hr h1 H5
  go_wp2_with fail
  refine (HS.out _ rfl).mono ?_
  rintro e W7 ⟨rfl, h7⟩
  have H7 := Lib.hid h7
  have H8 := Lib.hid (lone_len h7)
  have H9 := Lib.hid (lone_now h7)
  clear h7 HS
  go_wp2_with fail
  refine (Hid.out H8).mono ?_
  rintro e w' ⟨rfl, rfl⟩
  go_wp2_with fail
  refine (Hid.out H9).mono ?_
  rintro e w' ⟨rfl, rfl⟩
  go_wp2
  go_ret
  exact ⟨rfl, H7.out.turns⟩
end Go.Proofs.Ytaepgcicgmbbeaa
