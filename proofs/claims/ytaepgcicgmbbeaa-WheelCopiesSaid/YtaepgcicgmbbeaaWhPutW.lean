/- The program's put, walked. -/
import Derived.Test.YtaepgcicgmbbeaaWhPut
namespace Go.Proofs.Ytaepgcicgmbbeaa
open Go.RowKit

theorem part_wf {x : Int} (h : -9223372036854775808 ≤ x ∧ x ≤ 9223372036854775807) : -9223372036854775808 ≤ part x ∧ part x ≤ 9223372036854775807 := by unfold part; omega
theorem sread_own {B : Nat} {w : World} {v : Value} {l : List Fi} (h : fK.Own B w v l) : ∃ d, sread v = some (d, []) := by
  rcases h.form with ⟨rfl, rfl⟩ | ⟨g, cap, rfl, _⟩
  · exact ⟨_, rfl⟩
  · exact ⟨_, rfl⟩
theorem map_nil_f (b : Nat) (w : World) : (binOp .eql 47 (.map (some b)) (.map none)).run Try.prog w = .ok (.bool false) w := by kernel_rfl
theorem map_nil_t (w : World) : (binOp .eql 47 (.map none) (.map none)).run Try.prog w = .ok (.bool true) w := by kernel_rfl
/-- The world at which put stores the place. -/
structure PutAt (B : Nat) (w W : World) (bw px : Nat) (T : Int) (L : List Fi) (F F1 : List Nat) (bs bp : Nat) (S : Sl) (P : Pc) (x : Fi) : Prop where
  laid : Laid B W bw T L F1 bs bp S P
  low : ∀ i ∈ F1, B ≤ i ∧ i < W.heap.size
  new : ∀ i ∈ F1, i ∈ F ∨ w.heap.size ≤ i
  turns : Turns F w W
  lit : W.heap[px]? = some (.cells #[.int .i64 x.1, .int .i64 x.2] 44 (0, 0))
  off : px ∉ F1
def PutP (B : Nat) (w : World) (bw : Nat) (T : Int) (L : List Fi) (F : List Nat) (x : Fi) (e : Ending) (w' : World) : Prop :=
  e = .returned (.tuple #[]) ∧ ∃ F', WhAt B w' bw T (x :: L) F' ∧ Turns F w w' ∧ (∀ i ∈ F', i ∈ F ∨ w.heap.size ≤ i)
theorem PutAt.end_ {B : Nat} {w W w4 w5 w6 : World} {bw px : Nat} {T : Int} {L : List Fi} {F F1 : List Nat} {bs bp : Nat} {S : Sl} {P : Pc} {x : Fi} (h : PutAt B w W bw px T L F F1 bs bp S P x) (hx : ∀ y ∈ L, y.1 ≠ x.1) (hL : L.length ≤ 1000) {v' : Value}
    (h4 : MapV 3 aread w4 bp (fun y => if y = x.1 then some (placeV (part x.2, (S.at_ (part x.2)).length)) else (P y).map placeV) (if ((P x.1).map placeV).isSome then L.length else L.length + 1)) (t4 : Turns [bp] W w4)
    (ho : fK.Own B w5 v' (S.at_ (part x.2) ++ [x])) (t5 : Turns (ownB (S.val (part x.2))) w4 w5) (hv : ∀ i ∈ ownB v', i ∈ ownB (S.val (part x.2)) ∨ w4.heap.size ≤ i)
    (h6 : ∃ n, MapV 2 sread w6 bs (fun y => if y = part x.2 then some v' else (S y).map (·.1)) n) (t6 : Turns [bs] w5 w6) : PutP B w bw T L F x (.returned (.tuple #[])) w6 := by
  obtain ⟨hown, hap, _, _⟩ := h.laid.owns (part x.2)
  obtain ⟨d1, d2, d3, f1, f2, f3⟩ := h.laid.heads
  have hP : P x.1 = none := h.laid.lost hx
  rw [hP] at h4
  simp only [Option.map_none, Option.isSome_none, Bool.false_eq_true, if_false] at h4
  have hbpo : bp ∉ ownB (S.val (part x.2)) := fun hm => (hap bp hm).2.2.2.1 rfl
  have hbso : bs ∉ ownB (S.val (part x.2)) := fun hm => (hap bs hm).2.2.1 rfl
  have hbwo : bw ∉ ownB (S.val (part x.2)) := fun hm => (hap bw hm).2.1 rfl
  have hvw : ∀ i ∈ ownB v', i ∈ ownB (S.val (part x.2)) ∨ W.heap.size ≤ i := fun i hi => (hv i hi).imp id fun h => Nat.le_trans t4.size h
  have hbsv : bs ∉ ownB v' := fun hm => (hvw bs hm).elim hbso fun h' => by have := (h.low bs f2).2; omega
  have tt : Turns (bs :: bp :: ownB (S.val (part x.2))) W w6 := ((t4.mono (G := bs :: bp :: ownB (S.val (part x.2))) (by simp)).then (t5.mono (fun i hi => by simp [hi]))).then (t6.mono (by simp))
  obtain ⟨F', a1, a2, a3, S', P', a4⟩ := h.laid.put h.low hx (v' := v') tt (fun i hi => by simpa using hi)
    ((h4.turns t5 hbpo).turns t6 (by simpa using d3.symm)) (ho.turns t6 fun g hg hm => by rw [List.mem_singleton] at hm; subst hm; exact hbsv (by unfold ownB; rw [hg]; simp)) hvw h6
  have hWs := h.turns.size
  refine ⟨rfl, F', ⟨a1, a3 _ f1, .inr ⟨bs, bp, S', P', a4⟩⟩, h.turns.trans tt fun i hi => ?_, fun i hi => ?_⟩
  · have hi' : i = bs ∨ i = bp ∨ i ∈ ownB (S.val (part x.2)) := by simpa using hi
    rcases hi' with rfl | rfl | hi'
    · exact h.new _ f2
    · exact h.new _ f3
    · exact h.new _ (hap i hi').1
  · rcases a2 i hi with h' | h'
    · exact h.new i h'
    · exact .inr (by omega)
theorem PutAt.end2 {B : Nat} {w W w4 w5 w6 : World} {bw px : Nat} {T : Int} {L : List Fi} {F F1 : List Nat} {bs bp : Nat} {S : Sl} {P : Pc} {x : Fi} (h : PutAt B w W bw px T L F F1 bs bp S P x) (hx : ∀ y ∈ L, y.1 ≠ x.1) (hL : L.length ≤ 1000) {v' : Value} {l0 : List Fi} {A : Option Addr} {c : Nat} {C : Obj}
    (hl0 : l0 = S.at_ (part x.2)) (hv0 : S.val (part x.2) = .slice A l0.length c)
    (h4 : MapV 3 aread w4 bp (fun y => if y = x.1 then some (placeV (part x.2, l0.length)) else (P y).map placeV) (if ((P x.1).map placeV).isSome then L.length else L.length + 1)) (t4 : Turns [bp] W w4)
    (ho : fK.Own B w5 v' (l0 ++ [x])) (t5 : Turns (ownB (.slice A l0.length c)) (w4.alloc C).drew w5) (hv : ∀ i ∈ ownB v', i ∈ ownB (.slice A l0.length c) ∨ i = (w4.alloc C).drew.heap.size)
    (h6 : ∃ n, MapV 2 sread w6 bs (fun y => if y = part x.2 then some v' else (S y).map (·.1)) n) (t6 : Turns [bs] w5 w6) : PutP B w bw T L F x (.returned (.tuple #[])) w6 := by
  rw [← hv0] at t5 hv
  subst hl0
  refine h.end_ hx hL h4 t4 ho ?_ (fun i hi => (hv i hi).imp id fun e => ?_) h6 t6
  · exact ((Turns.alloc (F := ownB (S.val (part x.2))) w4 C).drew).then t5
  · rw [e]
    show w4.heap.size ≤ (w4.alloc C).heap.size
    simp
set_option maxRecDepth 100000 in
set_option maxHeartbeats 4000000 in
theorem put_laid {B : Nat} {w : World} {bw : Nat} {T : Int} {L : List Fi} {F : List Nat} {bs bp : Nat} {S : Sl} {P : Pc} (h : WhAt B w bw T L F) (h3 : Laid B w bw T L F bs bp S P) (x : Fi) (hx : ∀ y ∈ L, y.1 ≠ x.1) (w1 : -9223372036854775808 ≤ x.1 ∧ x.1 ≤ 9223372036854775807) (w2 : -9223372036854775808 ≤ x.2 ∧ x.2 ≤ 9223372036854775807) (hL : L.length ≤ 1000) :
    Calls Try.prog 26 #[.pointer (some ⟨bw, 0, none⟩), .agg #[.int .i64 x.1, .int .i64 x.2]] w (PutP B w bw T L F x) := by
  have qf := map_nil_f
  have qt := map_nil_t
  have HPO := Lib.hid (fun W => partOf_any x.2 w2 W)
  have HX := Lib.hid hx
  have HL := Lib.hid hL
  have HW1 := Lib.hid (wfI w1)
  have HW2 := Lib.hid (wfI (part_wf w2))
  have hlow := h.1
  have hbw := h.cells.2.2
  obtain ⟨_, c1, c2, _⟩ := h3.cells
  obtain ⟨W, hW⟩ : ∃ W, W = w.alloc (.cells #[.int .i64 x.1, .int .i64 x.2] 44) := ⟨_, rfl⟩
  have HP : Hid (PutAt B w W bw w.heap.size T L F F bs bp S P x) := by
    have ht : Turns [] w W := by rw [hW]; exact Turns.alloc _ _
    exact Lib.hid ⟨h3.turns ht (by simp), fun i hi => ⟨(hlow i hi).1, Nat.lt_of_lt_of_le (hlow i hi).2 ht.size⟩, fun i hi => .inl hi, ht.mono (by simp), by rw [hW]; exact heap_alloc_new w _, fun hm => by have := (hlow _ hm).2; omega⟩
  clear h h3 hlow hx w1 w2 hL
  go_enter Try.func26, Try.ntmps26
  go_wp2_with (go_at_call 29; refine (HPO.out _).mono ?_; rintro e w' ⟨rfl, rfl⟩)
  rw [← hW]
  clear hW c1 c2
  obtain ⟨l0, hl0⟩ : ∃ l0, l0 = S.at_ (part x.2) := ⟨_, rfl⟩
  have HO := HP.out.laid.owns (part x.2)
  obtain ⟨A, c, hv, -⟩ := HO.1.reads
  have HH := HP.out.laid.heads
  rw [← hl0] at HO hv
  have HFO := Lib.hid HO
  have HVV := Lib.hid hv
  have HL0 := Lib.hid hl0
  have hLS : ∀ W', Turns [bp] W W' → (Instr.lookup 47 (.map (some bs)) (.int .i64 (part x.2)) false).run Try.prog W' = .ok (.slice A l0.length c) W' := fun W' ht => by
    obtain ⟨n, hs⟩ := HP.out.laid.slots
    have := (hs.turns ht (by simpa using HH.2.2.1)).lookup keyL Try.underlying2 Try.underlying47 sread_inj (zeroS W') (zd := .agg [.lit (.int .i64 0), .lit (.int .i64 0)]) (zp := []) rfl HW2.out
    rw [HFO.out.2.2.1, hv] at this
    exact this
  obtain ⟨w4, hrun4, hm4, ht4'⟩ := (HP.out.laid.places.turns (w' := W.drew) ((Turns.refl [] W).drew) (by simp)).store keyI Try.underlying3 Try.underlying48 (show L.length < maxLen by unfold maxLen; have := HL.out; omega) HW1.out (v := placeV (part x.2, l0.length)) (aread_mk _ _)
  have ht4 : Turns [bp] W w4 := ((Turns.refl [bp] W).drew).then ht4'
  have HM4 := Lib.hid hm4
  have HT4 := Lib.hid ht4
  simp only [placeV] at hrun4
  obtain ⟨q0, q1, q2, q3⟩ := HP.out.laid.cells
  have hpx : w.heap.size < W.heap.size := lt_of_block HP.out.lit
  have hbW : bw < W.heap.size := (HP.out.low bw HH.2.2.2.1).2
  have p0 : W.cell? ⟨w.heap.size, 0, none⟩ = some (.int .i64 x.1) := by simp [World.cell?, HP.out.lit]
  have p1 : W.cell? ⟨w.heap.size, 1, none⟩ = some (.int .i64 x.2) := by simp [World.cell?, HP.out.lit]
  have hpp : w.heap.size ∉ [bp] := fun hm => by rw [List.mem_singleton] at hm; exact HP.out.off (hm ▸ HH.2.2.2.2.2)
  have hbb : bw ∉ [bp] := by simpa using HH.2.1
  have k0 := hLS W.drew ((Turns.refl _ W).drew)
  have b0 := (ht4.cell hpx hpp 0).trans p0
  have b1 := (ht4.cell hpx hpp 1).trans p1
  have b2 := (ht4.cell hbW hbb 1).trans q1
  have k4 := hLS w4.drew ht4.drew
  have k5 := fun C => hLS (w4.alloc C).drew (ht4.then (Turns.alloc (F := [bp]) w4 C)).drew
  have hb4 : bw < w4.heap.size := Nat.lt_of_lt_of_le hbW ht4.size
  have hp4 : w.heap.size < w4.heap.size := Nat.lt_of_lt_of_le hpx ht4.size
  have HOW := Lib.hid (fun C => show fK.Own B (w4.alloc C).drew (.slice A l0.length c) l0 from by
    have h1 := HFO.out.1
    rw [hv] at h1
    refine h1.turns (ht4.then (Turns.alloc (F := [bp]) w4 C)).drew fun g hg hm => ?_
    rw [List.mem_singleton] at hm
    subst hm
    exact (HFO.out.2.1 _ (by rw [hv]; unfold ownB; rw [hg]; simp)).2.2.2.1 rfl)
  have HBW := Lib.hid (show bw ∉ ownB (.slice A l0.length c) from fun hm => (HFO.out.2.1 bw (by rw [hv]; exact hm)).2.1 rfl)
  have HLE := Lib.hid (show l0.length + [x].length ≤ 100000 by have := HFO.out.2.2.2; have := HL.out; simp; omega)
  have HBS := Lib.hid (fun C => show B ≤ (w4.alloc C).drew.heap.size from le_alloc (w := w4) (Nat.le_trans (HP.out.low bw HH.2.2.2.1).1 (Nat.le_of_lt hb4)) C)
  have HMK := Lib.hid (fun (C : Obj) (w5 : World) (v5 : Value) (ho5 : fK.Own B w5 v5 (l0 ++ [x])) (ht5 : Turns (ownB (.slice A l0.length c)) (w4.alloc C).drew w5) => show ∃ w6, (Instr.mapUpdate 47 (.map (some bs)) (.int .i64 (part x.2)) v5).run Try.prog w5 = .ok () w6 ∧ (∃ n, MapV 2 sread w6 bs (fun y => if y = part x.2 then some v5 else (S y).map (·.1)) n) ∧ Turns [bs] w5 w6 from by
    obtain ⟨n, hs, hn⟩ := HP.out.laid.slotsN
    have hs5 := (hs.turns (ht4.then (Turns.alloc (F := [bp]) w4 C)).drew (by simpa using HH.2.2.1)).turns ht5 (fun hm => (HFO.out.2.1 bs (by rw [hv]; exact hm)).2.2.1 rfl)
    obtain ⟨d, hd⟩ := sread_own ho5
    obtain ⟨w6, r1, r2, r3⟩ := hs5.store keyL Try.underlying2 Try.underlying47 (show n < maxLen by unfold maxLen; have := HL.out; omega) HW2.out hd
    exact ⟨w6, r1, ⟨_, r2⟩, r3⟩)
  have HBT := Lib.hid (fun (C : Obj) (w5 : World) (ht5 : Turns (ownB (.slice A l0.length c)) (w4.alloc C).drew w5) => (ht5.cell (b := bw) (show bw < (w4.alloc C).heap.size by simp; omega) HBW.out 1).trans ((World.cell?_alloc_lt w4 _ ⟨bw, 1, none⟩ hb4).trans b2))
  have HRD : Hid (fK.Reads (w4.alloc (.cells #[.int .i64 x.1, .int .i64 x.2] 44)).drew (w4.heap.size + 1) (some ⟨w4.heap.size, 0, none⟩) [x]) := Lib.hid (EK.Reads.lone fOk (W := w4) x _ _ rfl rfl)
  clear hl0 HO hv HH hLS hm4 ht4 ht4' q0 q3 hbb hpp
  go_region
  clear k0 hrun4 p0 p1 q1 q2
  go_wp2
  go_region_law (refine EK.step_append fOk (by rfl) (.tmp 46) (.tmp 48) (by rfl) B (.slice A l0.length c) l0 (by rfl) (HOW.out _) _ _ [x] 1 1 (by rfl) (by rfl) HRD.out (by simp) HLE.out (HBS.out _) ?_; intro v5 w5 ho5 ht5 hv5; obtain ⟨w6, hrun6, hm6, ht6⟩ := HMK.out _ w5 v5 ho5 ht5; have n1 := HBT.out _ w5 ht5; have HO5 := Lib.hid ho5; have HT5 := Lib.hid ht5; have HV5 := Lib.hid hv5; have HM6 := Lib.hid hm6; have HT6 := Lib.hid ht6; clear ho5 ht5 hv5 hm6 ht6)
  all_goals
    have HE := Lib.hid (HP.out.end2 HX.out HL.out HL0.out HVV.out HM4.out HT4.out HO5.out HT5.out HV5.out HM6.out HT6.out)
    clear hrun6 n1 HP HX HL HL0 HVV HM4 HT4 HO5 HT5 HV5 HM6 HT6 HMK HBT HBS HLE HBW HOW HRD
    go_wp2
    exact bodyPost_end (v := .tuple #[]) (by simp [results, Try.f26, go_sem]) rfl HE.out
theorem PutAt.nil {B : Nat} {w : World} {bw : Nat} {T : Int} {L : List Fi} {F : List Nat} {bs bp : Nat} (x : Fi) (h : WhAt B w bw T L F) (h3 : w.heap[bw]? = some (.cells #[.int .i64 T, .map none, .map none] 50 (0, 0))) (hL : L = []) (hs : bs = w.heap.size + 1) (hp : bp = w.heap.size + 1 + 1) :
    PutAt B w (((((w.setCell ⟨bw, 1, none⟩ (.map (some bs))).setCell ⟨bw, 2, none⟩ (.map (some bp))).alloc (.cells #[.int .i64 x.1, .int .i64 x.2] 44)).alloc (.map #[] 0)).alloc (.map #[] 0)) bw w.heap.size T L F (F ++ [bs, bp]) bs bp (fun _ => none) (fun _ => none) x := by
  obtain ⟨hlow, hbF, _⟩ := h
  have hbw := (hlow bw hbF).2
  have hB := (hlow bw hbF).1
  obtain ⟨W0, hW0⟩ : ∃ W0, W0 = (w.setCell ⟨bw, 1, none⟩ (.map (some bs))).setCell ⟨bw, 2, none⟩ (.map (some bp)) := ⟨_, rfl⟩
  have t0 : Turns F w W0 := by rw [hW0]; exact (Turns.setCell (F := F) w _ _ hbF).then (Turns.setCell (F := F) _ _ _ hbF)
  have e0 : W0.heap.size = w.heap.size := by rw [hW0]; simp
  have hd0 : W0.heap[bw]? = some (.cells #[.int .i64 T, .map (some bs), .map (some bp)] 50 (0, 0)) := by
    rw [hW0]
    have h1 := heap_setCell_same w bw 1 _ _ (.map (some bs)) h3
    have h2 := heap_setCell_same _ bw 2 _ _ (.map (some bp)) h1
    simpa using h2
  rw [← hW0]
  obtain ⟨W1, hW1⟩ : ∃ W1, W1 = W0.alloc (.cells #[.int .i64 x.1, .int .i64 x.2] 44) := ⟨_, rfl⟩
  have t1 : Turns [] W0 W1 := by rw [hW1]; exact Turns.alloc _ _
  have e1 : W1.heap.size = w.heap.size + 1 := by rw [hW1]; simp [e0]
  have l1 : W1.heap[w.heap.size]? = some (.cells #[.int .i64 x.1, .int .i64 x.2] 44 (0, 0)) := by
    rw [hW1, ← e0]
    exact heap_alloc_new W0 _
  rw [← hW1]
  have m1 := MapV.made 2 sread W1
  have m2 := MapV.made 3 aread (W1.alloc (.map #[] 0))
  have t2 : Turns [] W1 ((W1.alloc (.map #[] 0)).alloc (.map #[] 0)) := (Turns.alloc (F := []) _ _).then (Turns.alloc (F := []) _ _)
  have t3 : Turns [] W0 ((W1.alloc (.map #[] 0)).alloc (.map #[] 0)) := t1.then t2
  have hsz : ((W1.alloc (.map #[] 0)).alloc (.map #[] 0)).heap.size = w.heap.size + 3 := by simp [e1]
  refine ⟨⟨(t3.block bw (by omega) (by simp)).trans hd0, ⟨0, ?_⟩, ?_, fun k v l e => (by cases e), fun k v l e => (by cases e), ⟨by omega, by omega, by omega, List.mem_append.2 (.inl hbF), by simp, by simp⟩, fun k => ?_, fun id p i => ?_⟩, fun i hi => ?_, fun i hi => ?_, t0.after t3 (by simp), (t2.block _ (by omega) (by simp)).trans l1, fun hm => ?_⟩
  · rw [hs, ← e1]
    exact m1.turns (Turns.alloc (F := []) _ _) (by simp)
  · have : bp = (W1.alloc (.map #[] 0)).heap.size := by rw [hp]; simp [e1]
    rw [this, hL]
    exact m2
  · rw [hL]
    exact List.Perm.refl _
  · constructor
    · intro e; cases e
    · rintro ⟨v, l, y, e, _⟩
      cases e
  · rcases List.mem_append.1 hi with hi | hi
    · have := hlow i hi
      omega
    · simp at hi
      omega
  · rcases List.mem_append.1 hi with hi | hi
    · exact .inl hi
    · simp at hi
      exact .inr (by omega)
  · rcases List.mem_append.1 hm with hm | hm
    · have := (hlow _ hm).2
      omega
    · simp at hm
      omega
set_option maxRecDepth 100000 in
set_option maxHeartbeats 4000000 in
theorem put_nil {B : Nat} {w : World} {bw : Nat} {T : Int} {L : List Fi} {F : List Nat} (h : WhAt B w bw T L F) (h3 : w.heap[bw]? = some (.cells #[.int .i64 T, .map none, .map none] 50 (0, 0))) (hL0 : L = []) (x : Fi) (hx : ∀ y ∈ L, y.1 ≠ x.1) (w1 : -9223372036854775808 ≤ x.1 ∧ x.1 ≤ 9223372036854775807) (w2 : -9223372036854775808 ≤ x.2 ∧ x.2 ≤ 9223372036854775807) (hL : L.length ≤ 1000) :
    Calls Try.prog 26 #[.pointer (some ⟨bw, 0, none⟩), .agg #[.int .i64 x.1, .int .i64 x.2]] w (PutP B w bw T L F x) := by
  have qf := map_nil_f
  have qt := map_nil_t
  have HPO := Lib.hid (fun W => partOf_any x.2 w2 W)
  have HX := Lib.hid hx
  have HL := Lib.hid hL
  have HW1 := Lib.hid (wfI w1)
  have HW2 := Lib.hid (wfI (part_wf w2))
  have hlow := h.1
  have hbw := h.cells.2.2
  have c1 : w.cell? ⟨bw, 1, none⟩ = some (.map none) := by simp [World.cell?, h3]
  have f1 := h.cells.2.1 1
  have f2 := h.cells.2.1 2
  have c2 : w.cell? ⟨bw, 2, none⟩ = some (.map none) := by simp [World.cell?, h3]
  have hmm := @run_makeMap Try.prog
  have hb1 : bw < w.heap.size + 1 := by omega
  have hb2 : bw < w.heap.size + 1 + 1 := by omega
  obtain ⟨bs, hbs⟩ : ∃ bs, bs = w.heap.size + 1 := ⟨_, rfl⟩
  obtain ⟨bp, hbp⟩ : ∃ bp, bp = w.heap.size + 1 + 1 := ⟨_, rfl⟩
  have HP0 := Lib.hid (PutAt.nil x h h3 hL0 hbs hbp)
  obtain ⟨F1, hF1⟩ : ∃ F1, F1 = F ++ [bs, bp] := ⟨_, rfl⟩
  obtain ⟨S, hS⟩ : ∃ S : Sl, S = fun _ => none := ⟨_, rfl⟩
  obtain ⟨P, hP⟩ : ∃ P : Pc, P = fun _ => none := ⟨_, rfl⟩
  rw [← hF1, ← hS, ← hP] at HP0
  clear h h3 hlow hx w1 w2 hL hF1 hS hP hL0
  go_enter Try.func26, Try.ntmps26
  go_wp2_with (go_at_call 29; refine (HPO.out _).mono ?_; rintro e w' ⟨rfl, rfl⟩)
  rw [← hbp, ← hbs]
  obtain ⟨W, hW⟩ : ∃ W, W = ((((w.setCell ⟨bw, 1, none⟩ (.map (some bs))).setCell ⟨bw, 2, none⟩ (.map (some bp))).alloc (.cells #[.int .i64 x.1, .int .i64 x.2] 44)).alloc (.map #[] 0)).alloc (.map #[] 0) := ⟨_, rfl⟩
  rw [← hW] at HP0 ⊢
  have HP := HP0
  clear HP0 hW c1 c2 f1 f2 hb1 hb2 hbs hbp hmm
  obtain ⟨l0, hl0⟩ : ∃ l0, l0 = S.at_ (part x.2) := ⟨_, rfl⟩
  have HO := HP.out.laid.owns (part x.2)
  obtain ⟨A, c, hv, -⟩ := HO.1.reads
  have HH := HP.out.laid.heads
  rw [← hl0] at HO hv
  have HFO := Lib.hid HO
  have HVV := Lib.hid hv
  have HL0 := Lib.hid hl0
  have hLS : ∀ W', Turns [bp] W W' → (Instr.lookup 47 (.map (some bs)) (.int .i64 (part x.2)) false).run Try.prog W' = .ok (.slice A l0.length c) W' := fun W' ht => by
    obtain ⟨n, hs⟩ := HP.out.laid.slots
    have := (hs.turns ht (by simpa using HH.2.2.1)).lookup keyL Try.underlying2 Try.underlying47 sread_inj (zeroS W') (zd := .agg [.lit (.int .i64 0), .lit (.int .i64 0)]) (zp := []) rfl HW2.out
    rw [HFO.out.2.2.1, hv] at this
    exact this
  obtain ⟨w4, hrun4, hm4, ht4'⟩ := (HP.out.laid.places.turns (w' := W.drew) ((Turns.refl [] W).drew) (by simp)).store keyI Try.underlying3 Try.underlying48 (show L.length < maxLen by unfold maxLen; have := HL.out; omega) HW1.out (v := placeV (part x.2, l0.length)) (aread_mk _ _)
  have ht4 : Turns [bp] W w4 := ((Turns.refl [bp] W).drew).then ht4'
  have HM4 := Lib.hid hm4
  have HT4 := Lib.hid ht4
  simp only [placeV] at hrun4
  obtain ⟨q0, q1, q2, q3⟩ := HP.out.laid.cells
  have hpx : w.heap.size < W.heap.size := lt_of_block HP.out.lit
  have hbW : bw < W.heap.size := (HP.out.low bw HH.2.2.2.1).2
  have p0 : W.cell? ⟨w.heap.size, 0, none⟩ = some (.int .i64 x.1) := by simp [World.cell?, HP.out.lit]
  have p1 : W.cell? ⟨w.heap.size, 1, none⟩ = some (.int .i64 x.2) := by simp [World.cell?, HP.out.lit]
  have hpp : w.heap.size ∉ [bp] := fun hm => by rw [List.mem_singleton] at hm; exact HP.out.off (hm ▸ HH.2.2.2.2.2)
  have hbb : bw ∉ [bp] := by simpa using HH.2.1
  have k0 := hLS W.drew ((Turns.refl _ W).drew)
  have b0 := (ht4.cell hpx hpp 0).trans p0
  have b1 := (ht4.cell hpx hpp 1).trans p1
  have b2 := (ht4.cell hbW hbb 1).trans q1
  have k4 := hLS w4.drew ht4.drew
  have k5 := fun C => hLS (w4.alloc C).drew (ht4.then (Turns.alloc (F := [bp]) w4 C)).drew
  have hb4 : bw < w4.heap.size := Nat.lt_of_lt_of_le hbW ht4.size
  have hp4 : w.heap.size < w4.heap.size := Nat.lt_of_lt_of_le hpx ht4.size
  have HOW := Lib.hid (fun C => show fK.Own B (w4.alloc C).drew (.slice A l0.length c) l0 from by
    have h1 := HFO.out.1
    rw [hv] at h1
    refine h1.turns (ht4.then (Turns.alloc (F := [bp]) w4 C)).drew fun g hg hm => ?_
    rw [List.mem_singleton] at hm
    subst hm
    exact (HFO.out.2.1 _ (by rw [hv]; unfold ownB; rw [hg]; simp)).2.2.2.1 rfl)
  have HBW := Lib.hid (show bw ∉ ownB (.slice A l0.length c) from fun hm => (HFO.out.2.1 bw (by rw [hv]; exact hm)).2.1 rfl)
  have HLE := Lib.hid (show l0.length + [x].length ≤ 100000 by have := HFO.out.2.2.2; have := HL.out; simp; omega)
  have HBS := Lib.hid (fun C => show B ≤ (w4.alloc C).drew.heap.size from le_alloc (w := w4) (Nat.le_trans (HP.out.low bw HH.2.2.2.1).1 (Nat.le_of_lt hb4)) C)
  have HMK := Lib.hid (fun (C : Obj) (w5 : World) (v5 : Value) (ho5 : fK.Own B w5 v5 (l0 ++ [x])) (ht5 : Turns (ownB (.slice A l0.length c)) (w4.alloc C).drew w5) => show ∃ w6, (Instr.mapUpdate 47 (.map (some bs)) (.int .i64 (part x.2)) v5).run Try.prog w5 = .ok () w6 ∧ (∃ n, MapV 2 sread w6 bs (fun y => if y = part x.2 then some v5 else (S y).map (·.1)) n) ∧ Turns [bs] w5 w6 from by
    obtain ⟨n, hs, hn⟩ := HP.out.laid.slotsN
    have hs5 := (hs.turns (ht4.then (Turns.alloc (F := [bp]) w4 C)).drew (by simpa using HH.2.2.1)).turns ht5 (fun hm => (HFO.out.2.1 bs (by rw [hv]; exact hm)).2.2.1 rfl)
    obtain ⟨d, hd⟩ := sread_own ho5
    obtain ⟨w6, r1, r2, r3⟩ := hs5.store keyL Try.underlying2 Try.underlying47 (show n < maxLen by unfold maxLen; have := HL.out; omega) HW2.out hd
    exact ⟨w6, r1, ⟨_, r2⟩, r3⟩)
  have HBT := Lib.hid (fun (C : Obj) (w5 : World) (ht5 : Turns (ownB (.slice A l0.length c)) (w4.alloc C).drew w5) => (ht5.cell (b := bw) (show bw < (w4.alloc C).heap.size by simp; omega) HBW.out 1).trans ((World.cell?_alloc_lt w4 _ ⟨bw, 1, none⟩ hb4).trans b2))
  have HRD : Hid (fK.Reads (w4.alloc (.cells #[.int .i64 x.1, .int .i64 x.2] 44)).drew (w4.heap.size + 1) (some ⟨w4.heap.size, 0, none⟩) [x]) := Lib.hid (EK.Reads.lone fOk (W := w4) x _ _ rfl rfl)
  clear hl0 HO hv HH hLS hm4 ht4 ht4' q0 q3 hbb hpp
  go_region
  clear k0 hrun4 p0 p1 q1 q2
  go_wp2
  go_region_law (refine EK.step_append fOk (by rfl) (.tmp 46) (.tmp 48) (by rfl) B (.slice A l0.length c) l0 (by rfl) (HOW.out _) _ _ [x] 1 1 (by rfl) (by rfl) HRD.out (by simp) HLE.out (HBS.out _) ?_; intro v5 w5 ho5 ht5 hv5; obtain ⟨w6, hrun6, hm6, ht6⟩ := HMK.out _ w5 v5 ho5 ht5; have n1 := HBT.out _ w5 ht5; have HO5 := Lib.hid ho5; have HT5 := Lib.hid ht5; have HV5 := Lib.hid hv5; have HM6 := Lib.hid hm6; have HT6 := Lib.hid ht6; clear ho5 ht5 hv5 hm6 ht6)
  all_goals
    have HE := Lib.hid (HP.out.end2 HX.out HL.out HL0.out HVV.out HM4.out HT4.out HO5.out HT5.out HV5.out HM6.out HT6.out)
    clear hrun6 n1 HP HX HL HL0 HVV HM4 HT4 HO5 HT5 HV5 HM6 HT6 HMK HBT HBS HLE HBW HOW HRD
    go_wp2
    exact bodyPost_end (v := .tuple #[]) (by simp [results, Try.f26, go_sem]) rfl HE.out
theorem put_any {B : Nat} {w : World} {bw : Nat} {T : Int} {L : List Fi} {F : List Nat} (h : WhAt B w bw T L F) (x : Fi) (hx : ∀ y ∈ L, y.1 ≠ x.1) (w1 : -9223372036854775808 ≤ x.1 ∧ x.1 ≤ 9223372036854775807) (w2 : -9223372036854775808 ≤ x.2 ∧ x.2 ≤ 9223372036854775807) (hL : L.length ≤ 1000) :
    Calls Try.prog 26 #[.pointer (some ⟨bw, 0, none⟩), .agg #[.int .i64 x.1, .int .i64 x.2]] w (PutP B w bw T L F x) := by
  rcases h.2.2 with ⟨h3, h4⟩ | ⟨bs, bp, S, P, h3⟩
  · exact put_nil h h3 h4 x hx w1 w2 hL
  · exact put_laid h h3 x hx w1 w2 hL
end Go.Proofs.Ytaepgcicgmbbeaa
