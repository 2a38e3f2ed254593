/- The program's turn, and what turns a connection: Accept, Refuse, End. -/
import Derived.Test.YtlelemjmknbnaaaNetFind
namespace Go.Proofs.Ytlelemjmknbnaaa
open Go.RowKit

theorem getE_self {L1 L2 : List NE} {x : NE} (h : (L1 ++ x :: L2).Pairwise fun x y => x.1.id < y.1.id) : getE (L1 ++ x :: L2) (x.1.id : Int) = some x := by
  unfold getE
  rw [List.pairwise_append] at h
  rw [List.find?_append]
  have h0 : L1.find? (fun y => decide ((y.1.id : Int) = (x.1.id : Int))) = none := by
    rw [List.find?_eq_none]
    intro y hy
    have := h.2.2 y hy x (List.mem_cons_self ..)
    simp
    omega
  rw [h0, List.find?_cons]
  simp
theorem getE_split {L : List NE} {k : Int} {x : NE} (h : getE L k = some x) : ∃ L1 L2, L = L1 ++ x :: L2 ∧ (x.1.id : Int) = k := by
  obtain ⟨hm, hk⟩ := getE_mem h
  obtain ⟨L1, L2, rfl⟩ := List.append_of_mem hm
  exact ⟨L1, L2, rfl, hk⟩
theorem NetAt.conn {B : Nat} {w : World} {bn bm : Nat} {most last : Int} {L1 L2 : List NE} {x : NE} (h : NetAt B w bn bm most last (L1 ++ x :: L2)) : w.heap[x.2.b]? = some (.cells (cellsC x) 60 (0, 0)) ∧ Owned B w x.2.va x.1.inn ∧ Owned B w x.2.vs x.1.out := h.conns x (by simp)
theorem NetAt.footOf {B : Nat} {w : World} {bn bm : Nat} {most last : Int} {L1 L2 : List NE} {x : NE} (h : NetAt B w bn bm most last (L1 ++ x :: L2)) : x.2.foot.Nodup ∧ ∀ i ∈ x.2.foot, B ≤ i ∧ i < w.heap.size := by
  refine ⟨?_, fun i hi => h.lt i (by rw [footL_mid]; simp [hi])⟩
  have := h.apart
  rw [footL_mid] at this
  simp only [List.nodup_cons, List.nodup_append] at this
  exact this.2.2.2.1.1
theorem heap_cell {w : World} {b j : Nat} {cur : Array Value} {t : TypeId} (u : Value) (h : w.heap[b]? = some (.cells cur t (0, 0))) : (w.setCell ⟨b, j, none⟩ u).heap[b]? = some (.cells (cur.setIfInBounds j u) t (0, 0)) := heap_setCell_same w b j cur t u h
theorem own_off {B : Nat} {w : World} {bn bm : Nat} {most last : Int} {L1 L2 : List NE} {x : NE} (h : NetAt B w bn bm most last (L1 ++ x :: L2)) : x.2.b ∉ ownB x.2.va ∧ x.2.b ∉ ownB x.2.vs ∧ ∀ i ∈ ownB x.2.va, i ∉ ownB x.2.vs := by
  have := h.footOf.1
  unfold Pl.foot at this
  rw [List.nodup_cons, List.nodup_append] at this
  simp only [List.mem_append, not_or] at this
  exact ⟨this.1.1, this.1.2, fun i hi hj => this.2.2.2 i hi i hj rfl⟩
/-- A store into a connection's state. -/
theorem NetAt.restate {B : Nat} {w : World} {bn bm : Nat} {most last : Int} {L1 L2 : List NE} {x : NE} (h : NetAt B w bn bm most last (L1 ++ x :: L2)) (s : Int) :
    NetAt B (w.setCell ⟨x.2.b, 1, none⟩ (.int .i64 s)) bn bm most last (L1 ++ ({ x.1 with st := s }, x.2) :: L2) := by
  obtain ⟨c1, c2, c3⟩ := h.conn
  obtain ⟨o1, o2, _⟩ := own_off h
  have ht : Turns [x.2.b] w (w.setCell ⟨x.2.b, 1, none⟩ (.int .i64 s)) := Turns.setCell _ _ _ (by simp)
  refine h.turned (x' := ({ x.1 with st := s }, x.2)) rfl rfl (ht.mono (fun i hi => by rw [List.mem_singleton] at hi; rw [hi]; exact Pl.mem_foot.2 (.inl rfl))) ?_ ?_ ?_ (fun i hi => .inl hi) h.footOf.1
  · rw [heap_cell _ c1]
    simp [cellsC]
  · exact c2.turns ht fun g hg hm => o1 (by rw [List.mem_singleton] at hm; rw [← hm]; unfold ownB; rw [hg]; simp)
  · exact c3.turns ht fun g hg hm => o2 (by rw [List.mem_singleton] at hm; rw [← hm]; unfold ownB; rw [hg]; simp)
def TurnPost (B : Nat) (w : World) (bn bm : Nat) (most last : Int) (L1 L2 : List NE) (x x' : NE) (e : Ending) (w' : World) : Prop :=
  e = .returned (.int .i64 0) ∧ NetAt B w' bn bm most last (L1 ++ x' :: L2) ∧ Turns x.2.foot w w'
set_option maxRecDepth 100000 in
set_option maxHeartbeats 2000000 in
theorem turn_ok {B : Nat} {w : World} {bn bm : Nat} {most last : Int} {L1 L2 : List NE} {x : NE} (h : NetAt B w bn bm most last (L1 ++ x :: L2)) (hk : (Lit.int .i64 (x.1.id : Int)).wf = true) (s : Int) (sb cap : Nat) (zs : List Int) (hl : zs.length ≤ 1000) (hs : StAt w sb zs) (hz : x.1.st ∈ zs) :
    Calls Try.prog 44 #[.pointer (some ⟨bn, 0, none⟩), .int .i64 (x.1.id : Int), .int .i64 s, .slice (some ⟨sb, 0, none⟩) zs.length cap] w (TurnPost B w bn bm most last L1 L2 x ({ x.1 with st := s }, x.2)) := by
  have hin := in_any h (x.1.id : Int) hk sb cap zs hl hs
  rw [getE_self h.rise] at hin
  have HI : Hid (Calls Try.prog 45 #[.pointer (some ⟨bn, 0, none⟩), .int .i64 (x.1.id : Int), .slice (some ⟨sb, 0, none⟩) zs.length cap] w fun e w' => e = .returned (.tuple #[.pointer (some ⟨x.2.b, 0, none⟩), .int .i64 0]) ∧ w = w') := Lib.hid (by
    rw [show inV (some x) zs = .tuple #[.pointer (some ⟨x.2.b, 0, none⟩), .int .i64 0] from if_pos hz] at hin
    exact hin)
  obtain ⟨c1, _, _⟩ := h.conn
  have hc : w.cell? ⟨x.2.b, 1, none⟩ = some (.int .i64 x.1.st) := by simp [World.cell?, c1, cellsC]
  have hf : w.frozen? ⟨x.2.b, 1, none⟩ = false := by simp [World.frozen?, c1]
  have HN := Lib.hid (h.restate s)
  have HT : Hid (Turns x.2.foot w (w.setCell ⟨x.2.b, 1, none⟩ (.int .i64 s))) := Lib.hid (Turns.setCell _ _ _ (Pl.mem_foot.2 (.inl rfl)))
  clear hin hs hz c1 h
  go_enter Try.func44, Try.ntmps44
  go_wp2_with fail
  refine (Hid.out HI).mono ?_
  rintro e w1 ⟨rfl, rfl⟩
  go_wp2
  go_ret
  exact ⟨rfl, HN.out, HT.out⟩
def codeV (o : Option NE) (zs : List Int) : Int := match o with
  | some x => if x.1.st ∈ zs then 0 else 7
  | none => 8
set_option maxRecDepth 100000 in
set_option maxHeartbeats 2000000 in
theorem turn_no {B : Nat} {w : World} {bn bm : Nat} {most last : Int} {L : List NE} (h : NetAt B w bn bm most last L) (k : Int) (hk : (Lit.int .i64 k).wf = true) (s : Int) (sb cap : Nat) (zs : List Int) (hl : zs.length ≤ 1000) (hs : StAt w sb zs) (hz : codeV (getE L k) zs ≠ 0) :
    Calls Try.prog 44 #[.pointer (some ⟨bn, 0, none⟩), .int .i64 k, .int .i64 s, .slice (some ⟨sb, 0, none⟩) zs.length cap] w fun e w' => e = .returned (.int .i64 (codeV (getE L k) zs)) ∧ w = w' := by
  have hin := in_any h k hk sb cap zs hl hs
  generalize hg : getE L k = o at hin hz ⊢
  obtain ⟨c, hc, hcv, hiv⟩ : ∃ c : Int, ((c : Int) == 0) = false ∧ codeV o zs = c ∧ inV o zs = .tuple #[.pointer none, .int .i64 c] := by
    cases o with
    | none => exact ⟨8, rfl, rfl, rfl⟩
    | some x =>
      by_cases hm : x.1.st ∈ zs
      · exact absurd (if_pos hm) hz
      · exact ⟨7, rfl, if_neg hm, if_neg hm⟩
  rw [hiv] at hin
  rw [hcv]
  have HI := Lib.hid hin
  clear hin hiv hcv hg hz h hs
  go_enter Try.func44, Try.ntmps44
  go_wp2_with fail
  refine (Hid.out HI).mono ?_
  rintro e w1 ⟨rfl, rfl⟩
  go_wp2
  go_ret
  exact ⟨rfl, rfl⟩
theorem st_one (w : World) (z : Int) (t : TypeId) : StAt (w.alloc (.cells #[.int .i64 z] t)) w.heap.size [z] := by
  intro j y hj
  match j, hj with
  | 0, hj => cases hj; simp
  | j + 1, hj => cases hj
theorem st_two (w : World) (y z : Int) (t : TypeId) : StAt (w.alloc (.cells #[.int .i64 y, .int .i64 z] t)) w.heap.size [y, z] := by
  intro j u hj
  match j, hj with
  | 0, hj => cases hj; simp
  | 1, hj => cases hj; simp
  | j + 2, hj => cases hj
theorem NetAt.alloc {B : Nat} {w : World} {bn bm : Nat} {most last : Int} {L : List NE} (h : NetAt B w bn bm most last L) (o : Obj) : NetAt B (w.alloc o) bn bm most last L := h.kept (Turns.alloc (F := []) w o) (by simp)
theorem turns_later {F : List Nat} {w : World} {o : Obj} {w' : World} (h : Turns F (w.alloc o) w') : Turns F w w' := (Turns.alloc (F := F) w o).trans h (fun i hi => .inl hi)
set_option maxRecDepth 100000 in
set_option maxHeartbeats 2000000 in
theorem accept_ok {B : Nat} {w : World} {bn bm : Nat} {most last : Int} {L1 L2 : List NE} {x : NE} (h : NetAt B w bn bm most last (L1 ++ x :: L2)) (hk : (Lit.int .i64 (x.1.id : Int)).wf = true) (hz : x.1.st = 1) :
    Calls Try.prog 15 #[.pointer (some ⟨bn, 0, none⟩), .int .i64 (x.1.id : Int)] w (TurnPost B w bn bm most last L1 L2 x ({ x.1 with st := 2 }, x.2)) := by
  have HC := Lib.hid (turn_ok (h.alloc (.cells #[.int .i64 1] 58)) hk 2 w.heap.size 1 [1] (by simp) (st_one w 1 _) (by rw [hz]; simp))
  change Hid (Calls _ _ #[_, _, _, .slice _ 1 1] _ _) at HC
  clear h hk hz
  go_enter Try.func15, Try.ntmps15
  go_wp2_with fail
  refine (Hid.out HC).mono ?_
  rintro e w1 ⟨rfl, hn, ht⟩
  have HN := Lib.hid hn
  have HT := Lib.hid (turns_later ht)
  clear hn ht
  go_wp2
  go_ret
  exact ⟨rfl, HN.out, HT.out⟩
set_option maxRecDepth 100000 in
set_option maxHeartbeats 2000000 in
theorem accept_no {B : Nat} {w : World} {bn bm : Nat} {most last : Int} {L : List NE} (h : NetAt B w bn bm most last L) (k : Int) (hk : (Lit.int .i64 k).wf = true) (hz : codeV (getE L k) [1] ≠ 0) :
    Calls Try.prog 15 #[.pointer (some ⟨bn, 0, none⟩), .int .i64 k] w fun e w' => e = .returned (.int .i64 (codeV (getE L k) [1])) ∧ Turns [] w w' := by
  have HC := Lib.hid (turn_no (h.alloc (.cells #[.int .i64 1] 58)) k hk 2 w.heap.size 1 [1] (by simp) (st_one w 1 _) hz)
  change Hid (Calls _ _ #[_, _, _, .slice _ 1 1] _ _) at HC
  generalize codeV (getE L k) [1] = c at HC ⊢
  clear h hk hz
  go_enter Try.func15, Try.ntmps15
  go_wp2_with fail
  refine (Hid.out HC).mono ?_
  rintro e w1 ⟨rfl, rfl⟩
  go_wp2
  go_ret
  exact ⟨rfl, Turns.alloc _ _⟩
set_option maxRecDepth 100000 in
set_option maxHeartbeats 2000000 in
theorem refuse_ok {B : Nat} {w : World} {bn bm : Nat} {most last : Int} {L1 L2 : List NE} {x : NE} (h : NetAt B w bn bm most last (L1 ++ x :: L2)) (hk : (Lit.int .i64 (x.1.id : Int)).wf = true) (hz : x.1.st = 1) :
    Calls Try.prog 21 #[.pointer (some ⟨bn, 0, none⟩), .int .i64 (x.1.id : Int)] w (TurnPost B w bn bm most last L1 L2 x ({ x.1 with st := 4 }, x.2)) := by
  have HC := Lib.hid (turn_ok (h.alloc (.cells #[.int .i64 1] 58)) hk 4 w.heap.size 1 [1] (by simp) (st_one w 1 _) (by rw [hz]; simp))
  change Hid (Calls _ _ #[_, _, _, .slice _ 1 1] _ _) at HC
  clear h hk hz
  go_enter Try.func21, Try.ntmps21
  go_wp2_with fail
  refine (Hid.out HC).mono ?_
  rintro e w1 ⟨rfl, hn, ht⟩
  have HN := Lib.hid hn
  have HT := Lib.hid (turns_later ht)
  clear hn ht
  go_wp2
  go_ret
  exact ⟨rfl, HN.out, HT.out⟩
set_option maxRecDepth 100000 in
set_option maxHeartbeats 2000000 in
theorem refuse_no {B : Nat} {w : World} {bn bm : Nat} {most last : Int} {L : List NE} (h : NetAt B w bn bm most last L) (k : Int) (hk : (Lit.int .i64 k).wf = true) (hz : codeV (getE L k) [1] ≠ 0) :
    Calls Try.prog 21 #[.pointer (some ⟨bn, 0, none⟩), .int .i64 k] w fun e w' => e = .returned (.int .i64 (codeV (getE L k) [1])) ∧ Turns [] w w' := by
  have HC := Lib.hid (turn_no (h.alloc (.cells #[.int .i64 1] 58)) k hk 4 w.heap.size 1 [1] (by simp) (st_one w 1 _) hz)
  change Hid (Calls _ _ #[_, _, _, .slice _ 1 1] _ _) at HC
  generalize codeV (getE L k) [1] = c at HC ⊢
  clear h hk hz
  go_enter Try.func21, Try.ntmps21
  go_wp2_with fail
  refine (Hid.out HC).mono ?_
  rintro e w1 ⟨rfl, rfl⟩
  go_wp2
  go_ret
  exact ⟨rfl, Turns.alloc _ _⟩
set_option maxRecDepth 100000 in
set_option maxHeartbeats 2000000 in
theorem end_ok {B : Nat} {w : World} {bn bm : Nat} {most last : Int} {L1 L2 : List NE} {x : NE} (h : NetAt B w bn bm most last (L1 ++ x :: L2)) (hk : (Lit.int .i64 (x.1.id : Int)).wf = true) (hz : x.1.st = 2) :
    Calls Try.prog 17 #[.pointer (some ⟨bn, 0, none⟩), .int .i64 (x.1.id : Int)] w (TurnPost B w bn bm most last L1 L2 x ({ x.1 with st := 3 }, x.2)) := by
  have HC := Lib.hid (turn_ok (h.alloc (.cells #[.int .i64 2] 58)) hk 3 w.heap.size 1 [2] (by simp) (st_one w 2 _) (by rw [hz]; simp))
  change Hid (Calls _ _ #[_, _, _, .slice _ 1 1] _ _) at HC
  clear h hk hz
  go_enter Try.func17, Try.ntmps17
  go_wp2_with fail
  refine (Hid.out HC).mono ?_
  rintro e w1 ⟨rfl, hn, ht⟩
  have HN := Lib.hid hn
  have HT := Lib.hid (turns_later ht)
  clear hn ht
  go_wp2
  go_ret
  exact ⟨rfl, HN.out, HT.out⟩
set_option maxRecDepth 100000 in
set_option maxHeartbeats 2000000 in
theorem end_no {B : Nat} {w : World} {bn bm : Nat} {most last : Int} {L : List NE} (h : NetAt B w bn bm most last L) (k : Int) (hk : (Lit.int .i64 k).wf = true) (hz : codeV (getE L k) [2] ≠ 0) :
    Calls Try.prog 17 #[.pointer (some ⟨bn, 0, none⟩), .int .i64 k] w fun e w' => e = .returned (.int .i64 (codeV (getE L k) [2])) ∧ Turns [] w w' := by
  have HC := Lib.hid (turn_no (h.alloc (.cells #[.int .i64 2] 58)) k hk 3 w.heap.size 1 [2] (by simp) (st_one w 2 _) hz)
  change Hid (Calls _ _ #[_, _, _, .slice _ 1 1] _ _) at HC
  generalize codeV (getE L k) [2] = c at HC ⊢
  clear h hk hz
  go_enter Try.func17, Try.ntmps17
  go_wp2_with fail
  refine (Hid.out HC).mono ?_
  rintro e w1 ⟨rfl, rfl⟩
  go_wp2
  go_ret
  exact ⟨rfl, Turns.alloc _ _⟩
end Go.Proofs.Ytlelemjmknbnaaa
