/- The program's Arrive, Send and Read. -/
import Derived.Test.YtlelemjmknbnaaaNetTurn
namespace Go.Proofs.Ytlelemjmknbnaaa
open Go.RowKit

theorem wpList_append_bytesT {w : World} {ops : Array Oper} {rest : List Oper} {o : Oper} {a : Act} {Q : Exit → Act → World → Prop} (hgd : o.guard = none) (s x : Operand)
    (ho : o.op = .call { callee := .builtin .append, args := #[s, x], argTypes := #[30, 30] })
    (base : Nat) (v : Value) (l1 : List UInt8) (hs : a.eval s = v) (hown : Owned base w v l1)
    (B : Nat) (A : Option Addr) (l2 : List UInt8) (c : Nat) (hx : a.eval x = .slice A l2.length c) (hr : BReads w B A l2) (hc : A = none → c = 0)
    (hlen : l1.length + l2.length ≤ 1000000) (hbase : base ≤ w.heap.size)
    (h : ∀ v' w', Owned base w' v' (l1 ++ l2) → Turns (ownB v) w w' → (v'.ownBlock = v.ownBlock ∨ v'.ownBlock = some w.heap.size) → wpList Try.prog ops Q rest (a.put o.dst v') w') : wpList Try.prog ops Q (o :: rest) a w := by
  obtain ⟨i0, hi, hz0, hz1, hz2⟩ := info_parts Try.infoU8
  cases A with
  | none =>
    have h0 := hr.hnone rfl
    have hc0 := hc rfl
    obtain rfl := List.eq_nil_of_length_eq_zero h0
    refine wpList_append_own_none hgd s x 30 ho base 5 i0 1 Try.underlying30 hi v l1.length (l1.map bcell) hs hown (by rw [hx, hc0]; rfl) (h v w ?_ (Turns.refl _ _) (.inl rfl))
    rw [List.append_nil]
    exact hown
  | some ad =>
    refine wpList_append_own_at w hgd s x 30 ho base 5 i0 (.int .u8 0) 1 1 Try.underlying30 hi hz0 hz1 hz2 rfl (by decide) v l1.length (l1.map bcell) hs hown ad l2.length c (l2.map bcell) hx (by simp) (hr.cells ad rfl) (bcell_one l2) (by unfold maxLen; omega) (by omega) hbase ?_
    intro v' w' h1 h2 _ h4
    refine h v' w' ?_ (Turns.of_grown h2) h4
    unfold Owned
    rw [map_append_len, List.map_append]
    exact h1
theorem ownB_mem {v : Value} {g : Nat} (h : v.ownBlock = some g) : g ∈ ownB v := by unfold ownB; rw [h]; simp
theorem ownB_new {v v' : Value} {n : Nat} (h : v'.ownBlock = v.ownBlock ∨ v'.ownBlock = some n) : ∀ i ∈ ownB v', i ∈ ownB v ∨ i = n := by
  intro i hi
  unfold ownB at hi ⊢
  rcases h with h | h
  · rw [h] at hi; exact .inl hi
  · rw [h] at hi; exact .inr (by simpa using hi)
theorem ownB_nodup (v : Value) : (ownB v).Nodup := by
  unfold ownB
  cases v.ownBlock <;> simp
theorem cell_conn {w : World} {b : Nat} {x : NE} (h : w.heap[b]? = some (.cells (cellsC x) 60 (0, 0))) : w.cell? ⟨b, 0, none⟩ = some (.string ⟨x.1.host.toArray⟩) ∧ w.cell? ⟨b, 1, none⟩ = some (.int .i64 x.1.st) ∧ w.cell? ⟨b, 2, none⟩ = some x.2.va ∧ w.cell? ⟨b, 3, none⟩ = some x.2.vs ∧ ∀ j, w.frozen? ⟨b, j, none⟩ = false := by
  simp [World.cell?, World.frozen?, h, cellsC]
def emptyC : Value := .agg #[.string ⟨#[]⟩, .int .i64 0, .slice none 0 0, .slice none 0 0]
def connV (x : NE) : Value := .agg #[.string ⟨x.1.host.toArray⟩, .int .i64 x.1.st, x.2.va, x.2.vs]
/-- Bytes come behind a connection's. -/
theorem NetAt.arrived {B : Nat} {w w1 w2 : World} {bn bm : Nat} {most last : Int} {L1 L2 : List NE} {x : NE} {v' : Value} {l : List UInt8} (h : NetAt B w bn bm most last (L1 ++ x :: L2)) (h1 : Turns [] w w1) (ho : Owned B w2 v' (x.1.inn ++ l)) (ht : Turns (ownB x.2.va) w1 w2)
    (hl : v'.ownBlock = x.2.va.ownBlock ∨ v'.ownBlock = some w1.heap.size) :
    NetAt B (w2.setCell ⟨x.2.b, 2, none⟩ v') bn bm most last (L1 ++ ({ x.1 with inn := x.1.inn ++ l }, { x.2 with va := v' }) :: L2) ∧ Turns x.2.foot w (w2.setCell ⟨x.2.b, 2, none⟩ v') ∧ w2.heap[x.2.b]? = some (.cells (cellsC x) 60 (0, 0)) := by
  obtain ⟨c1, c2, c3⟩ := h.conn
  obtain ⟨o1, o2, o3⟩ := own_off h
  have hlt := fun i hi => (h.footOf.2 i hi).2
  have ht2 : Turns (ownB x.2.va) w w2 := (h1.mono (by simp)).trans ht (fun i hi => .inl hi)
  have hc2 : w2.heap[x.2.b]? = some (.cells (cellsC x) 60 (0, 0)) := (ht2.block _ (lt_of_block c1) o1).trans c1
  have hsub : ∀ i ∈ ownB x.2.va, i ∈ x.2.foot := fun i hi => Pl.mem_foot.2 (.inr (.inl hi))
  have hbf : x.2.b ∈ x.2.foot := Pl.mem_foot.2 (.inl rfl)
  have ht3 : Turns [x.2.b] w2 (w2.setCell ⟨x.2.b, 2, none⟩ v') := Turns.setCell _ _ _ (by simp)
  have htt : Turns x.2.foot w (w2.setCell ⟨x.2.b, 2, none⟩ v') := (ht2.mono hsub).trans ht3 (fun i hi => by rw [List.mem_singleton] at hi; rw [hi]; exact .inl hbf)
  have hb' : x.2.b ∉ ownB v' := fun hm => by
    rcases ownB_new hl _ hm with h' | h'
    · exact o1 h'
    · have := hlt _ hbf
      have := h1.size
      omega
  have hoo : ∀ i ∈ ownB x.2.vs, i ∉ ownB v' := fun i hi hm => by
    rcases ownB_new hl _ hm with h' | h'
    · exact (o3 i h' hi)
    · have := hlt i (Pl.mem_foot.2 (.inr (.inr hi)))
      have := h1.size
      omega
  have htt2 : Turns (x.2.b :: ownB x.2.va) w (w2.setCell ⟨x.2.b, 2, none⟩ v') := (ht2.mono (fun i hi => List.mem_cons.2 (.inr hi))).trans ht3 (fun i hi => by rw [List.mem_singleton] at hi; rw [hi]; exact .inl (List.mem_cons_self ..))
  have hno : ∀ g, x.2.vs.ownBlock = some g → g ∉ x.2.b :: ownB x.2.va := fun g hg hm => by
    rcases List.mem_cons.1 hm with e | hm
    · exact o2 (e ▸ ownB_mem hg)
    · exact o3 g hm (ownB_mem hg)
  refine ⟨h.turned (x' := ({ x.1 with inn := x.1.inn ++ l }, { x.2 with va := v' })) rfl rfl htt ?_ ?_ ?_ (fun i hi => ?_) ?_, htt, hc2⟩
  · rw [heap_cell _ hc2]
    simp [cellsC]
  · exact ho.turns ht3 fun g hg hm => hb' (by rw [List.mem_singleton] at hm; rw [← hm]; exact ownB_mem hg)
  · exact c3.turns htt2 fun g hg hm => hno g hg hm
  · rcases Pl.mem_foot.1 hi with h' | h' | h'
    · rw [h']; exact .inl hbf
    · rcases ownB_new hl _ h' with h' | h'
      · exact .inl (hsub _ h')
      · exact .inr (by rw [h']; exact h1.size)
    · exact .inl (Pl.mem_foot.2 (.inr (.inr h')))
  · unfold Pl.foot
    rw [List.nodup_cons, List.nodup_append]
    simp only [List.mem_append, not_or]
    exact ⟨⟨hb', o2⟩, ownB_nodup _, ownB_nodup _, fun i hi j hj e => by subst e; exact hoo i hj hi⟩
set_option maxRecDepth 100000 in
set_option maxHeartbeats 2000000 in
theorem arrive_ok {B : Nat} {w : World} {bn bm : Nat} {most last : Int} {L1 L2 : List NE} {x : NE} (h : NetAt B w bn bm most last (L1 ++ x :: L2)) (hk : (Lit.int .i64 (x.1.id : Int)).wf = true) (hz : x.1.st = 2) (Bx : Nat) (A : Option Addr) (l : List UInt8) (c : Nat) (hr : BReads w Bx A l) (hBx : Bx ≤ w.heap.size) (hc : A = none → c = 0)
    (hlen : x.1.inn.length + l.length ≤ 1000000) :
    Calls Try.prog 16 #[.pointer (some ⟨bn, 0, none⟩), .int .i64 (x.1.id : Int), .slice A l.length c] w fun e w' => e = .returned (.int .i64 0) ∧ (∃ v', NetAt B w' bn bm most last (L1 ++ ({ x.1 with inn := x.1.inn ++ l }, { x.2 with va := v' }) :: L2)) ∧ Turns x.2.foot w w' := by
  have hA := h.alloc (.cells #[.int .i64 2] 58)
  have hin := in_any hA (x.1.id : Int) hk w.heap.size 1 [2] (by simp) (st_one w 2 _)
  rw [getE_self h.rise, show inV (some x) [2] = .tuple #[.pointer (some ⟨x.2.b, 0, none⟩), .int .i64 0] from if_pos (by rw [hz]; simp)] at hin
  change Calls _ _ #[_, _, .slice _ 1 1] _ _ at hin
  have HI := Lib.hid hin
  have HO := Lib.hid hA.conn.2.1
  obtain ⟨_, k1, k2, k3, k4⟩ := cell_conn hA.conn.1
  have HR := Lib.hid (show BReads (w.alloc (.cells #[.int .i64 2] 58)) Bx A l from hr.keep fun p hp => World.cell?_alloc_lt _ _ p (Nat.lt_of_lt_of_le hp hBx))
  have HL := Lib.hid hlen
  have HCC := Lib.hid hc
  have HBS := Lib.hid (show B ≤ (w.alloc (.cells #[.int .i64 2] 58)).heap.size from Nat.le_trans (h.lt bn (by simp)).1 (Nat.le_trans (Nat.le_of_lt (h.lt bn (by simp)).2) (by simp)))
  have HM := Lib.hid (fun (w2 : World) (v' : Value) ho ht hl => h.arrived (w2 := w2) (v' := v') (l := l) (Turns.alloc w (.cells #[.int .i64 2] 58)) ho ht hl)
  have kf := k4 2
  clear hin hA h hr hlen hz hk hc k4
  go_enter Try.func16, Try.ntmps16
  go_wp2_with fail
  refine (Hid.out HI).mono ?_
  rintro e w1 ⟨rfl, rfl⟩
  go_wp2_with (at_builtin; refine wpList_append_bytesT rfl (.tmp 22) (.tmp 23) rfl B x.2.va x.1.inn rfl HO.out Bx A l c rfl HR.out HCC.out HL.out HBS.out ?_; intro v2 w2 hown2 ht2 hl2; have HM2 := Lib.hid (HM.out w2 v2 hown2 ht2 hl2); obtain ⟨_, _, _, _, f4⟩ := cell_conn HM2.out.2.2; have f4' := f4 2; have f5 := (cell_conn HM2.out.2.2).2.2.1; have HOW := Lib.hid hown2; clear hown2 ht2 hl2 f4; obtain ⟨A5, c5, rfl, _⟩ := HOW.out.reads; clear HOW; generalize (x.1.inn ++ l).length = NN at HM2 ⊢)
  go_ret
  exact ⟨rfl, ⟨_, HM2.out.1⟩, HM2.out.2.1⟩
set_option maxRecDepth 100000 in
set_option maxHeartbeats 2000000 in
theorem arrive_no {B : Nat} {w : World} {bn bm : Nat} {most last : Int} {L : List NE} (h : NetAt B w bn bm most last L) (k : Int) (hk : (Lit.int .i64 k).wf = true) (hz : codeV (getE L k) [2] ≠ 0) (v : Value) :
    Calls Try.prog 16 #[.pointer (some ⟨bn, 0, none⟩), .int .i64 k, v] w fun e w' => e = .returned (.int .i64 (codeV (getE L k) [2])) ∧ Turns [] w w' := by
  have hA := h.alloc (.cells #[.int .i64 2] 58)
  have hin := in_any hA k hk w.heap.size 1 [2] (by simp) (st_one w 2 _)
  change Calls _ _ #[_, _, .slice _ 1 1] _ _ at hin
  generalize hg : getE L k = o at hin hz ⊢
  obtain ⟨c, hc, hcv, hiv⟩ : ∃ c : Int, ((c : Int) == 0) = false ∧ codeV o [2] = c ∧ inV o [2] = .tuple #[.pointer none, .int .i64 c] := by
    cases o with
    | none => exact ⟨8, rfl, rfl, rfl⟩
    | some x =>
      by_cases hm : x.1.st ∈ [2]
      · exact absurd (if_pos hm) hz
      · exact ⟨7, rfl, if_neg hm, if_neg hm⟩
  rw [hiv] at hin
  rw [hcv]
  have HI := Lib.hid hin
  clear hin hiv hcv hg hz h hA
  go_enter Try.func16, Try.ntmps16
  go_wp2_with fail
  refine (Hid.out HI).mono ?_
  rintro e w1 ⟨rfl, rfl⟩
  go_wp2
  go_ret
  exact ⟨rfl, Turns.alloc _ _⟩
/-- Bytes come behind a connection's. -/
theorem NetAt.sendd {B : Nat} {w w1 w2 : World} {bn bm : Nat} {most last : Int} {L1 L2 : List NE} {x : NE} {v' : Value} {l : List UInt8} (h : NetAt B w bn bm most last (L1 ++ x :: L2)) (h1 : Turns [] w w1) (ho : Owned B w2 v' (x.1.out ++ l)) (ht : Turns (ownB x.2.vs) w1 w2)
    (hl : v'.ownBlock = x.2.vs.ownBlock ∨ v'.ownBlock = some w1.heap.size) :
    NetAt B (w2.setCell ⟨x.2.b, 3, none⟩ v') bn bm most last (L1 ++ ({ x.1 with out := x.1.out ++ l }, { x.2 with vs := v' }) :: L2) ∧ Turns x.2.foot w (w2.setCell ⟨x.2.b, 3, none⟩ v') ∧ w2.heap[x.2.b]? = some (.cells (cellsC x) 60 (0, 0)) := by
  obtain ⟨c1, c2, c3⟩ := h.conn
  obtain ⟨o1, o2, o3⟩ := own_off h
  have hlt := fun i hi => (h.footOf.2 i hi).2
  have ht2 : Turns (ownB x.2.vs) w w2 := (h1.mono (by simp)).trans ht (fun i hi => .inl hi)
  have hc2 : w2.heap[x.2.b]? = some (.cells (cellsC x) 60 (0, 0)) := (ht2.block _ (lt_of_block c1) o2).trans c1
  have hsub : ∀ i ∈ ownB x.2.vs, i ∈ x.2.foot := fun i hi => Pl.mem_foot.2 (.inr (.inr hi))
  have hbf : x.2.b ∈ x.2.foot := Pl.mem_foot.2 (.inl rfl)
  have ht3 : Turns [x.2.b] w2 (w2.setCell ⟨x.2.b, 3, none⟩ v') := Turns.setCell _ _ _ (by simp)
  have htt : Turns x.2.foot w (w2.setCell ⟨x.2.b, 3, none⟩ v') := (ht2.mono hsub).trans ht3 (fun i hi => by rw [List.mem_singleton] at hi; rw [hi]; exact .inl hbf)
  have hb' : x.2.b ∉ ownB v' := fun hm => by
    rcases ownB_new hl _ hm with h' | h'
    · exact o2 h'
    · have := hlt _ hbf
      have := h1.size
      omega
  have hoo : ∀ i ∈ ownB x.2.va, i ∉ ownB v' := fun i hi hm => by
    rcases ownB_new hl _ hm with h' | h'
    · exact (o3 i hi h')
    · have := hlt i (Pl.mem_foot.2 (.inr (.inl hi)))
      have := h1.size
      omega
  have htt2 : Turns (x.2.b :: ownB x.2.vs) w (w2.setCell ⟨x.2.b, 3, none⟩ v') := (ht2.mono (fun i hi => List.mem_cons.2 (.inr hi))).trans ht3 (fun i hi => by rw [List.mem_singleton] at hi; rw [hi]; exact .inl (List.mem_cons_self ..))
  have hno : ∀ g, x.2.va.ownBlock = some g → g ∉ x.2.b :: ownB x.2.vs := fun g hg hm => by
    rcases List.mem_cons.1 hm with e | hm
    · exact o1 (e ▸ ownB_mem hg)
    · exact o3 g (ownB_mem hg) hm
  refine ⟨h.turned (x' := ({ x.1 with out := x.1.out ++ l }, { x.2 with vs := v' })) rfl rfl htt ?_ ?_ ?_ (fun i hi => ?_) ?_, htt, hc2⟩
  · rw [heap_cell _ hc2]
    simp [cellsC]
  · exact c2.turns htt2 fun g hg hm => hno g hg hm
  · exact ho.turns ht3 fun g hg hm => hb' (by rw [List.mem_singleton] at hm; rw [← hm]; exact ownB_mem hg)
  · rcases Pl.mem_foot.1 hi with h' | h' | h'
    · rw [h']; exact .inl hbf
    · exact .inl (Pl.mem_foot.2 (.inr (.inl h')))
    · rcases ownB_new hl _ h' with h' | h'
      · exact .inl (hsub _ h')
      · exact .inr (by rw [h']; exact h1.size)
  · unfold Pl.foot
    rw [List.nodup_cons, List.nodup_append]
    simp only [List.mem_append, not_or]
    exact ⟨⟨o1, hb'⟩, ownB_nodup _, ownB_nodup _, fun i hi j hj e => by subst e; exact hoo i hi hj⟩
set_option maxRecDepth 100000 in
set_option maxHeartbeats 2000000 in
theorem send_ok {B : Nat} {w : World} {bn bm : Nat} {most last : Int} {L1 L2 : List NE} {x : NE} (h : NetAt B w bn bm most last (L1 ++ x :: L2)) (hk : (Lit.int .i64 (x.1.id : Int)).wf = true) (hz : x.1.st = 2) (Bx : Nat) (A : Option Addr) (l : List UInt8) (c : Nat) (hr : BReads w Bx A l) (hBx : Bx ≤ w.heap.size) (hc : A = none → c = 0)
    (hlen : x.1.out.length + l.length ≤ 1000000) :
    Calls Try.prog 27 #[.pointer (some ⟨bn, 0, none⟩), .int .i64 (x.1.id : Int), .slice A l.length c] w fun e w' => e = .returned (.int .i64 0) ∧ (∃ v', NetAt B w' bn bm most last (L1 ++ ({ x.1 with out := x.1.out ++ l }, { x.2 with vs := v' }) :: L2)) ∧ Turns x.2.foot w w' := by
  have hA := h.alloc (.cells #[.int .i64 2] 58)
  have hin := in_any hA (x.1.id : Int) hk w.heap.size 1 [2] (by simp) (st_one w 2 _)
  rw [getE_self h.rise, show inV (some x) [2] = .tuple #[.pointer (some ⟨x.2.b, 0, none⟩), .int .i64 0] from if_pos (by rw [hz]; simp)] at hin
  change Calls _ _ #[_, _, .slice _ 1 1] _ _ at hin
  have HI := Lib.hid hin
  have HO := Lib.hid hA.conn.2.2
  obtain ⟨_, k1, k2, k3, k4⟩ := cell_conn hA.conn.1
  have HR := Lib.hid (show BReads (w.alloc (.cells #[.int .i64 2] 58)) Bx A l from hr.keep fun p hp => World.cell?_alloc_lt _ _ p (Nat.lt_of_lt_of_le hp hBx))
  have HL := Lib.hid hlen
  have HCC := Lib.hid hc
  have HBS := Lib.hid (show B ≤ (w.alloc (.cells #[.int .i64 2] 58)).heap.size from Nat.le_trans (h.lt bn (by simp)).1 (Nat.le_trans (Nat.le_of_lt (h.lt bn (by simp)).2) (by simp)))
  have HM := Lib.hid (fun (w2 : World) (v' : Value) ho ht hl => h.sendd (w2 := w2) (v' := v') (l := l) (Turns.alloc w (.cells #[.int .i64 2] 58)) ho ht hl)
  have kf := k4 3
  clear hin hA h hr hlen hz hk hc k4
  go_enter Try.func27, Try.ntmps27
  go_wp2_with fail
  refine (Hid.out HI).mono ?_
  rintro e w1 ⟨rfl, rfl⟩
  go_wp2_with (at_builtin; refine wpList_append_bytesT rfl (.tmp 22) (.tmp 23) rfl B x.2.vs x.1.out rfl HO.out Bx A l c rfl HR.out HCC.out HL.out HBS.out ?_; intro v2 w2 hown2 ht2 hl2; have HM2 := Lib.hid (HM.out w2 v2 hown2 ht2 hl2); obtain ⟨_, _, _, _, f4⟩ := cell_conn HM2.out.2.2; have f4' := f4 3; have f5 := (cell_conn HM2.out.2.2).2.2.2.1; have HOW := Lib.hid hown2; clear hown2 ht2 hl2 f4; obtain ⟨A5, c5, rfl, _⟩ := HOW.out.reads; clear HOW; generalize (x.1.out ++ l).length = NN at HM2 ⊢)
  go_ret
  exact ⟨rfl, ⟨_, HM2.out.1⟩, HM2.out.2.1⟩
set_option maxRecDepth 100000 in
set_option maxHeartbeats 2000000 in
theorem send_no {B : Nat} {w : World} {bn bm : Nat} {most last : Int} {L : List NE} (h : NetAt B w bn bm most last L) (k : Int) (hk : (Lit.int .i64 k).wf = true) (hz : codeV (getE L k) [2] ≠ 0) (v : Value) :
    Calls Try.prog 27 #[.pointer (some ⟨bn, 0, none⟩), .int .i64 k, v] w fun e w' => e = .returned (.int .i64 (codeV (getE L k) [2])) ∧ Turns [] w w' := by
  have hA := h.alloc (.cells #[.int .i64 2] 58)
  have hin := in_any hA k hk w.heap.size 1 [2] (by simp) (st_one w 2 _)
  change Calls _ _ #[_, _, .slice _ 1 1] _ _ at hin
  generalize hg : getE L k = o at hin hz ⊢
  obtain ⟨c, hc, hcv, hiv⟩ : ∃ c : Int, ((c : Int) == 0) = false ∧ codeV o [2] = c ∧ inV o [2] = .tuple #[.pointer none, .int .i64 c] := by
    cases o with
    | none => exact ⟨8, rfl, rfl, rfl⟩
    | some x =>
      by_cases hm : x.1.st ∈ [2]
      · exact absurd (if_pos hm) hz
      · exact ⟨7, rfl, if_neg hm, if_neg hm⟩
  rw [hiv] at hin
  rw [hcv]
  have HI := Lib.hid hin
  clear hin hiv hcv hg hz h hA
  go_enter Try.func27, Try.ntmps27
  go_wp2_with fail
  refine (Hid.out HI).mono ?_
  rintro e w1 ⟨rfl, rfl⟩
  go_wp2
  go_ret
  exact ⟨rfl, Turns.alloc _ _⟩
end Go.Proofs.Ytlelemjmknbnaaa
