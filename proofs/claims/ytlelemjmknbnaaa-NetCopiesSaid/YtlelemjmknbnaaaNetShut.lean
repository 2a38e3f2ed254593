/- The program's Reset and Close, and Dial where there is no room. -/
import Derived.Test.YtlelemjmknbnaaaNetOps
namespace Go.Proofs.Ytlelemjmknbnaaa
open Go.RowKit

theorem conn_free {w : World} {b : Nat} {x : NE} (h : w.heap[b]? = some (.cells (cellsC x) 60 (0, 0))) : w.frozen? ⟨b, 2, none⟩ = false ∧ ∃ u, w.cell? ⟨b, 2, none⟩ = some u := ⟨(cell_conn h).2.2.2.2 2, _, (cell_conn h).2.2.1⟩
set_option maxRecDepth 100000 in
set_option maxHeartbeats 2000000 in
theorem reset_ok {B : Nat} {w : World} {bn bm : Nat} {most last : Int} {L1 L2 : List NE} {x : NE} (h : NetAt B w bn bm most last (L1 ++ x :: L2)) (hk : (Lit.int .i64 (x.1.id : Int)).wf = true) (hz : x.1.st = 2 ∨ x.1.st = 3) :
    Calls Try.prog 23 #[.pointer (some ⟨bn, 0, none⟩), .int .i64 (x.1.id : Int)] w (TurnPost B w bn bm most last L1 L2 x ({ x.1 with st := 5, inn := [] }, { x.2 with va := .slice none 0 0 })) := by
  have HC := Lib.hid (turn_ok (h.alloc (.cells #[.int .i64 2, .int .i64 3] 58)) hk 5 w.heap.size 2 [2, 3] (by simp) (st_two w 2 3 _) (by rcases hz with hz | hz <;> simp [hz]))
  change Hid (Calls _ _ #[_, _, _, .slice _ 2 2] _ _) at HC
  have HK := Lib.hid hk
  clear h hk hz
  go_enter Try.func23, Try.ntmps23
  go_wp2_with fail
  refine (Hid.out HC).mono ?_
  rintro e w1 ⟨rfl, hn, ht⟩
  have hlk := hn.lookup HK.out (getE_self (x := ({ x.1 with st := 5 }, x.2)) hn.rise)
  have hc2 := hn.c2
  obtain ⟨_, _, k2, _, k4⟩ := cell_conn hn.conn.1
  have kf := k4 2
  obtain ⟨A, cap, hva, _⟩ := hn.conn.2.1.reads
  simp only at k2 hva kf hlk
  rw [hva] at k2
  have HE := Lib.hid hn.emptied
  have HT := Lib.hid (turns_later ht)
  generalize x.1.inn.length = NN at k2
  clear hn ht k4 hva
  go_wp2
  go_ret
  exact ⟨rfl, HE.out, HT.out.trans (Turns.setCell (F := x.2.foot) _ _ _ (Pl.mem_foot.2 (.inl rfl))) (fun i hi => .inl hi)⟩
set_option maxRecDepth 100000 in
set_option maxHeartbeats 2000000 in
theorem reset_no {B : Nat} {w : World} {bn bm : Nat} {most last : Int} {L : List NE} (h : NetAt B w bn bm most last L) (k : Int) (hk : (Lit.int .i64 k).wf = true) (hz : codeV (getE L k) [2, 3] ≠ 0) :
    Calls Try.prog 23 #[.pointer (some ⟨bn, 0, none⟩), .int .i64 k] w fun e w' => e = .returned (.int .i64 (codeV (getE L k) [2, 3])) ∧ Turns [] w w' := by
  have hc := turn_no (h.alloc (.cells #[.int .i64 2, .int .i64 3] 58)) k hk 5 w.heap.size 2 [2, 3] (by simp) (st_two w 2 3 _) hz
  change Calls _ _ #[_, _, _, .slice _ 2 2] _ _ at hc
  generalize hcv : codeV (getE L k) [2, 3] = c at hc hz ⊢
  have hcc : (c == 0) = false := beq_eq_false_iff_ne.2 hz
  have HC := Lib.hid hc
  clear h hk hc hcv hz
  go_enter Try.func23, Try.ntmps23
  go_wp2_with fail
  refine (Hid.out HC).mono ?_
  rintro e w1 ⟨rfl, rfl⟩
  go_wp2
  go_ret
  exact ⟨rfl, Turns.alloc _ _⟩
theorem getE_drop {L1 L2 : List NE} {x : NE} (hr : (L1 ++ x :: L2).Pairwise fun x y => x.1.id < y.1.id) (k : Int) : getE (L1 ++ L2) k = if k = (x.1.id : Int) then none else getE (L1 ++ x :: L2) k := by
  rw [List.pairwise_append, List.pairwise_cons] at hr
  by_cases hk : k = (x.1.id : Int)
  · rw [if_pos hk]
    unfold getE
    rw [List.find?_eq_none]
    intro y hy
    rw [decide_eq_true_eq]
    rcases List.mem_append.1 hy with h1 | h1
    · have := hr.2.2 y h1 x (List.mem_cons_self ..)
      omega
    · have := hr.2.1.1 y h1
      omega
  · rw [if_neg hk]
    unfold getE
    rw [List.find?_append, List.find?_append, List.find?_cons_of_neg (by rw [decide_eq_true_eq]; exact fun h => hk h.symm)]
theorem Keys.drop {D : DataW Unit} {L1 L2 : List NE} {x : NE} (h : Keys D (L1 ++ x :: L2)) (ht : Maps.Tidy D) (hr : (L1 ++ x :: L2).Pairwise fun x y => x.1.id < y.1.id) : Keys (D.del (.int .i64 (x.1.id : Int))) (L1 ++ L2) := by
  refine ⟨fun k => ?_, fun k => ?_, ?_⟩
  · rw [getE_drop hr]
    by_cases hk : k = (x.1.id : Int)
    · rw [if_pos hk, hk, Maps.has_del_same]
      rfl
    · rw [if_neg hk, Maps.has_del_other (by simpa using hk), h.has k]
  · rw [getE_drop hr]
    by_cases hk : k = (x.1.id : Int)
    · rw [if_pos hk, hk, Maps.atKey_del_same]
    · rw [if_neg hk, Maps.atKey_del_other (by simpa using hk), h.at_ k]
  · have h1 := Maps.size_del (k := .int .i64 (x.1.id : Int)) ht
    rw [h.has, getE_self hr, h.size] at h1
    simp at h1 ⊢
    omega
theorem NetAt.shut {B : Nat} {w w' : World} {bn bm n : Nat} {D : DataW Unit} {most last : Int} {L1 L2 : List NE} {x : NE} (h : NetAt B w bn bm most last (L1 ++ x :: L2)) (hn : (n : Int) ≤ last) (hk : Keys D (L1 ++ x :: L2)) (ho : w.ownsMap Try.prog 3 pelem bm n D)
    (hm : w'.ownsMap Try.prog 3 pelem bm n (D.del (.int .i64 (x.1.id : Int)))) (ht : Turns [bm] w w') : NetAt B w' bn bm most last (L1 ++ L2) := by
  have hap := h.apart
  have hsub : ∀ y, y ∈ L1 ++ L2 → y ∈ L1 ++ x :: L2 := fun y hy => by
    rcases List.mem_append.1 hy with h1 | h1
    · exact List.mem_append.2 (.inl h1)
    · exact List.mem_append.2 (.inr (List.mem_cons.2 (.inr h1)))
  have hsf : (footL (L1 ++ L2)).Sublist (footL (L1 ++ x :: L2)) := by
    rw [footL_mid]
    unfold footL
    rw [List.flatMap_append]
    exact List.Sublist.append (List.Sublist.refl _) (List.sublist_append_right _ _)
  have hne : bn ≠ bm := fun e => by
    rw [e] at hap
    simp at hap
  have hbm : ∀ y ∈ L1 ++ L2, ∀ i ∈ y.2.foot, i ∉ [bm] := fun y hy i hi hm' => by
    rw [List.mem_singleton] at hm'
    subst hm'
    have := (List.nodup_cons.1 (List.nodup_cons.1 hap).2).1
    exact this (mem_footL.2 ⟨y, hsub y hy, hi⟩)
  refine ⟨(ht.block bn (lt_of_block h.head) (by simpa using hne)).trans h.head, ⟨n, _, hm, hn, hk.drop (ho.tidy keyed) h.rise⟩, fun y hy => ?_, ⟨h.low.1, h.low.2.1, fun y hy => h.low.2.2 y (hsub y hy)⟩, ?_, fun y hy => h.ids y (hsub y hy), ?_⟩
  · obtain ⟨c1, c2, c3⟩ := h.conns y (hsub y hy)
    have hf := hbm y hy
    exact ⟨(ht.block _ (lt_of_block c1) (hf _ (Pl.mem_foot.2 (.inl rfl)))).trans c1, c2.turns ht fun g hg => hf g (Pl.mem_foot.2 (.inr (.inl (ownB_mem hg)))), c3.turns ht fun g hg => hf g (Pl.mem_foot.2 (.inr (.inr (ownB_mem hg))))⟩
  · exact hap.sublist ((hsf.cons_cons _).cons_cons _)
  · have hr := h.rise
    exact hr.sublist (List.Sublist.append (List.Sublist.refl _) (List.sublist_cons_self _ _))
set_option maxRecDepth 100000 in
set_option maxHeartbeats 2000000 in
theorem close_ok {B : Nat} {w : World} {bn bm : Nat} {most last : Int} {L1 L2 : List NE} {x : NE} (h : NetAt B w bn bm most last (L1 ++ x :: L2)) (hk : (Lit.int .i64 (x.1.id : Int)).wf = true) :
    Calls Try.prog 30 #[.pointer (some ⟨bn, 0, none⟩), .int .i64 (x.1.id : Int)] w fun e w' => e = .returned (.int .i64 0) ∧ NetAt B w' bn bm most last (L1 ++ L2) ∧ Turns [bm] w w' := by
  have hf := find_any h (x.1.id : Int) hk
  rw [getE_self h.rise] at hf
  have HF := Lib.hid hf
  change Hid (Calls _ _ _ _ fun e w' => e = .returned (.tuple #[.pointer (some ⟨x.2.b, 0, none⟩), .int .i64 0]) ∧ w = w') at HF
  have c2 := h.c2
  obtain ⟨n, D, ho, hn, hks⟩ := h.hmap
  have HO := Lib.hid ho
  have HKY := Lib.hid (Go.Maps.keyOf_int_mk Try.underlying3 hk : Go.keyOf Try.prog 3 (.int .i64 (x.1.id : Int)) = some (.int .i64 (x.1.id : Int)))
  have HS := Lib.hid (fun w' hm ht => h.shut (w' := w') hn hks ho hm ht)
  clear hf h hk ho hn hks
  go_enter Try.func30, Try.ntmps30
  go_wp2_with fail
  refine (Hid.out HF).mono ?_
  rintro e w1 ⟨rfl, rfl⟩
  go_wp2_with (at_delete; refine wpList_delete_own _ rfl _ _ 45 3 rfl 62 keyed Try.underlying45 pelem bm n D rfl HO.out _ _ rfl HKY.out ?_; intro w1 hown1 hturn1; have HT1 := Lib.hid (Turns.of_grown hturn1.grown); have HN1 := Lib.hid (HS.out w1 hown1 HT1.out); clear hown1 hturn1)
  go_ret
  exact ⟨rfl, HN1.out, HT1.out⟩
set_option maxRecDepth 100000 in
set_option maxHeartbeats 2000000 in
theorem close_no {B : Nat} {w : World} {bn bm : Nat} {most last : Int} {L : List NE} (h : NetAt B w bn bm most last L) (k : Int) (hk : (Lit.int .i64 k).wf = true) (hg : getE L k = none) :
    Calls Try.prog 30 #[.pointer (some ⟨bn, 0, none⟩), .int .i64 k] w fun e w' => e = .returned (.int .i64 8) ∧ w' = w := by
  have hf := find_any h k hk
  rw [hg] at hf
  have HF := Lib.hid hf
  change Hid (Calls _ _ _ _ fun e w' => e = .returned (.tuple #[.pointer none, .int .i64 8]) ∧ w = w') at HF
  clear hf h hk hg
  go_enter Try.func30, Try.ntmps30
  go_wp2_with fail
  refine (Hid.out HF).mono ?_
  rintro e w1 ⟨rfl, rfl⟩
  go_wp2
  go_ret
  exact ⟨rfl, rfl⟩
set_option maxRecDepth 100000 in
set_option maxHeartbeats 2000000 in
theorem dial_full {B : Nat} {w : World} {bn bm : Nat} {most last : Int} {L : List NE} (h : NetAt B w bn bm most last L) (host : ByteArray) (hl : most ≤ (L.length : Int)) :
    Calls Try.prog 14 #[.pointer (some ⟨bn, 0, none⟩), .string host] w fun e w' => e = .returned (.tuple #[.int .i64 0, .int .i64 6]) ∧ Turns [] w w' := by
  have c0 := h.c0
  have c2 := h.c2
  obtain ⟨n, D, ho, hn, hk⟩ := h.hmap
  have hlen : ∀ ty q, (Builtin.len_ #[45] ty #[.map (some bm)]).run Try.prog (w.drewN q) = .ok (.int .i64 (L.length : Int)) (w.drewN q) := fun ty q => by
    have hq : (w.drewN q).ownsMap Try.prog 3 pelem bm n D := ho
    rw [hq.len Try.underlying45 ty, hk.size]
  have hlen0 : ∀ ty, (Builtin.len_ #[45] ty #[.map (some bm)]).run Try.prog w = .ok (.int .i64 (L.length : Int)) w := fun ty => by
    rw [ho.len Try.underlying45 ty, hk.size]
  have hge : decide (most ≤ (L.length : Int)) = true := by simpa using hl
  clear h ho hk hn
  go_enter Try.func14, Try.ntmps14
  go_wp2
  go_quiet (fail)
  go_wp2
  go_ret2
  exact ⟨rfl, (Turns.refl [] w).drewN _⟩
end Go.Proofs.Ytlelemjmknbnaaa
