/- The program's Read, look, Left and State. -/
import Derived.Test.YtlelemjmknbnaaaNetIO
namespace Go.Proofs.Ytlelemjmknbnaaa
open Go.RowKit

theorem field_1 (a b c d : Value) (w : World) : (Instr.field 60 (.agg #[a, b, c, d]) 1).run Try.prog w = .ok b w := by kernel_rfl
theorem field_2 (a b c d : Value) (w : World) : (Instr.field 60 (.agg #[a, b, c, d]) 2).run Try.prog w = .ok c w := by kernel_rfl
theorem field_3 (a b c d : Value) (w : World) : (Instr.field 60 (.agg #[a, b, c, d]) 3).run Try.prog w = .ok d w := by kernel_rfl
/-- What arrived is read. -/
theorem NetAt.emptied {B : Nat} {w : World} {bn bm : Nat} {most last : Int} {L1 L2 : List NE} {x : NE} (h : NetAt B w bn bm most last (L1 ++ x :: L2)) :
    NetAt B (w.setCell ⟨x.2.b, 2, none⟩ (.slice none 0 0)) bn bm most last (L1 ++ ({ x.1 with inn := [] }, { x.2 with va := .slice none 0 0 }) :: L2) := by
  obtain ⟨c1, c2, c3⟩ := h.conn
  obtain ⟨o1, o2, _⟩ := own_off h
  have ht : Turns [x.2.b] w (w.setCell ⟨x.2.b, 2, none⟩ (.slice none 0 0)) := Turns.setCell _ _ _ (by simp)
  refine h.turned (x' := ({ x.1 with inn := [] }, { x.2 with va := .slice none 0 0 })) rfl rfl (ht.mono (fun i hi => by rw [List.mem_singleton] at hi; rw [hi]; exact Pl.mem_foot.2 (.inl rfl))) ?_ (World.ownsRow_nil _ _ _ _) ?_ (fun i hi => .inl ?_) ?_
  · rw [heap_cell _ c1]
    simp [cellsC]
  · exact c3.turns ht fun g hg hm => o2 (by rw [List.mem_singleton] at hm; rw [← hm]; exact ownB_mem hg)
  · rcases Pl.mem_foot.1 hi with h' | h' | h'
    · exact Pl.mem_foot.2 (.inl h')
    · simp [ownB, Value.ownBlock] at h'
    · exact Pl.mem_foot.2 (.inr (.inr h'))
  · unfold Pl.foot
    simp only [ownB, Value.ownBlock, Option.toList_none, List.nil_append, List.nodup_cons]
    exact ⟨o2, ownB_nodup _⟩
set_option maxRecDepth 100000 in
set_option maxHeartbeats 2000000 in
theorem read_ok {B : Nat} {w : World} {bn bm : Nat} {most last : Int} {L1 L2 : List NE} {x : NE} (h : NetAt B w bn bm most last (L1 ++ x :: L2)) (hk : (Lit.int .i64 (x.1.id : Int)).wf = true) :
    Calls Try.prog 18 #[.pointer (some ⟨bn, 0, none⟩), .int .i64 (x.1.id : Int)] w fun e w' => e = .returned x.2.va ∧ NetAt B w' bn bm most last (L1 ++ ({ x.1 with inn := [] }, { x.2 with va := .slice none 0 0 }) :: L2) ∧ Turns [x.2.b] w w' := by
  have hf := find_any h (x.1.id : Int) hk
  rw [getE_self h.rise] at hf
  have HF := Lib.hid hf
  change Hid (Calls _ _ _ _ fun e w' => e = .returned (.tuple #[.pointer (some ⟨x.2.b, 0, none⟩), .int .i64 0]) ∧ w = w') at HF
  obtain ⟨_, _, k2, _, k4⟩ := cell_conn h.conn.1
  have kf := k4 2
  have HN := Lib.hid h.emptied
  have HT : Hid (Turns [x.2.b] w (w.setCell ⟨x.2.b, 2, none⟩ (.slice none 0 0))) := Lib.hid (Turns.setCell _ _ _ (by simp))
  obtain ⟨A, cap, hva, _⟩ := h.conn.2.1.reads
  rw [hva] at k2
  have HV := Lib.hid hva
  generalize x.1.inn.length = NN at k2 HV
  clear hf k4 h hk hva
  go_enter Try.func18, Try.ntmps18
  go_wp2_with fail
  refine (Hid.out HF).mono ?_
  rintro e w1 ⟨rfl, rfl⟩
  go_wp2
  go_ret
  exact ⟨by rw [HV.out]; rfl, HN.out, HT.out⟩
set_option maxRecDepth 100000 in
set_option maxHeartbeats 2000000 in
theorem read_no {B : Nat} {w : World} {bn bm : Nat} {most last : Int} {L : List NE} (h : NetAt B w bn bm most last L) (k : Int) (hk : (Lit.int .i64 k).wf = true) (hg : getE L k = none) :
    Calls Try.prog 18 #[.pointer (some ⟨bn, 0, none⟩), .int .i64 k] w fun e w' => e = .returned (.slice none 0 0) ∧ w = w' := by
  have hf := find_any h k hk
  rw [hg] at hf
  have HF := Lib.hid hf
  change Hid (Calls _ _ _ _ fun e w' => e = .returned (.tuple #[.pointer none, .int .i64 8]) ∧ w = w') at HF
  clear hf h hk hg
  go_enter Try.func18, Try.ntmps18
  go_wp2_with fail
  refine (Hid.out HF).mono ?_
  rintro e w1 ⟨rfl, rfl⟩
  go_wp2
  go_ret
  exact ⟨rfl, rfl⟩
set_option maxRecDepth 100000 in
set_option maxHeartbeats 2000000 in
theorem look_some {B : Nat} {w : World} {bn bm : Nat} {most last : Int} {L1 L2 : List NE} {x : NE} (h : NetAt B w bn bm most last (L1 ++ x :: L2)) (hk : (Lit.int .i64 (x.1.id : Int)).wf = true) :
    Calls Try.prog 33 #[.pointer (some ⟨bn, 0, none⟩), .int .i64 (x.1.id : Int)] w fun e w' => e = .returned (connV x) ∧ Turns [] w w' := by
  have hA := h.alloc (.cells #[.string ⟨#[]⟩, .int .i64 0, .slice none 0 0, .slice none 0 0] 60)
  have hf := find_any hA (x.1.id : Int) hk
  rw [getE_self h.rise] at hf
  have HF := Lib.hid hf
  change Hid (Calls _ _ _ _ fun e w' => e = .returned (.tuple #[.pointer (some ⟨x.2.b, 0, none⟩), .int .i64 0]) ∧ _ = w') at HF
  obtain ⟨k0, k1, k2, k3, _⟩ := cell_conn hA.conn.1
  obtain ⟨A, cap, hva, _⟩ := h.conn.2.1.reads
  obtain ⟨A', cap', hvs, _⟩ := h.conn.2.2.reads
  rw [hva] at k2
  rw [hvs] at k3
  have HV := Lib.hid (show connV x = .agg #[.string ⟨x.1.host.toArray⟩, .int .i64 x.1.st, .slice A x.1.inn.length cap, .slice A' x.1.out.length cap'] by unfold connV; rw [hva, hvs])
  generalize x.1.inn.length = NN at k2 HV
  generalize x.1.out.length = MM at k3 HV
  generalize x.1.host = hh at k0 HV
  generalize x.1.st = ss at k1 HV
  clear hf h hk hva hvs hA
  go_enter Try.func33, Try.ntmps33
  go_wp2_with fail
  refine (Hid.out HF).mono ?_
  rintro e w1 ⟨rfl, rfl⟩
  go_wp2
  exact bodyPost_ret (v := .agg #[.string ⟨hh.toArray⟩, .int .i64 ss, .slice A NN cap, .slice A' MM cap']) (by simp [results, Try.f33, go_sem]) rfl ⟨by rw [HV.out], Turns.alloc _ _⟩
set_option maxRecDepth 100000 in
set_option maxHeartbeats 2000000 in
theorem look_none {B : Nat} {w : World} {bn bm : Nat} {most last : Int} {L : List NE} (h : NetAt B w bn bm most last L) (k : Int) (hk : (Lit.int .i64 k).wf = true) (hg : getE L k = none) :
    Calls Try.prog 33 #[.pointer (some ⟨bn, 0, none⟩), .int .i64 k] w fun e w' => e = .returned emptyC ∧ Turns [] w w' := by
  have hA := h.alloc (.cells #[.string ⟨#[]⟩, .int .i64 0, .slice none 0 0, .slice none 0 0] 60)
  have hf := find_any hA k hk
  rw [hg] at hf
  have HF := Lib.hid hf
  change Hid (Calls _ _ _ _ fun e w' => e = .returned (.tuple #[.pointer none, .int .i64 8]) ∧ _ = w') at HF
  clear hf h hk hA hg
  go_enter Try.func33, Try.ntmps33
  go_wp2_with fail
  refine (Hid.out HF).mono ?_
  rintro e w1 ⟨rfl, rfl⟩
  go_wp2
  exact bodyPost_ret (v := .agg #[.string ⟨#[]⟩, .int .i64 0, .slice none 0 0, .slice none 0 0]) (by simp [results, Try.f33, go_sem]) rfl ⟨rfl, Turns.alloc _ _⟩
set_option maxRecDepth 100000 in
set_option maxHeartbeats 2000000 in
theorem left_some {B : Nat} {w : World} {bn bm : Nat} {most last : Int} {L1 L2 : List NE} {x : NE} (h : NetAt B w bn bm most last (L1 ++ x :: L2)) (hk : (Lit.int .i64 (x.1.id : Int)).wf = true) :
    Calls Try.prog 40 #[.pointer (some ⟨bn, 0, none⟩), .int .i64 (x.1.id : Int)] w fun e w' => e = .returned (.int .i64 (x.1.inn.length : Int)) ∧ Turns [] w w' := by
  have HL := Lib.hid (look_some h hk)
  obtain ⟨A, cap, hva, _⟩ := h.conn.2.1.reads
  unfold connV at HL
  rw [hva] at HL
  clear h hk hva
  have hfd := field_2
  go_enter Try.func40, Try.ntmps40
  go_wp2_with fail
  refine (Hid.out HL).mono ?_
  rintro e w1 ⟨rfl, ht⟩
  have HT := Lib.hid ht
  clear ht
  go_wp2
  go_ret
  exact ⟨rfl, HT.out⟩
set_option maxRecDepth 100000 in
set_option maxHeartbeats 2000000 in
theorem left_none {B : Nat} {w : World} {bn bm : Nat} {most last : Int} {L : List NE} (h : NetAt B w bn bm most last L) (k : Int) (hk : (Lit.int .i64 k).wf = true) (hg : getE L k = none) :
    Calls Try.prog 40 #[.pointer (some ⟨bn, 0, none⟩), .int .i64 k] w fun e w' => e = .returned (.int .i64 0) ∧ Turns [] w w' := by
  have HL := Lib.hid (look_none h k hk hg)
  unfold emptyC at HL
  clear h hk hg
  have hfd := field_2
  go_enter Try.func40, Try.ntmps40
  go_wp2_with fail
  refine (Hid.out HL).mono ?_
  rintro e w1 ⟨rfl, ht⟩
  have HT := Lib.hid ht
  clear ht
  go_wp2
  go_ret
  exact ⟨rfl, HT.out⟩
end Go.Proofs.Ytlelemjmknbnaaa
