/- The document's New and Dial. -/
import Derived.Test.YtlelemjmknbnaaaDocIO
import Derived.Test.YtlelemjmknbnaaaRowK2
namespace Go.Proofs.Ytlelemjmknbnaaa
open Go.RowKit

def newR (id : Nat) (host : List UInt8) : Rc := ⟨id, host, 1, [], 0, []⟩
set_option maxRecDepth 100000 in
set_option maxHeartbeats 1000000 in
theorem rnew_any (B : Nat) (most : Int) (w : World) (hB : B ≤ w.heap.size) :
    Calls Try.prog 7 #[.int .i64 most] w fun e w' => e = .returned (.pointer (some ⟨w.heap.size, 0, none⟩)) ∧ RefAt B w' w.heap.size (.slice none 0 0) (max most 0) 0 [] ∧ Turns [] w w' := by
  have HT := Lib.hid (fun o => Turns.alloc (F := []) w o)
  have HN : Hid (RefAt B (w.alloc (.cells #[.slice none 0 0, .int .i64 (max most 0), .int .i64 0] 50)) w.heap.size (.slice none 0 0) (max most 0) 0 []) := Lib.hid
    ⟨heap_alloc_new w _, World.ownsRow_nil _ _ _ _, hB, by simp [ownB, Value.ownBlock], fun r hr => (by cases hr), List.Pairwise.nil, fun r hr => (by cases hr)⟩
  by_cases hm : 0 ≤ most
  · have hx : max most 0 = most := by omega
    rw [hx] at HN ⊢
    go_enter Try.func7, Try.ntmps7
    go_wp2
    go_ret
    exact ⟨rfl, HN.out, HT.out _⟩
  · have hx : max most 0 = 0 := by omega
    rw [hx] at HN ⊢
    go_enter Try.func7, Try.ntmps7
    go_wp2
    go_ret
    exact ⟨rfl, HN.out, HT.out _⟩
set_option maxRecDepth 100000 in
set_option maxHeartbeats 2000000 in
theorem rdial_full {B : Nat} {w : World} {rn : Nat} {v : Value} {most : Int} {N : Nat} {rs : List Rc} (h : RefAt B w rn v most N rs) (host : ByteArray) (hl : most ≤ (rs.length : Int)) :
    Calls Try.prog 19 #[.pointer (some ⟨rn, 0, none⟩), .string host] w fun e w' => e = .returned (.tuple #[.int .i64 0, .int .i64 6]) ∧ Turns [] w w' := by
  obtain ⟨c0, c1, _, _⟩ := h.cells
  obtain ⟨A, c, rfl, _⟩ := h.form
  have hge : decide (most ≤ (rs.length : Int)) = true := by simpa using hl
  clear h
  go_enter Try.func19, Try.ntmps19
  go_wp2
  go_quiet (fail)
  go_wp2
  go_ret2
  exact ⟨rfl, (Turns.refl [] w).drewN _⟩
theorem RefAt.dialled {B : Nat} {w w' : World} {rn : Nat} {v v' : Value} {most : Int} {N : Nat} {rs : List Rc} (h : RefAt B w rn v most N rs) (host : List UInt8) (hd : w'.heap[rn]? = some (.cells #[v', .int .i64 most, .int .i64 ((N : Int) + 1)] 50 (0, 0)))
    (ho : rcK.Own B w' v' (rs ++ [newR (N + 1) host])) (hoff : rn ∉ ownB v') : RefAt B w' rn v' most (N + 1) (rs ++ [newR (N + 1) host]) := by
  refine ⟨by rw [hd]; rfl, ho, h.low, hoff, fun r hr => ?_, ?_, fun r hr => ?_⟩
  · rcases List.mem_append.1 hr with h1 | h1
    · have := h.ids r h1
      omega
    · rw [List.mem_singleton] at h1
      subst h1
      show 1 ≤ N + 1 ∧ N + 1 ≤ N + 1
      omega
  · rw [List.pairwise_append]
    refine ⟨h.rise, by simp, fun y hy z hz => ?_⟩
    rw [List.mem_singleton] at hz
    subst hz
    have := (h.ids y hy).2
    show y.id < N + 1
    omega
  · rcases List.mem_append.1 hr with h1 | h1
    · exact h.ats r h1
    · rw [List.mem_singleton] at h1
      subst h1
      exact Nat.le_refl 0
theorem RefAt.hung {B : Nat} {w W1 w3 : World} {rn : Nat} {v v' : Value} {most : Int} {N : Nat} {rs : List Rc} (h : RefAt B w rn v most N rs) (host : List UInt8) (h1 : Turns [rn] w W1) (hs : W1.heap.size = w.heap.size) (hb : Below W1.heap.size W1 w3) (hd : w3.heap[rn]? = some (.cells #[v, .int .i64 most, .int .i64 ((N : Int) + 1)] 50 (0, 0)))
    (ho : rcK.Own w.heap.size w3 v' ([] ++ rs ++ [newR (N + 1) host])) (hg : ∀ i ∈ ownB v', W1.heap.size ≤ i) :
    RefAt B (w3.setCell ⟨rn, 0, none⟩ v') rn v' most (N + 1) (rs ++ [newR (N + 1) host]) ∧ Turns [rn] w (w3.setCell ⟨rn, 0, none⟩ v') ∧ (w3.setCell ⟨rn, 0, none⟩ v').cell? ⟨rn, 2, none⟩ = some (.int .i64 ((N : Int) + 1)) ∧ ∀ i ∈ ownB v', w.heap.size ≤ i := by
  have hrn : rn < w.heap.size := lt_of_block h.head
  have hoff : rn ∉ ownB v' := fun hm => by have := hg rn hm; omega
  have ht : Turns [rn] w3 (w3.setCell ⟨rn, 0, none⟩ v') := Turns.setCell _ _ _ (List.mem_singleton.2 rfl)
  have hh : (w3.setCell ⟨rn, 0, none⟩ v').heap[rn]? = some (.cells #[v', .int .i64 most, .int .i64 ((N : Int) + 1)] 50 (0, 0)) := by
    have := heap_cell (w := w3) (j := 0) v' hd
    simpa using this
  refine ⟨h.dialled host hh ?_ hoff, ?_, by simp [World.cell?, hh], fun i hi => by have := hg i hi; omega⟩
  · rw [List.nil_append] at ho
    exact (ho.turns ht (fun g hg' hm => by rw [List.mem_singleton] at hm; subst hm; exact hoff (ownB_mem hg'))).low (Nat.le_trans h.low (Nat.le_of_lt hrn))
  · exact (h1.trans (Turns.of_below hb (Nat.le_refl _)) (by simp)).trans ht (fun i hi => .inl hi)
set_option maxRecDepth 100000 in
set_option maxHeartbeats 4000000 in
theorem rdial_ok {B : Nat} {w : World} {rn : Nat} {v : Value} {most : Int} {N : Nat} {rs : List Rc} (h : RefAt B w rn v most N rs) (host : ByteArray) (hN : N ≤ 1000000000) (hl : (rs.length : Int) < most) (hr : rs.length ≤ 1000) :
    Calls Try.prog 19 #[.pointer (some ⟨rn, 0, none⟩), .string host] w fun e w' => e = .returned (.tuple #[.int .i64 ((N : Int) + 1), .int .i64 0]) ∧ (∃ v', RefAt B w' rn v' most (N + 1) (rs ++ [newR (N + 1) host.data.toList]) ∧ ∀ i ∈ ownB v', w.heap.size ≤ i) ∧ Turns [rn] w w' := by
  obtain ⟨c0, c1, c2, hf⟩ := h.cells
  obtain ⟨A, c, hv, hrd, _⟩ := h.own.reads
  have f2 := hf 2
  have hlt : decide (most ≤ (rs.length : Int)) = false := by simp; omega
  have hN0 : (0 : Int) ≤ (N : Int) := by omega
  have hN1 : (N : Int) ≤ 1000000000 := by omega
  have hoff : ∀ a, A = some a → a.block ∉ [rn] := fun a ha hm => by
    subst ha
    rw [List.mem_singleton] at hm
    exact h.off (by rw [hv]; simp [ownB, Value.ownBlock, hm])
  have H := Lib.hid h
  have hbl : rn < w.heap.size := lt_of_block h.head
  rw [hv] at c0
  have HV := Lib.hid hv
  have HRD := Lib.hid hrd
  have HOF := Lib.hid hoff
  have HLR := Lib.hid hr
  have HBL := Lib.hid hbl
  obtain ⟨NN, hNN⟩ : ∃ NN, NN = rs.length := ⟨_, rfl⟩
  rw [← hNN] at c0 hlt
  have HNN := Lib.hid hNN.symm
  clear h hf hv hrd hoff hl hr hbl hNN
  go_enter Try.func19, Try.ntmps19
  go_wp2
  go_quiet (fail)
  go_wp2
  obtain ⟨W1, hW1⟩ : ∃ W1, W1 = (w.drewN nq).setCell ⟨rn, 2, none⟩ (.int .i64 ((N : Int) + 1)) := ⟨_, rfl⟩
  have HT1 := Lib.hid (show Turns [rn] w W1 from by rw [hW1]; exact ((Turns.refl [rn] w).drewN nq).trans (Turns.setCell _ _ _ (List.mem_singleton.2 rfl)) (fun i hi => .inl hi))
  have HD1 := Lib.hid (show W1.heap[rn]? = some (.cells #[v, .int .i64 most, .int .i64 ((N : Int) + 1)] 50 (0, 0)) by
    rw [hW1]
    have := heap_cell (w := w.drewN nq) (j := 2) (.int .i64 ((N : Int) + 1)) H.out.head
    simpa using this)
  have HSZ := Lib.hid (show W1.heap.size = w.heap.size by rw [hW1]; simp)
  have HC : Hid (∀ W, Turns [] W1 W → W.cell? ⟨rn, 0, none⟩ = some (.slice A NN c) ∧ W.cell? ⟨rn, 2, none⟩ = some (.int .i64 ((N : Int) + 1)) ∧ W.frozen? ⟨rn, 0, none⟩ = false ∧ rcK.Reads W w.heap.size A rs) := Lib.hid (fun W ht => by
    have hb := (ht.block rn (lt_of_block HD1.out) (by simp)).trans HD1.out
    refine ⟨by simp [World.cell?, hb, HV.out, HNN.out], by simp [World.cell?, hb], by simp [World.frozen?, hb], ?_⟩
    exact (HRD.out.turns (Nat.le_refl _) HT1.out HOF.out).turns (by rw [HSZ.out]; exact Nat.le_refl _) ht (by simp))
  obtain ⟨e0, e2, e3, _⟩ := HC.out W1 (Turns.refl _ _)
  obtain ⟨g0, g2, g3, _⟩ := HC.out (W1.alloc (.cells #[.int .i64 ((N : Int) + 1), .string host, .int .i64 1, .string ⟨#[]⟩, .int .i64 0, .string ⟨#[]⟩] 67)) (Turns.alloc (F := []) _ _)
  have HL1 := Lib.hid (show ([] : List Rc).length + rs.length ≤ 100000 by have := HLR.out; simp; omega)
  have HL2 := Lib.hid (show ([] ++ rs).length + [newR (N + 1) host.data.toList].length ≤ 100000 by have := HLR.out; simp; omega)
  have HSL : Hid (∀ W, Turns [] W1 W → w.heap.size ≤ W.heap.size) := Lib.hid (fun W ht => by have := ht.size; have := HSZ.out; omega)
  rw [← hW1]
  clear hW1 c0 c1 c2 f2 hlt
  go_region_law (first | (refine EK.step_append_all rcOk (by rfl) (.const (.slice none 0 0)) (.tmp 27) (by rfl) w.heap.size (.slice none 0 0) [] (by rfl) (World.ownsRow_nil _ _ _ _) w.heap.size A rs NN c HNN.out (by kernel_rfl) (HC.out _ (by first | exact Turns.refl _ _ | exact (Turns.refl _ _).drew | exact ((Turns.refl [] _).drew.trans (Turns.alloc (F := []) _ _) (by simp)) | exact Turns.alloc (F := []) _ _)).2.2.2 HL1.out (HSL.out _ (by first | exact Turns.refl _ _ | exact (Turns.refl _ _).drew | exact ((Turns.refl [] _).drew.trans (Turns.alloc (F := []) _ _) (by simp)) | exact Turns.alloc (F := []) _ _)) ?_; intro v2 w2 hown2 ht2 hf2; have HT2 := Lib.hid (show Turns [] W1 w2 from Turns.trans (by first | exact Turns.refl _ _ | exact (Turns.refl _ _).drew | exact ((Turns.refl [] _).drew.trans (Turns.alloc (F := []) _ _) (by simp)) | exact Turns.alloc (F := []) _ _) (ht2.mono (G := []) (by simp [ownB, Value.ownBlock])) (by simp)); have HO2 := Lib.hid hown2; have HG2 := Lib.hid (show ∀ i ∈ ownB v2, W1.heap.size ≤ i from fun i hi => by rcases hf2 i hi with h1 | h1; (simp [ownB, Value.ownBlock] at h1); (subst h1; simp)); obtain ⟨m0, m2, m3, _⟩ := HC.out w2 HT2.out; have HLT2 := Lib.hid ht2; obtain ⟨m0', m2', m3', _⟩ := HC.out (w2.alloc (.cells #[.int .i64 ((N : Int) + 1), .string host, .int .i64 1, .string ⟨#[]⟩, .int .i64 0, .string ⟨#[]⟩] 67)) (HT2.out.trans (Turns.alloc (F := []) _ _) (by simp)); clear hown2 ht2 hf2) | (refine EK.step_append_all rcOk (by rfl) (.tmp 28) (.tmp 35) (by rfl) w.heap.size v2 ([] ++ rs) (by kernel_rfl) (by first | exact HO2.out | exact HO2.out.alloc _) _ _ [newR (N + 1) host.data.toList] 1 1 rfl (by rfl) (by first | exact EK.Reads.lone rcOk (newR (N + 1) host.data.toList) _ _ (by rfl) rfl | exact (EK.Reads.lone (W := W1.drew) (p := W1.heap.size) rcOk (newR (N + 1) host.data.toList) _ 67 (by rfl) rfl).turns (by simp) HLT2.out (by simp [ownB, Value.ownBlock])) HL2.out (by first | exact HSL.out w2 HT2.out | exact HSL.out _ (HT2.out.trans (Turns.alloc (F := []) _ _) (by simp))) ?_; intro v3 w3 hown3 ht3 hf3; have HO3 := Lib.hid hown3; have HB3 := Lib.hid (show Below W1.heap.size W1 w3 from by first | exact (HT2.out.below (by simp) (Nat.le_refl _)).trans (ht3.below HG2.out HT2.out.size) | exact ((HT2.out.trans (Turns.alloc (F := []) _ _) (by simp)).below (by simp) (Nat.le_refl _)).trans (ht3.below HG2.out (HT2.out.trans (Turns.alloc (F := []) _ _) (by simp)).size)); have HG3 := Lib.hid (show ∀ i ∈ ownB v3, W1.heap.size ≤ i from fun i hi => by rcases hf3 i hi with h1 | h1; (exact HG2.out i h1); (subst h1; first | exact HT2.out.size | exact (HT2.out.trans (Turns.alloc (F := []) _ _) (by simp)).size)); have HD3 := Lib.hid ((HB3.out.block rn (lt_of_block HD1.out)).trans HD1.out); have n0 : w3.cell? ⟨rn, 0, none⟩ = some (.slice A NN c) := (by simp [World.cell?, HD3.out, HV.out, HNN.out]); have n3 : w3.frozen? ⟨rn, 0, none⟩ = false := (by simp [World.frozen?, HD3.out]); obtain ⟨A3, c3, rfl, _⟩ := hown3.reads; obtain ⟨M, hM⟩ : ∃ M, M = ([] ++ rs ++ [newR (N + 1) host.data.toList]).length := ⟨_, rfl⟩; rw [← hM] at HG3 HO3 ⊢; clear hown3 ht3 hf3 hM))
  all_goals
    have HE := Lib.hid (H.out.hung host.data.toList HT1.out HSZ.out HB3.out HD3.out HO3.out HG3.out)
    have p2 := HE.out.2.2.1
    clear e0 e2 e3 g0 g2 g3 m0 m2 m3 m0' m2' m3' n0 n3
    go_wp2
    go_ret2
    exact ⟨rfl, ⟨_, HE.out.1, HE.out.2.2.2⟩, HE.out.2.1⟩
end Go.Proofs.Ytlelemjmknbnaaa
