/- The program's Next: the first timer. -/
import Derived.Test.YtaepgcicgmbbeaaWhRange
import Derived.Test.YtaepgcicgmbbeaaWhCmp
import Derived.Test.YtaepgcicgmbbeaaWhReachW
import Derived.Test.YtaepgcicgmbbeaaWhNilA
import Derived.Test.YtaepgcicgmbbeaaWhRSame
namespace Go.Proofs.Ytaepgcicgmbbeaa
open Go.RowKit Go.Sort Go.Shelf

/-- The least of a list that is not empty, as the library goes over it. -/
def minL (m : Fi) (l : List Fi) : Fi := l.foldl (fun m x => if cfF x m < 0 then x else m) m
theorem cfF_neg (x y : Fi) : cfF x y < 0 ↔ ltF x y = true := by
  have h := ltOf_cfF x y
  unfold ltOf at h
  rw [← h]
  simp
theorem minL_spec : ∀ (l : List Fi) (m : Fi), (minL m l = m ∨ minL m l ∈ l) ∧ (∀ y, y = m ∨ y ∈ l → ltF y (minL m l) = false)
  | [], m => ⟨.inl rfl, fun y hy => by rcases hy with rfl | hy; exact ltF_irrefl _; cases hy⟩
  | x :: l, m => by
    have e : minL m (x :: l) = minL (if cfF x m < 0 then x else m) l := rfl
    rw [e]
    by_cases hx : cfF x m < 0
    · rw [if_pos hx]
      obtain ⟨h1, h2⟩ := minL_spec l x
      have hlt := (cfF_neg x m).1 hx
      refine ⟨.inr (h1.elim (fun h => by rw [h]; exact List.mem_cons_self ..) (List.mem_cons_of_mem _)), fun y hy => ?_⟩
      rcases hy with rfl | hy
      · cases h3 : ltF y (minL x l) with
        | false => rfl
        | true => have := h2 x (.inl rfl); rw [ltF_trans hlt h3] at this; cases this
      · rcases List.mem_cons.1 hy with rfl | hy
        · exact h2 _ (.inl rfl)
        · exact h2 y (.inr hy)
    · rw [if_neg hx]
      obtain ⟨h1, h2⟩ := minL_spec l m
      have hlt : ltF x m = false := by
        cases h : ltF x m with
        | false => rfl
        | true => exact absurd ((cfF_neg x m).2 h) hx
      refine ⟨h1.imp id (List.mem_cons_of_mem _), fun y hy => ?_⟩
      rcases hy with rfl | hy
      · exact h2 _ (.inl rfl)
      · rcases List.mem_cons.1 hy with rfl | hy
        · cases h3 : ltF y (minL m l) with
          | false => rfl
          | true =>
            have h4 := h2 m (.inl rfl)
            cases h5 : ltF m y with
            | true => rw [ltF_trans h5 h3] at h4; cases h4
            | false => have := ltF_total hlt h5; subst this; rw [h3] at h4; cases h4
        · exact h2 y (.inr hy)
theorem grow_turns (w : World) (q : Nat) (os : Array Obj) : Turns [] w (grow (w.drewN q) os) := by
  refine ⟨rfl, rfl, rfl, ?_, fun i hi _ => ?_⟩
  · show w.heap.size ≤ (grow (w.drewN q) os).heap.size
    simp [grow]
  · rw [heap_grow_old _ _ (show i < (w.drewN q).heap.size from hi)]
    rfl
theorem compare_t (x y : Fi) (w : World) : Calls Try.prog 31 #[.agg #[.int .i64 x.1, .int .i64 x.2], .agg #[.int .i64 y.1, .int .i64 y.2]] w fun e w' => e = .returned (.int .i64 (cfF x y)) ∧ Turns [] w w' :=
  (compare_any x y w).mono fun _ _ ⟨h, q, os, e⟩ => ⟨h, by rw [e]; exact grow_turns w q os⟩
theorem minL_snoc (m x : Fi) (l : List Fi) : minL m (l ++ [x]) = if cfF x (minL m l) < 0 then x else minL m l := by unfold minL; rw [List.foldl_append]; rfl
set_option maxRecDepth 100000 in
set_option maxHeartbeats 4000000 in
theorem minf_any (g cap : Nat) (x : Fi) (l : List Fi) (w : World) (hl : (x :: l).length ≤ 1000) (hg : g < w.heap.size) (hc : ∀ j y, (x :: l)[j]? = some y → w.cell? ⟨g, j * 2, none⟩ = some (.int .i64 y.1) ∧ w.cell? ⟨g, j * 2 + 1, none⟩ = some (.int .i64 y.2)) :
    Calls Try.prog 30 #[.slice (some ⟨g, 0, none⟩) (x :: l).length cap, .func (.func 31) #[] #[]] w fun e w' => e = .returned (.agg #[.int .i64 (minL x l).1, .int .i64 (minL x l).2]) ∧ Turns [] w w' := by
  obtain ⟨n, hn⟩ : ∃ n, n = (x :: l).length := ⟨_, rfl⟩
  have hn1 : n = l.length + 1 := by rw [hn]; rfl
  have f1 : decide ((n : Int) < 1) = false := by simp; omega
  have f2 : (0 : Int) < (n : Int) := by omega
  have f2' : 0 < n := by omega
  obtain ⟨d0, d1⟩ := hc 0 x rfl
  simp only [Nat.zero_mul, Nat.zero_add] at d0 d1
  have HC := Lib.hid hc
  have HG := Lib.hid hg
  have HN := Lib.hid hn1
  have HL := Lib.hid hl
  rw [← hn]
  clear hc hn1 hl hn
  go_enter Try.func30, Try.ntmps30
  go_wp2
  obtain ⟨W0, hW0⟩ : ∃ W0, W0 = (w.alloc (.cells #[.int .i64 0, .int .i64 0] 44)).alloc (.cells #[.int .i64 x.1, .int .i64 x.2] 44) := ⟨_, rfl⟩
  have HS : Hid (W0.heap[w.heap.size + 1]? = some (.cells #[.int .i64 x.1, .int .i64 x.2] 44 (0, 0)) ∧ W0.heap[w.heap.size]? = some (.cells #[.int .i64 0, .int .i64 0] 44 (0, 0)) ∧ Turns [] w W0) := Lib.hid (by
    rw [hW0]
    refine ⟨?_, ?_, (Turns.alloc (F := []) w _).then (Turns.alloc (F := []) _ _)⟩
    · have := heap_alloc_new (w.alloc (.cells #[.int .i64 0, .int .i64 0] 44)) (.cells #[.int .i64 x.1, .int .i64 x.2] 44)
      simpa using this
    · exact ((Turns.alloc (F := []) (w.alloc (.cells #[.int .i64 0, .int .i64 0] 44)) _).block _ (by simp) (by simp)).trans (heap_alloc_new w _))
  rw [← hW0]
  clear hW0 d0 d1 f1 f2 f2'
  go_loopw [6] (fun u wr => ∃ k : Nat, u = .int .i64 (k : Int) ∧ k ≤ n ∧ Hid (1 ≤ k ∧ ∃ m, m = minL x (l.take (k - 1)) ∧ wr.heap[w.heap.size + 1]? = some (.cells #[.int .i64 m.1, .int .i64 m.2] 44 (0, 0)) ∧ wr.heap[w.heap.size]? = some (.cells #[.int .i64 0, .int .i64 0] 44 (0, 0)) ∧ Turns [] w wr)) (fun u _ => n - (intOf u).toNat)
  case atStart => exact ⟨1, rfl, by have := HN.out; omega, Lib.hid ⟨Nat.le_refl _, x, rfl, HS.out⟩⟩
  case round =>
    obtain ⟨k, rfl, hk, HQ⟩ := hrel
    obtain ⟨hk1, m, hm, q1, q2, q3⟩ := HQ.out
    have hn1000 : n ≤ 1000 := by have h1 : (x :: l).length = l.length + 1 := rfl; have := HL.out; have := HN.out; omega
    have HNL := Lib.hid hn1000
    by_cases hlt : k < n
    · obtain ⟨y, hy⟩ : ∃ y, l[k - 1]? = some y := ⟨_, List.getElem?_eq_getElem (by have := HN.out; omega)⟩
      have hc2 := HC.out k y (by rw [show k = (k - 1) + 1 by omega, List.getElem?_cons_succ]; exact hy)
      have d0 := (q3.cell hg (by simp) (k * 2)).trans hc2.1
      have d1 := (q3.cell hg (by simp) (k * 2 + 1)).trans hc2.2
      have hml : w.heap.size + 1 < wr.heap.size := lt_of_block q1
      have HM : Hid (minL x (l.take (k + 1 - 1)) = if cfF y m < 0 then y else m) := Lib.hid (by
        rw [show k + 1 - 1 = (k - 1) + 1 by omega, List.take_add_one, hy]
        show minL x (l.take (k - 1) ++ [y]) = _
        rw [minL_snoc, ← hm])
      have HCM : Hid (∀ X, Turns [] wr X → Calls Try.prog 31 #[.agg #[.int .i64 y.1, .int .i64 y.2], .agg #[.int .i64 m.1, .int .i64 m.2]] X fun e w' => e = .returned (.int .i64 (cfF y m)) ∧ Turns [] wr w') := Lib.hid (fun X ht => (compare_t y m X).mono fun _ _ h => ⟨h.1, ht.then h.2⟩)
      have e0 : wr.cell? ⟨w.heap.size + 1, 0, none⟩ = some (.int .i64 m.1) := by simp [World.cell?, q1]
      have e1 : wr.cell? ⟨w.heap.size + 1, 1, none⟩ = some (.int .i64 m.2) := by simp [World.cell?, q1]
      have HH := Lib.hid (And.intro q1 (And.intro q2 q3))
      have HML := Lib.hid hml
      have hi1 : (k : Int) < (n : Int) := by omega
      have hi0 : (0 : Int) ≤ (k : Int) := by omega
      have HWK := Lib.hid (wrapS (i := k) (by omega))
      have HKL := Lib.hid hlt
      clear q1 q2 q3 hc2 hm hn1000 hml hy HQ
      by_cases hneg : cfF y m < 0
      · have hd : decide (cfF y m < 0) = true := by simpa using hneg
        rw [if_pos hneg] at HM
        generalize cfF y m = r at HCM hd
        clear hneg
        go_wp2
        go_region_law (go_simp; go_at_call 31; refine (HCM.out _ (by first | exact Turns.refl _ _ | exact (Turns.refl _ _).drew)).mono ?_; rintro e w3 ⟨rfl, t3⟩; have HT3 := Lib.hid t3; clear t3)
        all_goals
          have g0 := (HT3.out.cell (Nat.lt_of_lt_of_le hg HH.out.2.2.size) (by simp) (k * 2)).trans d0
          have g1 := (HT3.out.cell (Nat.lt_of_lt_of_le hg HH.out.2.2.size) (by simp) (k * 2 + 1)).trans d1
          have hh := (HT3.out.block _ HML.out (by simp)).trans HH.out.1
          have m0 : w3.cell? ⟨w.heap.size + 1, 0, none⟩ = some (.int .i64 m.1) := by simp [World.cell?, hh]
          have m1 : w3.cell? ⟨w.heap.size + 1, 1, none⟩ = some (.int .i64 m.2) := by simp [World.cell?, hh]
          have mf : ∀ j, w3.frozen? ⟨w.heap.size + 1, j, none⟩ = false := fun j => by simp [World.frozen?, hh]
          have mf0 := mf 0
          have mf1 := mf 1
          have HHH := Lib.hid hh
          clear hh mf d0 d1 e0 e1
          go_wp2
          go_roundw
          case rel =>
            have t4 : Turns [w.heap.size + 1] w3 ((w3.setCell ⟨w.heap.size + 1, 0, none⟩ (.int .i64 y.1)).setCell ⟨w.heap.size + 1, 1, none⟩ (.int .i64 y.2)) := (Turns.setCell (F := [w.heap.size + 1]) w3 ⟨w.heap.size + 1, 0, none⟩ _ (by simp)).then (Turns.setCell (F := [w.heap.size + 1]) _ ⟨w.heap.size + 1, 1, none⟩ _ (by simp))
            refine ⟨k + 1, congrArg (Value.int .i64) HWK.out, HKL.out, Lib.hid ⟨by omega, y, HM.out.symm, ?_, ?_, (HH.out.2.2.then HT3.out).trans t4 fun i hi => .inr (by simp at hi; omega)⟩⟩
            · have h1 := heap_setCell_same w3 (w.heap.size + 1) 0 _ _ (.int .i64 y.1) HHH.out
              have h2 := heap_setCell_same _ (w.heap.size + 1) 1 _ _ (.int .i64 y.2) h1
              simpa using h2
            · exact (t4.block _ (by have := HT3.out.size; have := HML.out; omega) (by simp)).trans ((HT3.out.block _ (by have := HML.out; omega) (by simp)).trans HH.out.2.1)
          case measure => exact measS HKL.out HWK.out
      · have hd : decide (cfF y m < 0) = false := by simpa using hneg
        rw [if_neg hneg] at HM
        generalize cfF y m = r at HCM hd
        clear hneg
        go_wp2
        go_region_law (go_simp; go_at_call 31; refine (HCM.out _ (by first | exact Turns.refl _ _ | exact (Turns.refl _ _).drew)).mono ?_; rintro e w3 ⟨rfl, t3⟩; have HT3 := Lib.hid t3; clear t3)
        all_goals
          clear d0 d1 e0 e1
          go_wp2
          go_roundw
          case rel => exact ⟨k + 1, congrArg (Value.int .i64) HWK.out, HKL.out, Lib.hid ⟨by omega, m, HM.out.symm, (HT3.out.block _ HML.out (by simp)).trans HH.out.1, (HT3.out.block _ (by have := HML.out; omega) (by simp)).trans HH.out.2.1, HH.out.2.2.then HT3.out⟩⟩
          case measure => exact measS HKL.out HWK.out
    · have hge : decide ((k : Int) < (n : Int)) = false := by simp; omega
      have hkn : k = n := by omega
      have e0 : wr.cell? ⟨w.heap.size + 1, 0, none⟩ = some (.int .i64 m.1) := by simp [World.cell?, q1]
      have e1 : wr.cell? ⟨w.heap.size + 1, 1, none⟩ = some (.int .i64 m.2) := by simp [World.cell?, q1]
      have g0 : wr.cell? ⟨w.heap.size, 0, none⟩ = some (.int .i64 0) := by simp [World.cell?, q2]
      have g1 : wr.cell? ⟨w.heap.size, 1, none⟩ = some (.int .i64 0) := by simp [World.cell?, q2]
      have gf : ∀ j, wr.frozen? ⟨w.heap.size, j, none⟩ = false := fun j => by simp [World.frozen?, q2]
      have gf0 := gf 0
      have gf1 := gf 1
      have HM : Hid (m = minL x l) := Lib.hid (by rw [hm, List.take_of_length_le (by have := HN.out; omega)])
      have HT : Hid (∀ u v, Turns [] w ((wr.setCell ⟨w.heap.size, 0, none⟩ u).setCell ⟨w.heap.size, 1, none⟩ v)) := Lib.hid (fun u v => (q3.trans (Turns.setCell (F := [w.heap.size]) wr ⟨w.heap.size, 0, none⟩ u (by simp)) fun i hi => .inr (by simp at hi; omega)).trans (Turns.setCell (F := [w.heap.size]) _ ⟨w.heap.size, 1, none⟩ v (by simp)) fun i hi => .inr (by simp at hi; omega))
      have HHF : Hid (((wr.setCell ⟨w.heap.size, 0, none⟩ (.int .i64 m.1)).setCell ⟨w.heap.size, 1, none⟩ (.int .i64 m.2)).heap[w.heap.size]? = some (.cells #[.int .i64 m.1, .int .i64 m.2] 44 (0, 0))) := Lib.hid (by
        have h1 := heap_setCell_same wr w.heap.size 0 _ _ (.int .i64 m.1) q2
        have h2 := heap_setCell_same _ w.heap.size 1 _ _ (.int .i64 m.2) h1
        simpa using h2)
      clear gf q1 q2 q3 hm HQ
      go_wp2
      refine bodyPost_ret (results_cell_row (P := Try.prog) rfl _ _ w.heap.size 44 #[.int .i64 m.1, .int .i64 m.2] (0, 0) _ rfl HHF.out fi_struct rfl (by kernel_rfl)) rfl ?_
      exact ⟨by rw [HM.out], HT.out _ _⟩
theorem part_le {a b : Int} (h : a ≤ b) : part a ≤ part b := by unfold part; omega
end Go.Proofs.Ytaepgcicgmbbeaa
