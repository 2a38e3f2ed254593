/- The document's one: a sample, of whatever series. -/
import Derived.Test.YtcjmieofmogeiaaStReg9N
import Derived.Test.YtcjmieofmogeiaaStOne
namespace Go.Proofs.Ytcjmieofmogeiaa
open Go.RowKit

/-- The walk's boxes, and the new last one's. -/
structure NewB (w : World) (x : Smp) (owner : Int) (bn : Nat) (W : World) : Prop where
  one : OneB w x W
  nb : W.heap[bn]? = some (.cells #[.string x.name, .int .i64 x.val, .int .i64 x.tm, .bool x.cnt, .bool true, .int .i64 owner] 88)
  low : w.heap.size + 2 ≤ bn
section
variable {B : Nat} {w : World} {rv : Nat} {v : Value} {most : Nat} {L : List One}
theorem NewB.next {x : Smp} {owner : Int} {bn : Nat} {W W' : World} (h : NewB w x owner bn W) (ht : Turns [] W W') : NewB w x owner bn W' :=
  ⟨h.one.next ht (by simp), (ht.block _ (lt_of_block h.nb) (by simp)).trans h.nb, h.low⟩
theorem NewB.facts {x : Smp} {owner : Int} {bn : Nat} {W : World} (h : NewB w x owner bn W) : W.cell? ⟨bn, 0, none⟩ = some (.string x.name) ∧ W.cell? ⟨bn, 1, none⟩ = some (.int .i64 x.val) ∧ W.cell? ⟨bn, 2, none⟩ = some (.int .i64 x.tm) ∧ W.cell? ⟨bn, 3, none⟩ = some (.bool x.cnt) ∧ W.cell? ⟨bn, 4, none⟩ = some (.bool true) ∧ W.cell? ⟨bn, 5, none⟩ = some (.int .i64 owner) := by
  have e := h.nb
  unfold World.cell?
  simp only [e]
  exact ⟨rfl, rfl, rfl, rfl, rfl, rfl⟩
theorem one_facts {x : Smp} {W : World} (h1 : W.heap[w.heap.size]? = some (.cells #[.string x.name, .int .i64 x.val, .int .i64 x.tm, .bool x.cnt] 52)) (h2 : W.heap[w.heap.size + 1]? = some zSnO) : W.cell? ⟨w.heap.size, 0, none⟩ = some (.string x.name) ∧ W.cell? ⟨w.heap.size, 1, none⟩ = some (.int .i64 x.val) ∧ W.cell? ⟨w.heap.size, 2, none⟩ = some (.int .i64 x.tm) ∧ W.cell? ⟨w.heap.size, 3, none⟩ = some (.bool x.cnt) ∧ W.cell? ⟨w.heap.size + 1, 0, none⟩ = some (.string ⟨#[]⟩) ∧ W.cell? ⟨w.heap.size + 1, 1, none⟩ = some (.int .i64 0) ∧ W.cell? ⟨w.heap.size + 1, 2, none⟩ = some (.int .i64 0) ∧ W.cell? ⟨w.heap.size + 1, 3, none⟩ = some (.bool false) ∧ W.cell? ⟨w.heap.size + 1, 4, none⟩ = some (.int .i64 0) ∧ W.cell? ⟨w.heap.size + 1, 5, none⟩ = some (.bool false) ∧ W.cell? ⟨w.heap.size + 1, 6, none⟩ = some (.int .i64 0) ∧ ∀ j, W.frozen? ⟨w.heap.size + 1, j, none⟩ = false := by
  unfold zSnO at h2
  refine ⟨?_, ?_, ?_, ?_, ?_, ?_, ?_, ?_, ?_, ?_, ?_, ?_⟩
  all_goals first | (unfold World.cell?; simp only [h1, h2]; rfl) | (intro j; unfold World.frozen?; simp [h2])
/-- Behind the three appends: the new list is the store's. -/
theorem RefS.laid {W w4 : World} {v4 : Value} {L' : List One} (h : RefS B w rv v most L) (hB : B ≤ W.heap.size) (hw : Turns [] w W) (hb : Turns [] W w4) (ho : oK.Own W.heap.size w4 v4 L') :
    RefS B (w4.setCell ⟨rv, 0, none⟩ v4) rv v4 most L' ∧ Turns [rv] w (w4.setCell ⟨rv, 0, none⟩ v4) ∧ ∀ i ∈ ownB v4, W.heap.size ≤ i := by
  have h1 := h.pre hw
  have hr : rv ∉ ownB v4 := fun hm => by have := (ho.foot rv hm).1; have := h1.lt; omega
  have hh := heap_setCell_same w4 rv 0 _ _ v4 ((hb.block rv h1.lt (by simp)).trans h1.head)
  refine ⟨⟨by rw [hh]; simp, (ho.low hB).turns (Turns.setCell (F := [rv]) w4 _ _ (by simp)) (fun g hg => by rw [List.mem_singleton]; rintro rfl; exact hr (by unfold ownB; rw [hg]; simp)), h.low, hr⟩, ?_, fun i hi => (ho.foot i hi).1⟩
  exact ((hw.trans hb (by simp)).mono (G := [rv]) (by simp)).trans (Turns.setCell (F := [rv]) w4 _ _ (by simp)) (fun i hi => .inl hi)
set_option maxRecDepth 100000 in
set_option maxHeartbeats 16000000 in
theorem rone_new (h : RefS B w rv v most L) (hB : B ≤ w.heap.size) (hL : L.length ≤ 90000) (owner : Int) (x : Smp) (hi : ofN x.name L = none) (hm : ¬ most ≤ L.length) :
    Calls Try.prog 43 #[.pointer (some ⟨rv, 0, none⟩), .int .i64 owner, x.val'] w (OneR B w rv v most (oneP most owner x L)) := by
  have H := Lib.hid h
  have HO : Hid (∀ W, Turns [] w W → Calls Try.prog 49 #[.pointer (some ⟨rv, 0, none⟩), .string x.name] W fun e w' => e = .returned (.int .i64 (-1)) ∧ W = w') := Lib.hid (fun W ht => by
    have := rofS_any (H.out.pre ht) (by omega) x.name
    rw [hi] at this
    exact this)
  have HE := Lib.hid (show oneP most owner x L = (⟨x, 1, false, 0⟩, L.take (atN x.name L) ++ ⟨x.name, nowL owner x⟩ :: L.drop (atN x.name L)) by unfold oneP; rw [hi]; simp only; rw [if_neg hm])
  obtain ⟨A, c, hv, _, hlc, _⟩ := h.form
  have HBW := Lib.hid hB
  have HLW := Lib.hid (show rv < w.heap.size from h.lt)
  have HOV := Lib.hid (show ∀ j ∈ ownB v, j < w.heap.size from fun j hj => (h.own.foot j hj).2)
  have HN := Lib.hid (OneB.new w x)
  have HV := Lib.hid hv
  have HLC := Lib.hid hlc
  have hLQ := Lib.hid hL
  have f1 : decide ((most : Int) ≤ (L.length : Int)) = false := by rw [decide_eq_false_iff_not]; omega
  have f2 : ¬ (most : Int) ≤ (L.length : Int) := by omega
  have f1n : decide (most ≤ L.length) = false := by rw [decide_eq_false_iff_not]; omega
  have f2n : ¬ most ≤ L.length := by omega
  have f5 : (L.length : Int) ≤ 90000 := by omega
  obtain ⟨q, hq⟩ : ∃ q, q = oneP most owner x L := ⟨_, rfl⟩
  rw [← hq] at HE ⊢
  clear hq h hL hi hm hv hB hlc
  unfold Smp.val'
  go_enter Try.func43, Try.ntmps43
  go_upto_region 1 with fail
  generalize (w.alloc (.cells #[.string x.name, .int .i64 x.val, .int .i64 x.tm, .bool x.cnt] 52)).alloc (.cells #[.string ⟨#[]⟩, .int .i64 0, .int .i64 0, .bool false, .int .i64 0, .bool false, .int .i64 0] 71) = W0 at HN ⊢
  obtain ⟨x0, x1, x2, x3, z0, z1, z2, z3, z4, z5, z6, zf⟩ := HN.out.facts
  go_wp2_with fail
  refine (HO.out _ HN.out.old).mono ?_
  rintro e w1 ⟨rfl, rfl⟩
  have HN1 : Hid (NewB w x owner W0.heap.size (W0.alloc (.cells #[.string x.name, .int .i64 x.val, .int .i64 x.tm, .bool x.cnt, .bool true, .int .i64 owner] 88))) := Lib.hid ⟨HN.out.next (Turns.alloc (F := []) W0 (.cells #[.string x.name, .int .i64 x.val, .int .i64 x.tm, .bool x.cnt, .bool true, .int .i64 owner] 88)) (by simp), heap_alloc_new W0 _, HN.out.more⟩
  obtain ⟨y0, y1, y2, y3, u0, u1, u2, u3, u4, u5, u6, uf⟩ := HN1.out.one.facts
  obtain ⟨r0, r1, _⟩ := (H.out.pre HN1.out.one.old).cells
  rw [HV.out] at r0
  go_wp2_with fail
  go_quiet (fail)
  go_upto_block 0 with fail
  have HN2 : Hid (NewB w x owner W0.heap.size ((W0.alloc (.cells #[.string x.name, .int .i64 x.val, .int .i64 x.tm, .bool x.cnt, .bool true, .int .i64 owner] 88)).drewN nq)) := Lib.hid (HN1.out.next ((Turns.refl _ _).drewN0 _))
  generalize (W0.alloc (.cells #[.string x.name, .int .i64 x.val, .int .i64 x.tm, .bool x.cnt, .bool true, .int .i64 owner] 88)).drewN nq = W1 at HN2 ⊢
  generalize W0.heap.size = bn at HN2 ⊢
  clear f1 f2 f1n f2n y0 y1 y2 y3 u0 u1 u2 u3 u4 u5 u6 uf r0 r1 HN1 x0 x1 x2 x3 z0 z1 z2 z3 z4 z5 z6 zf HO
  go_cut [9] from 32 to 53 (fun i wx => i = .int .i64 (atN x.name L : Nat) ∧ Hid (NewB w x owner bn wx))
  case first =>
    go_wp2_with fail
    go_loopw [9] (fun i wr => ∃ k : Nat, i = .int .i64 (k : Int) ∧ k ≤ L.length ∧ Hid (∀ j z, j < k → L[j]? = some z → ltB z.name x.name = true) ∧ Hid (NewB w x owner bn wr)) (fun i _ => L.length - (intOf i).toNat)
    case atStart => exact ⟨0, rfl, Nat.zero_le _, Lib.hid (fun j z hj => absurd hj (by omega)), HN2⟩
    case round =>
      obtain ⟨k, rfl, hk, HQ, HW⟩ := hrel
      obtain ⟨x0, x1, x2, x3, z0, z1, z2, z3, z4, z5, z6, zf⟩ := HW.out.one.facts
      obtain ⟨r0, r1, rf⟩ := (H.out.pre HW.out.one.old).cells
      rw [HV.out] at r0
      have rfz := rf 0
      have HWN := Lib.hid (fun n : Nat => HW.out.next ((Turns.refl [] wr).drewN0 n))
      by_cases hlt : k < L.length
      · obtain ⟨z, hz⟩ : ∃ z, L[k]? = some z := ⟨_, List.getElem?_eq_getElem hlt⟩
        obtain ⟨g, c', e, _, _, _, hc⟩ := (H.out.pre HW.out.one.old).at_ hz
        rw [HV.out] at e
        injection e with e1 e2 e3
        subst e1 e3
        have d0 := hc 0 _ rfl
        simp only [Nat.add_zero] at d0
        have HZ := Lib.hid hz
        have f3 : (k : Int) < (L.length : Int) := by omega
        have f4 : (0 : Int) ≤ (k : Int) := by omega
        clear hz hc rf
        cases hb : Op.bytesLess z.name.toList x.name.toList with
        | true =>
          have HX : Hid (∀ j u, j < k + 1 → L[j]? = some u → ltB u.name x.name = true) := Lib.hid (fun j u hj hu => by
            rcases Nat.lt_or_ge j k with h1 | h1
            · exact HQ.out j u h1 hu
            · obtain rfl : j = k := by omega
              rw [HZ.out] at hu
              cases hu
              unfold ltB ltN
              rw [← Lib.toList_data, ← Lib.toList_data]
              exact hb)
          go_wp2_with fail
          go_quiet (fail)
          go_wp2
          go_roundw
          case rel => exact ⟨k + 1, by go_num, by omega, HX, Lib.hid (HWN.out _)⟩
          case measure => simp [intOf] <;> omega
        | false =>
          have HAT : Hid (atN x.name L = k) := Lib.hid (atN_only (by omega) HQ.out (fun u hu => by
            rw [HZ.out] at hu
            cases hu
            unfold ltB ltN
            rw [← Lib.toList_data, ← Lib.toList_data]
            exact hb))
          go_wp2_with fail
          go_quiet (fail)
          go_wp2_with fail
          go_meet
          exact ⟨by rw [HAT.out], Lib.hid (HWN.out _)⟩
      · have hge : decide ((k : Int) < (L.length : Int)) = false := by rw [decide_eq_false_iff_not]; omega
        have HAT : Hid (atN x.name L = k) := Lib.hid (atN_only (by omega) HQ.out (fun u hu => by
          have := (List.getElem?_eq_some_iff.1 hu).1
          omega))
        go_wp2_with fail
        go_quiet (fail)
        go_wp2_with fail
        go_meet
        exact ⟨by rw [HAT.out], Lib.hid (HWN.out _)⟩
  case rest =>
  obtain ⟨rfl, HW⟩ := hcut
  have HKL := Lib.hid (atN_le x.name L)
  obtain ⟨k, hk⟩ : ∃ k, k = atN x.name L := ⟨_, rfl⟩
  rw [← hk] at HKL HE ⊢
  clear hk
  generalize wc = W at HW ⊢
  have HWO := Lib.hid HW.out.one.old
  have HBX := Lib.hid (show B ≤ W.heap.size from Nat.le_trans HBW.out HWO.out.size)
  obtain ⟨R1, hR1⟩ : ∃ R1, R1 = L.take k := ⟨_, rfl⟩
  obtain ⟨R2, hR2⟩ : ∃ R2, R2 = L.drop k := ⟨_, rfl⟩
  rw [← hR1, ← hR2] at HE
  have HP := Lib.hid (show R1.length = k by rw [hR1, List.length_take]; have := HKL.out; omega)
  have HM2 := Lib.hid (show R2.length = L.length - k by rw [hR2, List.length_drop])
  have HSP := Lib.hid (show L = R1 ++ R2 by rw [hR1, hR2]; exact (List.take_append_drop k L).symm)
  have HL1 := Lib.hid (show ([] : List One).length + R1.length ≤ 100000 by rw [HP.out]; simp; have := HKL.out; omega)
  have HL2 := Lib.hid (show ([] ++ R1).length + [(⟨x.name, nowL owner x⟩ : One)].length ≤ 100000 by simp [HP.out]; have := HKL.out; omega)
  have HL3 := Lib.hid (show ([] ++ R1 ++ [(⟨x.name, nowL owner x⟩ : One)]).length + R2.length ≤ 100000 by simp [HP.out, HM2.out]; have := HKL.out; omega)
  clear hR1 hR2
  rcases (H.out.own).form with ⟨e, e0⟩ | ⟨g, cap, e, hg1, hg2, hcl, hcm⟩
  · have hk0 : k = 0 := by have := HKL.out; rw [e0] at this; simpa using this
    rw [HV.out] at e
    injection e with e1 e2 e3
    have hP0 : R1.length = 0 := by rw [HP.out, hk0]
    have hM0 : R2.length = 0 := by rw [HM2.out, e0]; simp
    obtain rfl := List.eq_nil_of_length_eq_zero hP0
    obtain rfl := List.eq_nil_of_length_eq_zero hM0
    have HV' := Lib.hid (show v = .slice none 0 0 by rw [HV.out, e1, e2, e3])
    subst hk0 e1 e3
    have HCL : Hid (∀ X, Turns [] W X → X.cell? ⟨rv, 0, none⟩ = some (.slice none 0 0) ∧ X.frozen? ⟨rv, 0, none⟩ = false ∧ X.cell? ⟨w.heap.size, 0, none⟩ = some (.string x.name) ∧ X.cell? ⟨bn, 0, none⟩ = some (.string x.name) ∧ X.cell? ⟨bn, 1, none⟩ = some (.int .i64 x.val) ∧ X.cell? ⟨bn, 2, none⟩ = some (.int .i64 x.tm) ∧ X.cell? ⟨bn, 3, none⟩ = some (.bool x.cnt) ∧ X.cell? ⟨bn, 4, none⟩ = some (.bool true) ∧ X.cell? ⟨bn, 5, none⟩ = some (.int .i64 owner)) := Lib.hid (fun X ht => by
      have hN := HW.out.next ht
      obtain ⟨x0, x1, x2, x3, z0, z1, z2, z3, z4, z5, z6, zf⟩ := hN.one.facts
      obtain ⟨r0, _, rf⟩ := (H.out.pre hN.one.old).cells
      rw [HV'.out] at r0
      obtain ⟨n0, n1, n2, n3, n4, n5⟩ := hN.facts
      exact ⟨r0, rf 0, x0, n0, n1, n2, n3, n4, n5⟩)
    go_upto_region 9 with fail
    refine region9n_any W rv w.heap.size bn 0 0 0 0 x owner [] [] _ _ _ _ _ _ _ _ _ _ _ _ _ _ _ _ _ _ _ _ _ _ _ _ _ _ _ _ _ _ _ _ _ _ _ _ _ _ _ _ _ _ _ _ _ _ _ _ _ _ _ _ _ _ _ _ _ _ _ _ _ _ _ _ _ _ _ _ _ _ _ _ _ _ _ _ _ _ _ _ _ _ _ _ _ _ _ _ _ _ _ _ _ _ _ _ _ _ _ _ _ _ _ _ _ _ _ _ _ _ _ _ _ _ _ _ HCL.out (fun X ht => .inl rfl) rfl (fun X ht => .inl rfl) rfl (fun m0 m1 m2 m3 m4 m5 m6 m7 m8 m9 m10 m11 m12 m13 m14 m15 m16 m17 m18 m19 x20 m21 m22 Y hY hO => ?_)
    obtain ⟨l1, l2, l3⟩ := (H.out).laid HBX.out HWO.out hY hO
    rw [show [] ++ [] ++ [(⟨x.name, nowL owner x⟩ : One)] ++ [] = [] ++ ⟨x.name, nowL owner x⟩ :: [] by simp] at l1
    have hbx : ∀ i, w.heap.size ≤ i → i < W.heap.size → (Y.setCell ⟨rv, 0, none⟩ x20).heap[i]? = W.heap[i]? := fun i h1 h2 =>
      ((Turns.setCell (F := [rv]) Y ⟨rv, 0, none⟩ x20 (by simp)).block i (Nat.lt_of_lt_of_le h2 hY.size) (by have := HLW.out; simp; omega)).trans (hY.block i h2 (by simp))
    have hmr := HW.out.one.more
    have hzx := (hbx w.heap.size (Nat.le_refl _) (by omega)).trans HW.out.one.xb
    have hzr := (hbx (w.heap.size + 1) (by omega) (by omega)).trans HW.out.one.rb
    generalize Y.setCell ⟨rv, 0, none⟩ x20 = Z at l1 l2 hzx hzr ⊢
    have HX := Lib.hid (one_fin (w := w) ⟨x, 1, false, 0⟩ l1 HBW.out l2 (by simp) (fun j hj => .inr (Nat.le_trans hmr (l3 j hj))) HLW.out HOV.out)
    have HFU := Lib.hid (putN_full (W := Z) ⟨x, 1, false, 0⟩ hzr)
    unfold putN at HX HFU
    simp only at HX HFU
    obtain ⟨y0, y1, y2, y3, u0, u1, u2, u3, u4, u5, u6, uf⟩ := one_facts hzx hzr
    clear hY hO l1 l2 l3 hbx hmr hzx hzr
    go_wp2_with fail
    refine bodyPost_ret (results_cell_row (P := Try.prog) rfl _ _ (w.heap.size + 1) 71 #[.string x.name, .int .i64 x.val, .int .i64 x.tm, .bool x.cnt, .int .i64 1, .bool false, .int .i64 0] (0, 0) _ rfl (HFU.out) seen_struct rfl (by kernel_rfl)) rfl ?_
    rw [HE.out]
    exact HX.out
  · rw [HV.out] at e
    injection e with e1 _ e3
    subst e1 e3
    have HCL : Hid (∀ X, Turns [] W X → X.cell? ⟨w.heap.size, 0, none⟩ = some (.string x.name) ∧ X.cell? ⟨w.heap.size, 1, none⟩ = some (.int .i64 x.val) ∧ X.cell? ⟨w.heap.size, 2, none⟩ = some (.int .i64 x.tm) ∧ X.cell? ⟨w.heap.size, 3, none⟩ = some (.bool x.cnt) ∧ X.cell? ⟨w.heap.size + 1, 0, none⟩ = some (.string ⟨#[]⟩) ∧ X.cell? ⟨w.heap.size + 1, 1, none⟩ = some (.int .i64 0) ∧ X.cell? ⟨w.heap.size + 1, 2, none⟩ = some (.int .i64 0) ∧ X.cell? ⟨w.heap.size + 1, 3, none⟩ = some (.bool false) ∧ X.cell? ⟨w.heap.size + 1, 4, none⟩ = some (.int .i64 0) ∧ X.cell? ⟨w.heap.size + 1, 5, none⟩ = some (.bool false) ∧ X.cell? ⟨w.heap.size + 1, 6, none⟩ = some (.int .i64 0) ∧ (∀ j, X.frozen? ⟨w.heap.size + 1, j, none⟩ = false) ∧ X.cell? ⟨rv, 0, none⟩ = some (.slice (some ⟨g, 0, none⟩) L.length c) ∧ X.frozen? ⟨rv, 0, none⟩ = false ∧ X.cell? ⟨bn, 0, none⟩ = some (.string x.name) ∧ X.cell? ⟨bn, 1, none⟩ = some (.int .i64 x.val) ∧ X.cell? ⟨bn, 2, none⟩ = some (.int .i64 x.tm) ∧ X.cell? ⟨bn, 3, none⟩ = some (.bool x.cnt) ∧ X.cell? ⟨bn, 4, none⟩ = some (.bool true) ∧ X.cell? ⟨bn, 5, none⟩ = some (.int .i64 owner) ∧ W.heap.size ≤ X.heap.size) := Lib.hid (fun X ht => by
      have hN := HW.out.next ht
      obtain ⟨x0, x1, x2, x3, z0, z1, z2, z3, z4, z5, z6, zf⟩ := hN.one.facts
      obtain ⟨r0, _, rf⟩ := (H.out.pre hN.one.old).cells
      rw [HV.out] at r0
      obtain ⟨n0, n1, n2, n3, n4, n5⟩ := hN.facts
      exact ⟨x0, x1, x2, x3, z0, z1, z2, z3, z4, z5, z6, zf, r0, rf 0, n0, n1, n2, n3, n4, n5, ht.size⟩)
    have HR0 : Hid (∀ X, Turns [] W X → oK.Reads X W.heap.size (some ⟨g, 0, none⟩) (R1 ++ R2)) := Lib.hid (fun X ht => by
      obtain ⟨A', c', e', hr', _⟩ := (H.out.pre HWO.out).own.reads
      rw [HV.out] at e'
      injection e' with e1 _ e3
      subst e1 e3
      rw [← HSP.out]
      exact hr'.turns (Nat.le_refl _) ht (by simp))
    have HR1 : Hid (∀ X, Turns [] W X → oK.Reads X W.heap.size (some ⟨g, 0, none⟩) R1) := Lib.hid (fun X ht => by
      have h1 := EK.Reads.part (l1 := []) (l2 := R1) (l3 := R2) oOk (by simpa using HR0.out X ht)
      simpa using h1)
    have HR2 : Hid (∀ X, Turns [] W X → oK.Reads X W.heap.size (if c = k then some ⟨g, 0, none⟩ else some ⟨g, k * 7, none⟩) R2) := Lib.hid (fun X ht => by
      by_cases hck : c = k
      · have : R2 = [] := List.eq_nil_of_length_eq_zero (by rw [HM2.out]; have := HKL.out; have := HLC.out; omega)
        rw [this]
        exact .inl rfl
      · rw [if_neg hck]
        have h1 := EK.Reads.part (l1 := R1) (l2 := R2) (l3 := []) oOk (by simpa using HR0.out X ht)
        rw [HP.out] at h1
        simpa [oK] using h1)
    have k5 : k ≤ L.length := HKL.out
    have k6 : L.length ≤ c := HLC.out
    clear hg1 hg2 hcl hcm
    go_upto_region 9 with fail
    refine region9_any W rv w.heap.size bn g L.length c k x owner R1 R2 _ _ _ _ _ _ _ _ _ _ _ _ _ _ _ _ _ _ _ _ _ _ _ _ _ _ _ _ _ _ _ _ _ _ _ _ _ _ _ _ _ _ _ _ _ _ _ _ _ _ _ _ _ _ _ _ _ _ _ _ _ _ _ _ _ _ _ _ _ _ _ _ _ _ _ _ _ _ _ _ _ _ _ _ _ _ _ _ _ _ _ _ _ _ _ _ _ _ _ _ _ _ _ _ _ _ _ _ _ _ _ _ _ _ _ _ k5 k6 hLQ.out (fun X ht => ?_) HR1.out HP.out HR2.out HM2.out (fun m0 m1 m2 m3 m4 m5 m6 m7 m8 m9 m10 m11 m12 m13 m14 m15 m16 m17 m18 m19 x20 m21 m22 Y hY hO => ?_)
    · obtain ⟨x0, x1, x2, x3, z0, z1, z2, z3, z4, z5, z6, zf, r0, rf, n0, n1, n2, n3, n4, n5, _⟩ := HCL.out X ht
      exact ⟨r0, rf, x0, n0, n1, n2, n3, n4, n5⟩
    obtain ⟨l1, l2, l3⟩ := (H.out).laid HBX.out HWO.out hY hO
    rw [show [] ++ R1 ++ [(⟨x.name, nowL owner x⟩ : One)] ++ R2 = R1 ++ ⟨x.name, nowL owner x⟩ :: R2 by simp] at l1
    have hbx : ∀ i, w.heap.size ≤ i → i < W.heap.size → (Y.setCell ⟨rv, 0, none⟩ x20).heap[i]? = W.heap[i]? := fun i h1 h2 =>
      ((Turns.setCell (F := [rv]) Y ⟨rv, 0, none⟩ x20 (by simp)).block i (Nat.lt_of_lt_of_le h2 hY.size) (by have := HLW.out; simp; omega)).trans (hY.block i h2 (by simp))
    have hmr := HW.out.one.more
    have hzx := (hbx w.heap.size (Nat.le_refl _) (by omega)).trans HW.out.one.xb
    have hzr := (hbx (w.heap.size + 1) (by omega) (by omega)).trans HW.out.one.rb
    generalize Y.setCell ⟨rv, 0, none⟩ x20 = Z at l1 l2 hzx hzr ⊢
    have HX := Lib.hid (one_fin (w := w) ⟨x, 1, false, 0⟩ l1 HBW.out l2 (by simp) (fun j hj => .inr (Nat.le_trans hmr (l3 j hj))) HLW.out HOV.out)
    have HFU := Lib.hid (putN_full (W := Z) ⟨x, 1, false, 0⟩ hzr)
    unfold putN at HX HFU
    simp only at HX HFU
    obtain ⟨y0, y1, y2, y3, u0, u1, u2, u3, u4, u5, u6, uf⟩ := one_facts hzx hzr
    clear hY hO l1 l2 l3 hbx hmr hzx hzr HCL HR0 HR1 HR2
    go_wp2_with fail
    refine bodyPost_ret (results_cell_row (P := Try.prog) rfl _ _ (w.heap.size + 1) 71 #[.string x.name, .int .i64 x.val, .int .i64 x.tm, .bool x.cnt, .int .i64 1, .bool false, .int .i64 0] (0, 0) _ rfl (HFU.out) seen_struct rfl (by kernel_rfl)) rfl ?_
    rw [HE.out]
    exact HX.out
end
end Go.Proofs.Ytcjmieofmogeiaa

namespace Go.Proofs.Ytcjmieofmogeiaa
open Go.RowKit

theorem rone_any {B : Nat} {w : World} {rv : Nat} {v : Value} {most : Nat} {L : List One} (h : RefS B w rv v most L) (hB : B ≤ w.heap.size) (hL : L.length ≤ 90000) (owner : Int) (x : Smp) :
    Calls Try.prog 43 #[.pointer (some ⟨rv, 0, none⟩), .int .i64 owner, x.val'] w (OneR B w rv v most (oneP most owner x L)) := by
  cases hi : ofN x.name L with
  | none =>
    by_cases hm : most ≤ L.length
    · exact rone_full h hB (by omega) owner x hi hm
    · exact rone_new h hB hL owner x hi hm
  | some i => exact rone_old h hB (by omega) owner x hi
end Go.Proofs.Ytcjmieofmogeiaa
