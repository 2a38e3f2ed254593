/- Region 9 of the document's one, walked. -/
import Derived.Test.YtadndefbdofodaaStReg9
namespace Go.Proofs.Ytadndefbdofodaa
open Go.RowKit

theorem ops9_back (i : Nat) (o : Oper) (h : ops9[i]? = some o) (e : Edge) (he : e ∈ o.after) : e.on < i := by
  have hlt : i < 24 := (Array.getElem?_eq_some_iff.1 h).1
  have ha : ∀ j : Fin 24, ((ops9[j.1]?.getD default).after.toList.all (fun e => Nat.blt e.on j.1)) = true := by decide
  have h1 := ha ⟨i, hlt⟩
  simp only [h, Option.getD_some, List.all_eq_true] at h1
  exact Nat.le_of_ble_eq_true (h1 e (by simpa using he))
set_option maxRecDepth 100000 in
set_option maxHeartbeats 16000000 in
theorem region9_any {Q : Exit → Act → World → Prop} (W : World) (rv bx bn g n c k : Nat) (x : Smp) (owner : Int) (R1 R2 : List One) (v1 v2 v3 v4 v6 v7 v10 v11 v12 v13 v14 v15 v16 v17 v18 v19 v20 v21 v22 v23 v24 v25 v26 v27 v28 v29 v30 v31 v32 v33 v34 v35 v36 v37 v38 v39 v40 v41 v42 v43 v44 v45 v46 v47 v48 v49 v50 v51 v52 v53 v77 v78 v79 v80 v81 v82 v83 v84 v85 v86 v87 v88 v89 v90 v91 v92 v93 v94 v95 v96 v97 v98 v99 v100 v101 v102 v103 v104 v105 v106 v107 v108 v109 v110 v111 v112 v113 v114 v115 v116 v117 v118 v119 u0 u1 u2 u3 u4 u5 u6 u7 u8 u9 u10 u11 u12 u13 u14 u15 u16 u17 u18 u19 u20 u21 u22 : Value) (hk : k ≤ n) (hn : n ≤ c) (hb : n ≤ 90000)
    (hcl : ∀ X, Turns [] W X → X.cell? ⟨rv, 0, none⟩ = some (.slice (some ⟨g, 0, none⟩) n c) ∧ X.frozen? ⟨rv, 0, none⟩ = false ∧ X.cell? ⟨bx, 0, none⟩ = some (.string x.name) ∧ X.cell? ⟨bn, 0, none⟩ = some (.string x.name) ∧ X.cell? ⟨bn, 1, none⟩ = some (.int .i64 x.val) ∧ X.cell? ⟨bn, 2, none⟩ = some (.int .i64 x.tm) ∧ X.cell? ⟨bn, 3, none⟩ = some (.bool x.cnt) ∧ X.cell? ⟨bn, 4, none⟩ = some (.bool true) ∧ X.cell? ⟨bn, 5, none⟩ = some (.int .i64 owner)) (hR1 : ∀ X, Turns [] W X → oK.Reads X W.heap.size (some ⟨g, 0, none⟩) R1) (hP : R1.length = k) (hR2 : ∀ X, Turns [] W X → oK.Reads X W.heap.size (if c = k then some ⟨g, 0, none⟩ else some ⟨g, k * 7, none⟩) R2) (hM : R2.length = n - k)
    (hQ : ∀ (x0 x1 x2 x3 x4 x5 x6 x7 x8 x9 x10 x11 x12 x13 x14 x15 x16 x17 x18 x19 x20 x21 x22 : Value) (Y : World), Turns [] W Y → oK.Own W.heap.size Y x20 ([] ++ R1 ++ [(⟨x.name, nowL owner x⟩ : One)] ++ R2) → Q .normal ⟨List.toArray ((.pointer (some ⟨rv, 0, none⟩)) :: v1 :: v2 :: v3 :: v4 :: .pointer (some ⟨bx, 0, none⟩) :: v6 :: v7 :: .pointer (some ⟨bn, 0, none⟩) :: .int .i64 (k : Int) :: v10 :: v11 :: v12 :: v13 :: v14 :: v15 :: v16 :: v17 :: v18 :: v19 :: v20 :: v21 :: v22 :: v23 :: v24 :: v25 :: v26 :: v27 :: v28 :: v29 :: v30 :: v31 :: v32 :: v33 :: v34 :: v35 :: v36 :: v37 :: v38 :: v39 :: v40 :: v41 :: v42 :: v43 :: v44 :: v45 :: v46 :: v47 :: v48 :: v49 :: v50 :: v51 :: v52 :: v53 :: x0 :: x1 :: x2 :: x3 :: x4 :: x5 :: x6 :: x7 :: x8 :: x9 :: x10 :: x11 :: x12 :: x13 :: x14 :: x15 :: x16 :: x17 :: x18 :: x19 :: x20 :: x21 :: x22 :: v77 :: v78 :: v79 :: v80 :: v81 :: v82 :: v83 :: v84 :: v85 :: v86 :: v87 :: v88 :: v89 :: v90 :: v91 :: v92 :: v93 :: v94 :: v95 :: v96 :: v97 :: v98 :: v99 :: v100 :: v101 :: v102 :: v103 :: v104 :: v105 :: v106 :: v107 :: v108 :: v109 :: v110 :: v111 :: v112 :: v113 :: v114 :: v115 :: v116 :: v117 :: v118 :: v119 :: []), []⟩ (Y.setCell ⟨rv, 0, none⟩ x20)) :
    (Code.region 9 ops9 true).wp Try.prog Q ⟨List.toArray ((.pointer (some ⟨rv, 0, none⟩)) :: v1 :: v2 :: v3 :: v4 :: .pointer (some ⟨bx, 0, none⟩) :: v6 :: v7 :: .pointer (some ⟨bn, 0, none⟩) :: .int .i64 (k : Int) :: v10 :: v11 :: v12 :: v13 :: v14 :: v15 :: v16 :: v17 :: v18 :: v19 :: v20 :: v21 :: v22 :: v23 :: v24 :: v25 :: v26 :: v27 :: v28 :: v29 :: v30 :: v31 :: v32 :: v33 :: v34 :: v35 :: v36 :: v37 :: v38 :: v39 :: v40 :: v41 :: v42 :: v43 :: v44 :: v45 :: v46 :: v47 :: v48 :: v49 :: v50 :: v51 :: v52 :: v53 :: u0 :: u1 :: u2 :: u3 :: u4 :: u5 :: u6 :: u7 :: u8 :: u9 :: u10 :: u11 :: u12 :: u13 :: u14 :: u15 :: u16 :: u17 :: u18 :: u19 :: u20 :: u21 :: u22 :: v77 :: v78 :: v79 :: v80 :: v81 :: v82 :: v83 :: v84 :: v85 :: v86 :: v87 :: v88 :: v89 :: v90 :: v91 :: v92 :: v93 :: v94 :: v95 :: v96 :: v97 :: v98 :: v99 :: v100 :: v101 :: v102 :: v103 :: v104 :: v105 :: v106 :: v107 :: v108 :: v109 :: v110 :: v111 :: v112 :: v113 :: v114 :: v115 :: v116 :: v117 :: v118 :: v119 :: []), []⟩ W := by
  have k0 : (0 : Int) ≤ (k : Int) := by omega
  have k1 : (k : Int) ≤ (n : Int) := by omega
  have k2 : (k : Int) ≤ (c : Int) := by omega
  have k3 : (n : Int) ≤ (c : Int) := by omega
  have k4 : k ≤ c := by omega
  refine wp_region_any (by kernel_rfl) ?_
  refine wpAny_inv (fun li a X => ∃ (x0 x1 x2 x3 x4 x5 x6 x7 x8 x9 x10 x11 x12 x13 x14 x15 x16 x17 x18 x19 x20 x21 x22 : Value), a = ⟨List.toArray ((.pointer (some ⟨rv, 0, none⟩)) :: v1 :: v2 :: v3 :: v4 :: .pointer (some ⟨bx, 0, none⟩) :: v6 :: v7 :: .pointer (some ⟨bn, 0, none⟩) :: .int .i64 (k : Int) :: v10 :: v11 :: v12 :: v13 :: v14 :: v15 :: v16 :: v17 :: v18 :: v19 :: v20 :: v21 :: v22 :: v23 :: v24 :: v25 :: v26 :: v27 :: v28 :: v29 :: v30 :: v31 :: v32 :: v33 :: v34 :: v35 :: v36 :: v37 :: v38 :: v39 :: v40 :: v41 :: v42 :: v43 :: v44 :: v45 :: v46 :: v47 :: v48 :: v49 :: v50 :: v51 :: v52 :: v53 :: x0 :: x1 :: x2 :: x3 :: x4 :: x5 :: x6 :: x7 :: x8 :: x9 :: x10 :: x11 :: x12 :: x13 :: x14 :: x15 :: x16 :: x17 :: x18 :: x19 :: x20 :: x21 :: x22 :: v77 :: v78 :: v79 :: v80 :: v81 :: v82 :: v83 :: v84 :: v85 :: v86 :: v87 :: v88 :: v89 :: v90 :: v91 :: v92 :: v93 :: v94 :: v95 :: v96 :: v97 :: v98 :: v99 :: v100 :: v101 :: v102 :: v103 :: v104 :: v105 :: v106 :: v107 :: v108 :: v109 :: v110 :: v111 :: v112 :: v113 :: v114 :: v115 :: v116 :: v117 :: v118 :: v119 :: []), []⟩ ∧ J9 W rv bx bn g n c k x owner R1 R2 li x0 x1 x2 x3 x4 x5 x6 x7 x8 x9 x10 x11 x12 x13 x14 x15 x16 x17 x18 x19 x20 x21 x22 X) ?_ ?_ _ _ _ _ (by decide) ⟨u0, u1, u2, u3, u4, u5, u6, u7, u8, u9, u10, u11, u12, u13, u14, u15, u16, u17, u18, u19, u20, u21, u22, rfl, ?_⟩
  · rintro li a X ⟨x0, x1, x2, x3, x4, x5, x6, x7, x8, x9, x10, x11, x12, x13, x14, x15, x16, x17, x18, x19, x20, x21, x22, rfl, hJ⟩ hr
    have hA := ready_nil (ops := ops9) (li := li) ops9_back hJ.sz hr
    obtain ⟨Y, rfl, ht, ho⟩ := hJ.d23 (hA 24 23 (by decide) (by decide))
    exact hQ _ _ _ _ _ _ _ _ _ _ _ _ _ _ _ _ _ _ _ _ _ _ _ Y ht ho
  · rintro li a X ⟨x0, x1, x2, x3, x4, x5, x6, x7, x8, x9, x10, x11, x12, x13, x14, x15, x16, x17, x18, x19, x20, x21, x22, rfl, hJ⟩ i hmem
    obtain ⟨hi, oo, ho, hall⟩ := mem_ready.1 hmem
    have hlt : i < 24 := (Array.getElem?_eq_some_iff.1 ho).1
    obtain rfl | rfl | rfl | rfl | rfl | rfl | rfl | rfl | rfl | rfl | rfl | rfl | rfl | rfl | rfl | rfl | rfl | rfl | rfl | rfl | rfl | rfl | rfl | rfl : i = 0 ∨ i = 1 ∨ i = 2 ∨ i = 3 ∨ i = 4 ∨ i = 5 ∨ i = 6 ∨ i = 7 ∨ i = 8 ∨ i = 9 ∨ i = 10 ∨ i = 11 ∨ i = 12 ∨ i = 13 ∨ i = 14 ∨ i = 15 ∨ i = 16 ∨ i = 17 ∨ i = 18 ∨ i = 19 ∨ i = 20 ∨ i = 21 ∨ i = 22 ∨ i = 23 := by omega
    all_goals
      obtain rfl := (Option.some.inj ho).symm
      clear ho hlt hmem
    · refine wpOp_plain (o := ops9[0]) rfl rfl fun K' hK' => ?_
      unfold Oper.wp
      go_simp
      exact hK'.out _ _ ⟨_, _, _, _, _, _, _, _, _, _, _, _, _, _, _, _, _, _, _, _, _, _, _, rfl, hJ.p0 hi⟩
    · refine wpOp_plain (o := ops9[1]) rfl rfl fun K' hK' => ?_
      unfold Oper.wp
      go_simp
      exact hK'.out _ _ ⟨_, _, _, _, _, _, _, _, _, _, _, _, _, _, _, _, _, _, _, _, _, _, _, rfl, hJ.p1 hi⟩
    · refine wpOp_plain (o := ops9[2]) rfl rfl fun K' hK' => ?_
      have l1 := getD_tt (hall ⟨1, .data⟩ (by simp [ops9]) rfl)
      have e1 := hJ.c1 l1
      subst e1
      unfold Oper.wp
      go_simp
      exact hK'.out _ _ ⟨_, _, _, _, _, _, _, _, _, _, _, _, _, _, _, _, _, _, _, _, _, _, _, rfl, hJ.p2 hi⟩
    · refine wpOp_plain (o := ops9[3]) rfl rfl fun K' hK' => ?_
      have l2 := getD_tt (hall ⟨2, .data⟩ (by simp [ops9]) rfl)
      have e2 := hJ.c2 l2
      subst e2
      unfold Oper.wp
      go_simp
      exact hK'.out _ _ ⟨_, _, _, _, _, _, _, _, _, _, _, _, _, _, _, _, _, _, _, _, _, _, _, rfl, hJ.p3 hi⟩
    · refine wpOp_plain (o := ops9[4]) rfl rfl fun K' hK' => ?_
      have l3 := getD_tt (hall ⟨3, .data⟩ (by simp [ops9]) rfl)
      have e3 := hJ.c3 l3
      subst e3
      obtain ⟨r0, rf, b0, n0, n1, n2, n3, n4, n5⟩ := hcl X (hJ.tt (hJ.open23 hi (by decide)))
      unfold Oper.wp
      go_simp
      exact hK'.out _ _ ⟨_, _, _, _, _, _, _, _, _, _, _, _, _, _, _, _, _, _, _, _, _, _, _, rfl, hJ.p4 hi⟩
    · refine wpOp_plain (o := ops9[5]) rfl rfl fun K' hK' => ?_
      unfold Oper.wp
      go_simp
      exact hK'.out _ _ ⟨_, _, _, _, _, _, _, _, _, _, _, _, _, _, _, _, _, _, _, _, _, _, _, rfl, hJ.p5 hi⟩
    · refine wpOp_plain (o := ops9[6]) rfl rfl fun K' hK' => ?_
      have l4 := getD_tt (hall ⟨4, .data⟩ (by simp [ops9]) rfl)
      have l5 := getD_tt (hall ⟨5, .data⟩ (by simp [ops9]) rfl)
      have e4 := hJ.c4 l4
      subst e4
      have e5 := hJ.c5 l5
      subst e5
      unfold Oper.wp
      go_simp
      exact hK'.out _ _ ⟨_, _, _, _, _, _, _, _, _, _, _, _, _, _, _, _, _, _, _, _, _, _, _, rfl, hJ.p6 hi⟩
    · refine wpOp_plain (o := ops9[7]) rfl rfl fun K' hK' => ?_
      have l6 := getD_tt (hall ⟨6, .data⟩ (by simp [ops9]) rfl)
      have e6 := hJ.c6 l6
      subst e6
      have h23 := hJ.open23 hi (by decide)
      refine EK.wp_append_all oOk (.const (.slice none 0 0)) (.tmp 60) rfl W.heap.size (.slice none 0 0) [] rfl (World.ownsRow_nil _ _ _ _) W.heap.size (some ⟨g, 0, none⟩) R1 k c hP rfl (hR1 X (hJ.tt h23)) (by rw [hP]; simp; omega) (hJ.tt h23).size (fun v' X' ho ht hf => ?_)
      exact hK'.out _ _ ⟨_, _, _, _, _, _, _, _, _, _, _, _, _, _, _, _, _, _, _, _, _, _, _, rfl, (hJ.next h23 (ht.mono (by simp [ownB, Value.ownBlock]))).p7 hi ho (fun j hj => by
        rcases hf j hj with h1 | h1
        · simp [ownB, Value.ownBlock] at h1
        · rw [h1]; exact (hJ.tt h23).size)⟩
    · refine wpOp_plain (o := ops9[8]) rfl rfl fun K' hK' => ?_
      unfold Oper.wp
      go_simp
      exact hK'.out _ _ ⟨_, _, _, _, _, _, _, _, _, _, _, _, _, _, _, _, _, _, _, _, _, _, _, rfl, hJ.p8 hi⟩
    · refine wpOp_plain (o := ops9[9]) rfl rfl fun K' hK' => ?_
      have l8 := getD_tt (hall ⟨8, .data⟩ (by simp [ops9]) rfl)
      have e8 := hJ.c8 l8
      subst e8
      obtain ⟨r0, rf, b0, n0, n1, n2, n3, n4, n5⟩ := hcl X (hJ.tt (hJ.open23 hi (by decide)))
      unfold Oper.wp
      go_simp
      exact hK'.out _ _ ⟨_, _, _, _, _, _, _, _, _, _, _, _, _, _, _, _, _, _, _, _, _, _, _, rfl, hJ.p9 hi⟩
    · refine wpOp_plain (o := ops9[10]) rfl rfl fun K' hK' => ?_
      obtain ⟨r0, rf, b0, n0, n1, n2, n3, n4, n5⟩ := hcl X (hJ.tt (hJ.open23 hi (by decide)))
      unfold Oper.wp
      go_simp
      exact hK'.out _ _ ⟨_, _, _, _, _, _, _, _, _, _, _, _, _, _, _, _, _, _, _, _, _, _, _, rfl, hJ.p10 hi⟩
    · refine wpOp_plain (o := ops9[11]) rfl rfl fun K' hK' => ?_
      have l9 := getD_tt (hall ⟨9, .data⟩ (by simp [ops9]) rfl)
      have l10 := getD_tt (hall ⟨10, .data⟩ (by simp [ops9]) rfl)
      have e9 := hJ.c9 l9
      subst e9
      have e10 := hJ.c10 l10
      subst e10
      unfold Oper.wp
      go_simp
      exact hK'.out _ _ ⟨_, _, _, _, _, _, _, _, _, _, _, _, _, _, _, _, _, _, _, _, _, _, _, rfl, hJ.p11 hi⟩
    · refine wpOp_plain (o := ops9[12]) rfl rfl fun K' hK' => ?_
      have l11 := getD_tt (hall ⟨11, .data⟩ (by simp [ops9]) rfl)
      have e11 := hJ.c11 l11
      subst e11
      have h23 := hJ.open23 hi (by decide)
      unfold Oper.wp
      go_simp
      exact hK'.out _ _ ⟨_, _, _, _, _, _, _, _, _, _, _, _, _, _, _, _, _, _, _, _, _, _, _, rfl, (hJ.next h23 (Turns.alloc (F := []) X (.cells #[.string x.name, .string x.name, .int .i64 x.val, .int .i64 x.tm, .bool x.cnt, .bool true, .int .i64 owner] 67))).p12 hi ⟨X.heap.size, rfl, (EK.Reads.lone oOk (⟨x.name, nowL owner x⟩ : One) _ _ rfl rfl).more (by simp)⟩⟩
    · refine wpOp_plain (o := ops9[13]) rfl rfl fun K' hK' => ?_
      have l7 := getD_tt (hall ⟨7, .data⟩ (by simp [ops9]) rfl)
      have l12 := getD_tt (hall ⟨12, .data⟩ (by simp [ops9]) rfl)
      have h23 := hJ.open23 hi (by decide)
      obtain ⟨o7, o7b⟩ := hJ.d7 l7 hi
      obtain ⟨g1, rfl, rd⟩ := hJ.d12 l12 hi
      refine EK.wp_append_all oOk (.tmp 61) (.tmp 66) rfl W.heap.size x7 ([] ++ R1) rfl o7 X.heap.size (some ⟨g1, 0, none⟩) [(⟨x.name, nowL owner x⟩ : One)] 1 1 rfl rfl rd (by simp [hP]; omega) (hJ.tt h23).size (fun v' X' ho ht hf => ?_)
      exact hK'.out _ _ ⟨_, _, _, _, _, _, _, _, _, _, _, _, _, _, _, _, _, _, _, _, _, _, _, rfl, hJ.p13 hi l7 l12 ho (fun j hj => by
        rcases hf j hj with h1 | h1
        · exact o7b j h1
        · rw [h1]; exact (hJ.tt h23).size) ht o7b⟩
    · refine wpOp_plain (o := ops9[14]) rfl rfl fun K' hK' => ?_
      unfold Oper.wp
      go_simp
      exact hK'.out _ _ ⟨_, _, _, _, _, _, _, _, _, _, _, _, _, _, _, _, _, _, _, _, _, _, _, rfl, hJ.p14 hi⟩
    · refine wpOp_plain (o := ops9[15]) rfl rfl fun K' hK' => ?_
      have l14 := getD_tt (hall ⟨14, .data⟩ (by simp [ops9]) rfl)
      have e14 := hJ.c14 l14
      subst e14
      unfold Oper.wp
      go_simp
      exact hK'.out _ _ ⟨_, _, _, _, _, _, _, _, _, _, _, _, _, _, _, _, _, _, _, _, _, _, _, rfl, hJ.p15 hi⟩
    · refine wpOp_plain (o := ops9[16]) rfl rfl fun K' hK' => ?_
      have l15 := getD_tt (hall ⟨15, .data⟩ (by simp [ops9]) rfl)
      have e15 := hJ.c15 l15
      subst e15
      unfold Oper.wp
      go_simp
      exact hK'.out _ _ ⟨_, _, _, _, _, _, _, _, _, _, _, _, _, _, _, _, _, _, _, _, _, _, _, rfl, hJ.p16 hi⟩
    · refine wpOp_plain (o := ops9[17]) rfl rfl fun K' hK' => ?_
      have l16 := getD_tt (hall ⟨16, .data⟩ (by simp [ops9]) rfl)
      have e16 := hJ.c16 l16
      subst e16
      obtain ⟨r0, rf, b0, n0, n1, n2, n3, n4, n5⟩ := hcl X (hJ.tt (hJ.open23 hi (by decide)))
      unfold Oper.wp
      go_simp
      exact hK'.out _ _ ⟨_, _, _, _, _, _, _, _, _, _, _, _, _, _, _, _, _, _, _, _, _, _, _, rfl, hJ.p17 hi⟩
    · refine wpOp_plain (o := ops9[18]) rfl rfl fun K' hK' => ?_
      unfold Oper.wp
      go_simp
      exact hK'.out _ _ ⟨_, _, _, _, _, _, _, _, _, _, _, _, _, _, _, _, _, _, _, _, _, _, _, rfl, hJ.p18 hi⟩
    · refine wpOp_plain (o := ops9[19]) rfl rfl fun K' hK' => ?_
      have l17 := getD_tt (hall ⟨17, .data⟩ (by simp [ops9]) rfl)
      have l18 := getD_tt (hall ⟨18, .data⟩ (by simp [ops9]) rfl)
      have e17 := hJ.c17 l17
      subst e17
      have e18 := hJ.c18 l18
      subst e18
      unfold Oper.wp
      go_simp
      exact hK'.out _ _ ⟨_, _, _, _, _, _, _, _, _, _, _, _, _, _, _, _, _, _, _, _, _, _, _, rfl, hJ.p19 hi⟩
    · refine wpOp_plain (o := ops9[20]) rfl rfl fun K' hK' => ?_
      have l13 := getD_tt (hall ⟨13, .data⟩ (by simp [ops9]) rfl)
      have l19 := getD_tt (hall ⟨19, .data⟩ (by simp [ops9]) rfl)
      have e19 := hJ.c19 l19
      subst e19
      have h23 := hJ.open23 hi (by decide)
      obtain ⟨o7, o7b⟩ := hJ.d13 l13 hi
      refine EK.wp_append_all oOk (.tmp 67) (.tmp 73) rfl W.heap.size x13 ([] ++ R1 ++ [(⟨x.name, nowL owner x⟩ : One)]) rfl o7 W.heap.size (if c = k then some ⟨g, 0, none⟩ else some ⟨g, k * 7, none⟩) R2 (n - k) (c - k) hM rfl (hR2 X (hJ.tt h23)) (by simp [hP, hM]; omega) (hJ.tt h23).size (fun v' X' ho ht hf => ?_)
      exact hK'.out _ _ ⟨_, _, _, _, _, _, _, _, _, _, _, _, _, _, _, _, _, _, _, _, _, _, _, rfl, hJ.p20 hi l13 ho ht o7b⟩
    · refine wpOp_plain (o := ops9[21]) rfl rfl fun K' hK' => ?_
      have l0 := getD_tt (hall ⟨0, .data⟩ (by simp [ops9]) rfl)
      have e0 := hJ.c0 l0
      subst e0
      unfold Oper.wp
      go_simp
      exact hK'.out _ _ ⟨_, _, _, _, _, _, _, _, _, _, _, _, _, _, _, _, _, _, _, _, _, _, _, rfl, hJ.p21 hi⟩
    · refine wpOp_plain (o := ops9[22]) rfl rfl fun K' hK' => ?_
      have l21 := getD_tt (hall ⟨21, .data⟩ (by simp [ops9]) rfl)
      have e21 := hJ.c21 l21
      subst e21
      unfold Oper.wp
      go_simp
      exact hK'.out _ _ ⟨_, _, _, _, _, _, _, _, _, _, _, _, _, _, _, _, _, _, _, _, _, _, _, rfl, hJ.p22 hi (getD_tt (hall ⟨21, .data⟩ (by simp [ops9]) rfl))⟩
    · refine wpOp_plain (o := ops9[23]) rfl rfl fun K' hK' => ?_
      have l22 := getD_tt (hall ⟨22, .data⟩ (by simp [ops9]) rfl)
      have l20 := getD_tt (hall ⟨20, .data⟩ (by simp [ops9]) rfl)
      have e22 := hJ.c22 l22
      subst e22
      have o20 := hJ.d20 l20 hi
      obtain ⟨r0, rf, b0, n0, n1, n2, n3, n4, n5⟩ := hcl X (hJ.tt hi)
      have hJ23 := hJ.p23 hi l20 (fun j hj => by
        rcases Nat.lt_or_ge j 21 with h1 | h1
        · exact getD_tt (hall ⟨j, .phase⟩ (by
            obtain rfl | rfl | rfl | rfl | rfl | rfl | rfl | rfl | rfl | rfl | rfl | rfl | rfl | rfl | rfl | rfl | rfl | rfl | rfl | rfl | rfl : j = 0 ∨ j = 1 ∨ j = 2 ∨ j = 3 ∨ j = 4 ∨ j = 5 ∨ j = 6 ∨ j = 7 ∨ j = 8 ∨ j = 9 ∨ j = 10 ∨ j = 11 ∨ j = 12 ∨ j = 13 ∨ j = 14 ∨ j = 15 ∨ j = 16 ∨ j = 17 ∨ j = 18 ∨ j = 19 ∨ j = 20 := by omega
            all_goals simp [ops9]) rfl)
        · rcases (show j = 21 ∨ j = 22 by omega) with rfl | rfl
          · exact hJ.o22 l22
          · exact l22)
      obtain ⟨A4, c4, e20, _⟩ := o20.reads
      generalize ([] ++ R1 ++ [(⟨x.name, nowL owner x⟩ : One)] ++ R2).length = m4 at e20
      subst e20
      unfold Oper.wp
      go_simp
      exact hK'.out _ _ ⟨_, _, _, _, _, _, _, _, _, _, _, _, _, _, _, _, _, _, _, _, _, _, _, rfl, hJ23⟩
  · have hf : ∀ j, j < 24 → (Array.replicate 24 false).getD j true = false := fun j hj => by simp [Array.getD, hj]
    have no : ∀ {P : Prop} (j : Nat), j < 24 → (Array.replicate 24 false).getD j true = true → P := fun j hj e => by rw [hf j hj] at e; cases e
    exact { c0 := no 0 (by decide), c1 := no 1 (by decide), c2 := no 2 (by decide), c3 := no 3 (by decide), c4 := no 4 (by decide), c5 := no 5 (by decide), c6 := no 6 (by decide), c8 := no 8 (by decide), c9 := no 9 (by decide), c10 := no 10 (by decide), c11 := no 11 (by decide), c14 := no 14 (by decide), c15 := no 15 (by decide), c16 := no 16 (by decide), c17 := no 17 (by decide), c18 := no 18 (by decide), c19 := no 19 (by decide), c21 := no 21 (by decide), c22 := no 22 (by decide), sz := by simp, tt := fun _ => (Turns.refl [] W).drew0, d7 := no 7 (by decide), d12 := no 12 (by decide), d13 := no 13 (by decide), d20 := no 20 (by decide), d23 := no 23 (by decide), o13 := no 13 (by decide), o20 := no 20 (by decide), o22 := no 22 (by decide), o23 := no 23 (by decide) }
end Go.Proofs.Ytadndefbdofodaa
