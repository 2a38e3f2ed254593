/- A zero store: Put. -/
import Derived.Test.YtcjmieofmogeiaaSrSame
namespace Go.Proofs.Ytcjmieofmogeiaa
open Go.RowKit Go.Maps Go.Sort Go.Shelf
attribute [local go_sem] Oper.semAt_some
variable {hd : Hd}

/-- A zero store, in block z. -/
def Zs [hd : Hd] (w : World) (z : Nat) : Prop := w.heap[z]? = some (.cells (List.toArray (.int .i64 0 :: .map none :: hd.rest)) hd.ty (0, 0))
theorem Zs.pre {w w' : World} {z : Nat} (h : Zs w z) (ht : Turns [] w w') : Zs w' z := (ht.block z (lt_of_block h) (by simp)).trans h
theorem Zs.c0 {w : World} {z : Nat} (h : Zs w z) : w.cell? ⟨z, 0, none⟩ = some (.int .i64 0) := by unfold Zs at h; simp [World.cell?, h]
theorem Zs.c1 {w : World} {z : Nat} (h : Zs w z) : w.cell? ⟨z, 1, none⟩ = some (.map none) := by unfold Zs at h; simp [World.cell?, h]
theorem len_nilmap (w : World) (ty : TypeId) : (Builtin.len_ #[64] ty #[.map none]).run Try.prog w = .ok (.int .i64 0) w := Maps.len_nil Try.underlying64 ty
theorem look_nilmap (w : World) {x : ByteArray} (hx : NmOk x) : (Instr.lookup 64 (.map none) (.string x) true).run Try.prog w = .ok (.tuple #[.pointer none, .bool false]) w := by
  have := Maps.look_nil (P := Try.prog) (w := w) true sm_keyed Try.underlying64 (zero_lastp w) (nameKD.made x hx.key)
  simp only [if_true] at this
  exact this
theorem lenZ (w : World) (z : Nat) (h : Zs w z) : Calls Try.prog 15 #[ptr z] w fun e w' => e = .returned (.int .i64 0) ∧ w' = w := by
  have q1 := h.c1
  have hl := len_nilmap w
  clear h
  go_enter Try.func15, Try.ntmps15
  go_wp2
  go_ret
  exact ⟨rfl, rfl⟩
set_option maxRecDepth 100000 in
set_option maxHeartbeats 1000000 in
theorem verZ {w : World} {z : Nat} (h : Zs w z) (x : Smp) (hx : NmOk x.name) :
    Calls Try.prog 44 #[ptr z, .agg #[.string x.name, .int .i64 x.val, .int .i64 x.tm, .bool x.cnt]] w fun e w' => e = .returned (.int .i64 4) ∧ Turns [] w w' := by
  have HS := Lib.hid h
  have HX := Lib.hid hx
  have HB := Lib.hid (Bx.made w x)
  clear h hx
  go_enter Try.func44, Try.ntmps44
  go_upto_region 1 with fail
  obtain ⟨W0, hW0⟩ : ∃ W0, w.alloc (.cells #[.string x.name, .int .i64 x.val, .int .i64 x.tm, .bool x.cnt] 52) = W0 := ⟨_, rfl⟩
  rw [hW0] at HB ⊢
  clear hW0
  have hS0 := HS.out.pre HB.out.turns
  have q0 := HB.out.c0
  have q1 := hS0.c1
  have HL : ∀ q, (Instr.lookup 64 (.map none) (.string x.name) true).run Try.prog (W0.drewN q) = .ok (.tuple #[.pointer none, .bool false]) (W0.drewN q) := fun q => look_nilmap _ HX.out
  clear hS0
  go_quiet (fail)
  obtain ⟨W1, hW1⟩ : ∃ W1, W0.drewN nq = W1 := ⟨_, rfl⟩
  have HB1 : Hid (Bx w W1 w.heap.size x) := Lib.hid (by rw [← hW1]; exact HB.out.drewN nq)
  rw [hW1]
  clear hW1 q0 q1 HL HB
  have hS1 := HS.out.pre HB1.out.turns
  have q1 := hS1.c1
  have q2 := hS1.c0
  have HN : ∀ q ty, (Builtin.len_ #[64] ty #[.map none]).run Try.prog (W1.drewN q) = .ok (.int .i64 0) (W1.drewN q) := fun q ty => len_nilmap _ ty
  clear hS1
  go_upto_region 2 with fail
  go_quiet (fail)
  have HT := Lib.hid (HB1.out.turns.drewN nq)
  go_wp2
  go_ret
  exact ⟨rfl, HT.out⟩
set_option maxRecDepth 100000 in
set_option maxHeartbeats 2000000 in
theorem liveOfZ {w : World} {z : Nat} (h : Zs w z) (owner : Int) :
    Calls Try.prog 38 #[ptr z, .int .i64 owner] w fun e w' => e = .returned (.map (some w.heap.size)) ∧ MapG nameKD pread w' w.heap.size (fun _ => none) 0 ∧ Turns [] w w' := by
  have hmm := @run_makeMap Try.prog
  obtain ⟨Z, hZ⟩ : ∃ Z, Z = w.alloc (.map #[] 0) := ⟨_, rfl⟩
  have hT0 : Turns [] w Z := by rw [hZ]; exact Turns.alloc _ _
  have hM : MapG nameKD pread Z w.heap.size (fun _ => none) 0 := by rw [hZ]; exact MapG.made nameKD pread w
  have HT0 := Lib.hid hT0
  have HM := Lib.hid hM
  have c1 := (h.pre hT0).c1
  have hlz := lt_of_block h
  clear h hT0 hM
  go_enter Try.func38, Try.ntmps38
  go_upto_region 2 with fail
  rw [← hZ]
  clear hZ hmm
  have hrg := run_range_nilMap (P := Try.prog) Z 64 9 91 Try.underlying64
  have hnx : ∀ ty, (Instr.next (.pointer (some ⟨Z.heap.size, 0, none⟩)) false ty).run Try.prog (Z.alloc (.mapIter none 0 #[] 0)) = _ := fun ty => run_next_nilMap _ ty 0 0 #[]
  have HTA : Hid (Turns [] Z (Z.alloc (.mapIter none 0 #[] 0))) := Lib.hid (Turns.alloc _ _)
  go_wp2
  refine wp_loop_rounds 1 ?_
  rw [rounds_succ]
  go_wp2
  go_ret
  exact ⟨rfl, HM.out.turns HTA.out (by simp), HT0.out.then HTA.out⟩
set_option maxRecDepth 100000 in
set_option maxHeartbeats 4000000 in
theorem putNo {w : World} {p : Nat} (owner : Int) (x : Smp) (hx : NmOk x.name) (v : Int) (hv1 : v ≠ 1) (hver : ∀ W, Turns [] w W → Calls Try.prog 44 #[ptr p, .agg #[.string x.name, .int .i64 x.val, .int .i64 x.tm, .bool x.cnt]] W fun e w' => e = .returned (.int .i64 v) ∧ Turns [] W w') :
    Calls Try.prog 39 #[ptr p, .int .i64 owner, .agg #[.string x.name, .int .i64 x.val, .int .i64 x.tm, .bool x.cnt]] w fun e w' => e = .returned (.agg #[.string x.name, .int .i64 x.val, .int .i64 x.tm, .bool x.cnt, .int .i64 v, .bool false, .int .i64 0]) ∧ Turns [] w w' := by
  have HX := Lib.hid hx
  have HV : Hid (∀ W, Hid (Turns [] w W) → Calls Try.prog 44 #[ptr p, .agg #[.string x.name, .int .i64 x.val, .int .i64 x.tm, .bool x.cnt]] W fun e w' => e = .returned (.int .i64 v) ∧ Turns [] W w') := Lib.hid fun W hW => hver W hW.out
  have HB0 := Lib.hid (Bx.made w x)
  clear hx hver
  go_enter Try.func39, Try.ntmps39
  go_upto_region 1 with fail
  obtain ⟨Z, hZ⟩ : ∃ Z, w.alloc (.cells #[.string x.name, .int .i64 x.val, .int .i64 x.tm, .bool x.cnt] 52) = Z := ⟨_, rfl⟩
  obtain ⟨W0, hW0⟩ : ∃ W0, Z.alloc (.cells #[.string ⟨#[]⟩, .int .i64 0, .int .i64 0, .bool false, .int .i64 0, .bool false, .int .i64 0] 71) = W0 := ⟨_, rfl⟩
  rw [hZ] at HB0 ⊢
  rw [hW0]
  have hzs : Z.heap.size = w.heap.size + 1 := by rw [← hZ]; simp
  have HP0 : Hid (PutB w W0 w.heap.size (w.heap.size + 1) x) := by
    have ht : Turns [] Z W0 := by rw [← hW0]; exact Turns.alloc _ _
    refine Lib.hid ⟨⟨(ht.block _ (by omega) (by simp)).trans HB0.out.blk, HB0.out.turns.then ht, Nat.le_refl _⟩, ?_, by omega⟩
    rw [← hW0, ← hzs]
    exact heap_alloc_new Z _
  clear hW0 hZ hzs HB0
  go_cut [7] from 9 to 13 (fun v7 wx => ∃ q, v7 = ptr q ∧ Hid (wx.heap[q]? = some (.cells #[.string x.name, .int .i64 x.val, .int .i64 x.tm, .bool x.cnt, .int .i64 v, .bool false, .int .i64 0] 71 (0, 0)) ∧ W0.heap.size ≤ q ∧ Turns [] W0 wx))
  case first =>
    have q0 := HP0.out.bx.c0
    have q1 := HP0.out.bx.c1
    have q2 := HP0.out.bx.c2
    have q3 := HP0.out.bx.c3
    have HTW := Lib.hid HP0.out.bx.turns
    have HV1 : Hid (∀ W, Hid (Turns [] W0 W) → Calls Try.prog 44 #[ptr p, .agg #[.string x.name, .int .i64 x.val, .int .i64 x.tm, .bool x.cnt]] W fun e w' => e = .returned (.int .i64 v) ∧ Turns [] W w') := Lib.hid fun W hW => HV.out W (Lib.hid (HTW.out.then hW.out))
    have HD := Lib.hid (Turns.refl [] W0)
    have HSK : Hid (∀ W, Hid (Turns [] W0 W) → W.cell? ⟨w.heap.size, 0, none⟩ = some (.string x.name) ∧ W.cell? ⟨w.heap.size, 1, none⟩ = some (.int .i64 x.val) ∧ W.cell? ⟨w.heap.size, 2, none⟩ = some (.int .i64 x.tm) ∧ W.cell? ⟨w.heap.size, 3, none⟩ = some (.bool x.cnt)) := Lib.hid fun W hW => by
      have := (HP0.out.pre hW.out).bx
      exact ⟨this.c0, this.c1, this.c2, this.c3⟩
    have hlt : w.heap.size < W0.heap.size := lt_of_block HP0.out.bx.blk
    have HAL : Hid (∀ W, Turns [] (W0.drew.alloc (.cells #[.string ⟨#[]⟩, .int .i64 0, .int .i64 0, .bool false, .int .i64 0, .bool false, .int .i64 0] 71)) W → W.heap[W0.heap.size]? = some (.cells #[.string ⟨#[]⟩, .int .i64 0, .int .i64 0, .bool false, .int .i64 0, .bool false, .int .i64 0] 71 (0, 0))) := Lib.hid fun W hW => (hW.block _ (by simp) (by simp)).trans (heap_alloc_new W0.drew _)
    have HCL : ∀ W : World, W.heap[W0.heap.size]? = some (.cells #[.string ⟨#[]⟩, .int .i64 0, .int .i64 0, .bool false, .int .i64 0, .bool false, .int .i64 0] 71 (0, 0)) → (W.cell? ⟨W0.heap.size, 0, none⟩ = some (.string ⟨#[]⟩) ∧ W.cell? ⟨W0.heap.size, 1, none⟩ = some (.int .i64 0) ∧ W.cell? ⟨W0.heap.size, 2, none⟩ = some (.int .i64 0) ∧ W.cell? ⟨W0.heap.size, 3, none⟩ = some (.bool false) ∧ W.cell? ⟨W0.heap.size, 4, none⟩ = some (.int .i64 0) ∧ W.cell? ⟨W0.heap.size, 5, none⟩ = some (.bool false) ∧ W.cell? ⟨W0.heap.size, 6, none⟩ = some (.int .i64 0)) ∧ ∀ j, W.frozen? ⟨W0.heap.size, j, none⟩ = false := fun W h => ⟨by refine ⟨?_, ?_, ?_, ?_, ?_, ?_, ?_⟩ <;> simp [World.cell?, h], fun j => by simp [World.frozen?, h]⟩
    have HCLH := Lib.hid HCL
    clear HCL
    clear HV
    go_region_law ((go_simp; go_at_call 44; first | (refine (HV1.out _ (Lib.hid HD.out.drew)).mono ?_; rintro e w2 ⟨rfl, ht2⟩; obtain ⟨d0, d1, d2, d3⟩ := HSK.out _ (Lib.hid (HD.out.drew.then ht2)); have HT2 := Lib.hid (HD.out.drew.then ht2); have hlt2 : w.heap.size < w2.heap.size := Nat.lt_of_lt_of_le hlt ht2.size) | (refine (HV1.out _ (Lib.hid (HD.out.drew.then (Turns.alloc _ _)))).mono ?_; rintro e w2 ⟨rfl, ht2⟩; obtain ⟨d0, d1, d2, d3⟩ := HSK.out _ (Lib.hid ((HD.out.drew.then (Turns.alloc _ _)).then ht2)); have hz := HAL.out _ ht2; have HZ := Lib.hid hz; obtain ⟨⟨z0, z1, z2, z3, z4, z5, z6⟩, zf⟩ := HCLH.out _ hz; have HT2 := Lib.hid ht2; clear hz)))
    all_goals
      clear HAL HCLH HSK HV1 HTW q0 q1 q2 q3
      go_wp2
      go_meet
      first
        | (obtain ⟨s1, s2⟩ := sn_set HZ.out (.string x.name) (.int .i64 x.val) (.int .i64 x.tm) (.bool x.cnt) (.int .i64 v) (.bool false) (.int .i64 0)
           have hT : Turns [] W0 w2 := (HD.out.drew.then (Turns.alloc _ _)).then HT2.out
           have hT2 := hT.trans s2 fun i hi => .inr (by rw [List.mem_singleton] at hi; rw [hi]; exact Nat.le_refl _)
           clear HZ
           exact ⟨W0.heap.size, rfl, Lib.hid ⟨s1, Nat.le_refl _, hT2⟩⟩)
        | exact ⟨w2.heap.size, rfl, Lib.hid ⟨heap_alloc_new w2 _, HT2.out.size, HT2.out.then (Turns.alloc _ _)⟩⟩
  case rest =>
  obtain ⟨q, rfl, HC⟩ := hcut
  have hr0 : w.heap.size + 1 < W0.heap.size := lt_of_block HP0.out.res
  have q0 := (HP0.out.pre HC.out.2.2).bx.c0
  have HCl := Lib.hid (clone_nm x.name wc HX.out)
  go_wp2_with fail
  refine HCl.out.mono ?_
  rintro e w1 ⟨rfl, ht1⟩
  have HT1 := Lib.hid ht1
  have HQ1 : Hid (w1.heap[q]? = some (.cells #[.string x.name, .int .i64 x.val, .int .i64 x.tm, .bool x.cnt, .int .i64 v, .bool false, .int .i64 0] 71 (0, 0))) := Lib.hid ((ht1.block q (lt_of_block HC.out.1) (by simp)).trans HC.out.1)
  obtain ⟨z0, z1, z2, z3, z4, z5, z6, zf⟩ := seen_cells HQ1.out
  clear ht1 q0 HCl z1 z2 z3 z4 z5 z6
  go_upto_region 3 with fail
  obtain ⟨w2, hw2⟩ : ∃ w2, w1.setCell ⟨q, 0, none⟩ (.string x.name) = w2 := ⟨_, rfl⟩
  have HQ2 : Hid (w2.heap[q]? = some (.cells #[.string x.name, .int .i64 x.val, .int .i64 x.tm, .bool x.cnt, .int .i64 v, .bool false, .int .i64 0] 71 (0, 0))) := Lib.hid (by rw [← hw2]; exact heap_setCell_same w1 q 0 _ _ (.string x.name) HQ1.out)
  have hqW : W0.heap.size ≤ q := HC.out.2.1
  have HT2 : Hid (Turns [] W0 w2) := Lib.hid ((HC.out.2.2.then HT1.out).trans (show Turns [q] w1 w2 by rw [← hw2]; exact Turns.setCell _ _ _ (by simp)) fun i hi => .inr (by simp at hi; omega))
  rw [hw2]
  clear hw2 z0 zf HQ1 HT1 HC
  obtain ⟨z0, z1, z2, z3, z4, z5, z6, zf⟩ := seen_cells HQ2.out
  have hb : (v != 1) = true := by simpa using hv1
  have HV1 := Lib.hid hv1
  have HR := Lib.hid (HP0.out.pre HT2.out)
  obtain ⟨r0, r1, r2, r3, r4, r5, r6, rf⟩ := seen_cells HR.out.res
  have hqr : q ≠ w.heap.size + 1 := by omega
  clear hv1
  go_wp2_with fail
  obtain ⟨s1, s2⟩ := sn_set HR.out.res (.string x.name) (.int .i64 x.val) (.int .i64 x.tm) (.bool x.cnt) (.int .i64 v) (.bool false) (.int .i64 0)
  exact bodyPost_ret (results_cell_row (P := Try.prog) rfl _ _ (w.heap.size + 1) 71 #[.string x.name, .int .i64 x.val, .int .i64 x.tm, .bool x.cnt, .int .i64 v, .bool false, .int .i64 0] (0, 0) _ rfl s1 seen_struct rfl (by kernel_rfl)) rfl ⟨rfl, HR.out.bx.turns.trans s2 fun i hi => .inr (by simp at hi; omega)⟩
end Go.Proofs.Ytcjmieofmogeiaa

namespace Go.Proofs.Ytcjmieofmogeiaa
open Go.RowKit Go.Maps Go.Sort Go.Shelf
attribute [local go_sem] Oper.semAt_some
variable {hd : Hd}

set_option maxRecDepth 100000 in
set_option maxHeartbeats 4000000 in
theorem putZ {w : World} {z : Nat} (h : Zs w z) (owner : Int) (x : Smp) (hx : NmOk x.name) {g : Nat} (hg : w.heap[g]? = some (.cells #[.string x.name, .int .i64 x.val, .int .i64 x.tm, .bool x.cnt] 52 (0, 0))) :
    Calls Try.prog 29 #[ptr z, .int .i64 owner, .slice (some ⟨g, 0, none⟩) 1 1] w fun e w' => (∃ o, e = .returned o ∧ nK.Own w.heap.size w' o [⟨x, 4, false, 0⟩]) ∧ Turns [] w w' := by
  have HZ := Lib.hid h
  have HX := Lib.hid hx
  have HG := Lib.hid hg
  have HLO := Lib.hid (liveOfZ h owner)
  clear h hx hg
  go_enter Try.func29, Try.ntmps29
  go_wp2_with fail
  refine HLO.out.mono ?_
  rintro e w1 ⟨rfl, hu, ht1⟩
  obtain ⟨bu, hbu⟩ : ∃ bu, bu = w.heap.size := ⟨_, rfl⟩
  have HBU := Lib.hid hbu
  rw [← hbu] at hu ⊢
  have HU := Lib.hid hu
  have HT1 := Lib.hid ht1
  have hc := (HG.out ▸ ht1.block g (lt_of_block HG.out) (by simp) : w1.heap[g]? = some (.cells #[.string x.name, .int .i64 x.val, .int .i64 x.tm, .bool x.cnt] 52 (0, 0)))
  have d0 : w1.cell? ⟨g, 0, none⟩ = some (.string x.name) := by simp [World.cell?, hc]
  have d1 : w1.cell? ⟨g, 1, none⟩ = some (.int .i64 x.val) := by simp [World.cell?, hc]
  have d2 : w1.cell? ⟨g, 2, none⟩ = some (.int .i64 x.tm) := by simp [World.cell?, hc]
  have d3 : w1.cell? ⟨g, 3, none⟩ = some (.bool x.cnt) := by simp [World.cell?, hc]
  clear hbu hu ht1 HLO hc
  go_wp2_with fail
  refine wp_loop_rounds 2 ?_
  rw [rounds_succ]
  go_upto_region 8 with fail
  have HBX := Lib.hid (Bx.made w1 x)
  obtain ⟨W0, hW0⟩ : ∃ W0, w1.alloc (.cells #[.string x.name, .int .i64 x.val, .int .i64 x.tm, .bool x.cnt] 52) = W0 := ⟨_, rfl⟩
  rw [hW0] at HBX ⊢
  have q0 := HBX.out.c0
  have q1 := HBX.out.c1
  have q2 := HBX.out.c2
  have q3 := HBX.out.c3
  have HT0 := Lib.hid (HT1.out.then HBX.out.turns)
  have HPN := Lib.hid (putNo (w := W0) (p := z) owner x HX.out 4 (by decide) (fun W hW => verZ (HZ.out.pre (HT0.out.then hW)) x HX.out))
  clear hW0 d0 d1 d2 d3
  go_wp2_with fail
  refine HPN.out.mono ?_
  rintro e w2 ⟨rfl, ht2⟩
  have HT2 := Lib.hid (HT0.out.then ht2)
  have HU2 := Lib.hid ((HU.out.turns HBX.out.turns (by simp)).turns ht2 (by simp))
  have HBX2 := Lib.hid ((ht2.block _ (lt_of_block HBX.out.blk) (by simp)).trans HBX.out.blk)
  have HOW := Lib.hid (fun C => (EK.Own.nil (K := nK) w.heap.size (w2.alloc C) (Nat.zero_le _)))
  have HBS := Lib.hid (fun C => show w.heap.size ≤ (w2.alloc C).heap.size from Nat.le_trans HT2.out.size (by simp))
  clear ht2 q0 q1 q2 q3 HPN
  go_upto_region 9 with (at_builtin; refine EK.wpList_append nOk rfl (.tmp 24) (.tmp 29) rfl w.heap.size _ [] rfl (HOW.out _) (w2.heap.size + 1) (some ⟨w2.heap.size, 0, none⟩) [⟨x, 4, false, 0⟩] 1 1 rfl rfl (EK.Reads.lone nOk (W := w2) ⟨x, 4, false, 0⟩ _ _ rfl rfl) (by simp) (by simp) (HBS.out _) ?_; intro v2 w3 ho2 ht2 hf2; have HO3 := Lib.hid ho2; have HT3 := Lib.hid ((Turns.alloc (F := []) w2 _).then ht2); clear ho2 ht2 hf2)
  have q0 : w3.cell? ⟨w1.heap.size, 0, none⟩ = some (.string x.name) := by simp [World.cell?, (HT3.out.block _ (lt_of_block HBX2.out) (by simp)).trans HBX2.out]
  have hu3 := HU2.out.turns HT3.out (by simp)
  obtain ⟨w4, hrun, hm4, htu⟩ := hu3.drop (t := 64) (e := 91) sm_keyed Try.underlying64 HX.out.key 0
  have hrun' : (Builtin.delete_ #[64, 9] 0 #[.map (some bu), .string x.name]).run Try.prog w3 = .ok (.tuple #[]) w4 := hrun
  have hbo : bu ∉ ownB v2 := map_not_own hu3 (HO3.out.low (Nat.zero_le _))
  have HT4 : Hid (Turns [] w w4) := Lib.hid ((HT2.out.then HT3.out).trans htu fun i hi => .inr (by rw [List.mem_singleton] at hi; rw [hi, HBU.out]; exact Nat.le_refl _))
  have HO4 : Hid (nK.Own w.heap.size w4 v2 [⟨x, 4, false, 0⟩]) := Lib.hid (HO3.out.turns htu fun i hi hm => by rw [List.mem_singleton] at hm; subst hm; exact hbo (by unfold ownB; rw [hi]; simp))
  have HM4 := Lib.hid hm4
  clear hu3 hm4 htu hbo hrun
  go_wp2_with fail
  rw [rounds_succ]
  go_wp2_with (at_range; refine wpList_range_g nameKD rfl _ 64 rfl 91 sm_keyed Try.underlying64 pread bu _ _ rfl HM4.out ?_; intro w0 hrg0 ht0 hs0)
  go_frame
  have HR0 := Lib.hid hrg0
  have HT5 := Lib.hid (HT4.out.then ht0)
  have HO5 := Lib.hid (HO4.out.turns ht0 (by simp))
  clear hrg0 ht0 hs0
  go_loopw [] (fun wr => ∃ left cnt, RangeG nameKD pread wr bu w4.heap.size (fun y => if y = x.name then none else none) left cnt ∧ Hid (Turns [] w wr ∧ nK.Own w.heap.size wr v2 [⟨x, 4, false, 0⟩])) (fun wr => wr.rangeLeft bu w4.heap.size)
  case atStart => exact ⟨_, _, HR0.out, Lib.hid ⟨HT5.out, HO5.out⟩⟩
  case round =>
    obtain ⟨left, cnt, hrg, HQ⟩ := hrel
    have HRG := Lib.hid hrg
    clear hrg
    go_wp2_with (at_next; refine wpList_next_g nameKD rfl _ rfl sm_keyed pread pread_inj bu w4.heap.size _ left cnt rfl HRG.out ?_ ?_)
    · intro hl0
      clear hl0
      go_wp2
      go_ret
      exact ⟨⟨_, rfl, HQ.out.2⟩, HQ.out.1⟩
end Go.Proofs.Ytcjmieofmogeiaa
