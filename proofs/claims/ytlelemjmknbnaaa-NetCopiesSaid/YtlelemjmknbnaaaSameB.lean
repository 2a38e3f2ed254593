/- same: the walk. -/
import Derived.Test.YtlelemjmknbnaaaSameQ
import Derived.Test.YtlelemjmknbnaaaNetSame0
import Derived.Test.YtlelemjmknbnaaaNetAll
import Derived.Sort.QuietIn
namespace Go.Proofs.Ytlelemjmknbnaaa
open Go.RowKit Go.Maps Go.Sort Go.Shelf
attribute [local go_sem] Oper.semAt_some

theorem lt_of_deferred {w : World} {D : Nat} {x : Obj} (h : w.heap[D]? = some x) : D < w.heap.size := lt_of_block h

set_option maxRecDepth 100000 in
set_option maxHeartbeats 4000000 in
theorem same_any {B : Nat} {w : World} {bn bm rn : Nat} {v : Value} {most : Int} {N t : Nat} {L : List NE} {rs : List Rc} (h : Two B w bn bm rn v most N L rs) (hN : N ≤ 900) (hs : SmallR t rs) (ht : t ≤ 100000) (leave : Int) :
    Calls Try.prog 13 #[.pointer (some ⟨bn, 0, none⟩), .pointer (some ⟨rn, 0, none⟩), .int .i64 leave] w fun e w' => e = .returned (.bool true) ∧ Below w.heap.size w w' := by
  refine (callsIn_wide (n := 6)).1 ?_
  refine callsIn_of_wp_marks Try.func13 rfl trivial ?_ rfl
  simp only [Try.ntmps13, List.size_toArray, List.length_cons, List.length_nil, Nat.reduceAdd, Nat.reduceSub, Array.replicate_succ, Array.replicate_zero, List.push_toArray, List.append_toArray, List.nil_append, List.cons_append]
  refine wpIn_wide.2 ?_
  have H := Lib.hid h
  have HN := Lib.hid hN
  have HS := Lib.hid hs
  have HT := Lib.hid ht
  have HL := Lib.hid (show rs.length ≤ 1000 from Nat.le_trans h.doc.len (by omega))
  clear h hN hs ht
  go_upto_block 0 with fail
  obtain ⟨W0, hW0⟩ : ∃ W0, ((w.alloc (.cells #[.pointer (some ⟨rn, 0, none⟩)] 27)).alloc (.cells #[.int .i64 leave] 3)).alloc (.cells #[.bool false] 4) = W0 := ⟨_, rfl⟩
  have hs0 : W0.heap.size = w.heap.size + 3 := by rw [← hW0]; simp
  have hT0 : Turns [] w W0 := by rw [← hW0]; exact ((Turns.alloc (F := []) w _).trans (Turns.alloc (F := []) _ _) (by simp)).trans (Turns.alloc (F := []) _ _) (by simp)
  have b4 : Boxed W0 w.heap.size 27 (.pointer (some ⟨rn, 0, none⟩)) := by rw [← hW0]; exact ((Boxed.new w _ _).alloc _).alloc _
  have b5 : Boxed W0 (w.heap.size + 1) 3 (.int .i64 leave) := by
    rw [← hW0]
    have := Boxed.new (w.alloc (.cells #[.pointer (some ⟨rn, 0, none⟩)] 27)) 3 (.int .i64 leave)
    rw [World.size_alloc] at this
    exact this.alloc _
  have b6 : Boxed W0 (w.heap.size + 1 + 1) 4 (.bool false) := by
    rw [← hW0]
    have := Boxed.new ((w.alloc (.cells #[.pointer (some ⟨rn, 0, none⟩)] 27)).alloc (.cells #[.int .i64 leave] 3)) 4 (.bool false)
    rw [World.size_alloc, World.size_alloc] at this
    exact this
  have H0 := Lib.hid (H.out.kept hT0)
  have HT0 := Lib.hid hT0
  have HS0 := Lib.hid hs0
  have HB4 : Hid (∀ W, Turns [] W0 W → W.cell? ⟨w.heap.size, 0, none⟩ = some (.pointer (some ⟨rn, 0, none⟩))) := Lib.hid (fun W hW => (World.cell?_of_block (hW.block w.heap.size (by omega) (by simp))).trans b4.cell)
  have HB5 : Hid (∀ W, Turns [] W0 W → W.cell? ⟨w.heap.size + 1, 0, none⟩ = some (.int .i64 leave)) := Lib.hid (fun W hW => (World.cell?_of_block (hW.block (w.heap.size + 1) (by omega) (by simp))).trans b5.cell)
  have HB6 : Hid (∀ W, Turns [] W0 W → Boxed W (w.heap.size + 1 + 1) 4 (.bool false)) := Lib.hid (fun W hW => (hW.block _ (by omega) (by simp)).trans b6)
  have HN3 : Hid (∀ W, Turns [] W0 W → W.cell? ⟨rn, 2, none⟩ = some (.int .i64 (N : Int))) := Lib.hid (fun W hW => ((H0.out.kept hW).doc.cells).2.2.1)
  rw [hW0]
  clear hW0 hs0 hT0 b4 b5 b6
  go_cut [7, 8, 9] from 15 to 63 (fun v7 v8 v9 wx => ∃ w3, w3 = wx ∧ Hid (Turns [] W0 wx))
  case first =>
    go_wp2_with fail
    go_loopw [7] (fun iv wr => ∃ k : Int, -1 ≤ k ∧ k ≤ (N : Int) + 2 ∧ iv = .int .i64 k ∧ Hid (Turns [] W0 wr)) (fun iv _ => ((N : Int) + 2 - intOf iv).toNat)
    case atStart => exact ⟨-1, by omega, by omega, rfl, Lib.hid (Turns.refl _ _)⟩
    case round =>
      obtain ⟨k, hk1, hk2, rfl, HR⟩ := hrel
      have a4 := HB4.out wr HR.out
      have a3 := HN3.out wr HR.out
      have hN9 : (N : Int) ≤ 900 := by have := HN.out; omega
      by_cases hle : k ≤ (N : Int) + 1
      · have hk : (Lit.int .i64 k).wf = true := by simp [Lit.wf, IntKind.min, IntKind.max, IntKind.signed, IntKind.bits]; omega
        have HSN := Lib.hid ((H0.out.kept HR.out).sent HS.out HT.out k hk)
        have HK := Lib.hid hk
        clear hk
        go_wp2_with fail
        refine HSN.out.mono ?_
        rintro e w1 ⟨⟨X, rfl, hX⟩, hT1⟩
        have H1 := Lib.hid ((H0.out.kept HR.out).kept hT1)
        have HF := Lib.hid (H1.out.five HL.out HS.out HT.out k HK.out)
        have HT1 := Lib.hid (HR.out.trans hT1 (by simp))
        have HX := Lib.hid hX
        obtain ⟨S, hS⟩ : ∃ S : ByteArray, S = ⟨(outR (getR rs k)).toArray⟩ := ⟨_, rfl⟩
        obtain ⟨n, hn⟩ : ∃ n, n = (outR (getR rs k)).length := ⟨_, rfl⟩
        rw [← hS, ← hn] at HF
        have HCV : Hid (∀ W, Turns [] w1 W → (convert 30 9 X).run Try.prog W = .ok (.string S) W) := Lib.hid (fun W hW => by rw [hS]; exact (HX.out.turns hW (by simp)).conv)
        have HBX : Hid (∀ W, Turns [] w1 W → W.cell? ⟨w.heap.size, 0, none⟩ = some (.pointer (some ⟨rn, 0, none⟩))) := Lib.hid (fun W hW => HB4.out W (HT1.out.trans hW (by simp)))
        have HSK : Hid (∀ w', Hid (Turns [] w1 w') → (w'.cell? ⟨w.heap.size, 0, none⟩ = some (.pointer (some ⟨rn, 0, none⟩)) ∧ (convert 30 9 X).run Try.prog w' = .ok (.string S) w' ∧ Hid (Turns [] w1 w'))) := Lib.hid (fun w' hw => ⟨HBX.out _ hw.out, HCV.out _ hw.out, hw⟩)
        have hform : (X = .slice none 0 0 ∧ n = 0) ∨ ∃ g cap, X = .slice (some ⟨g, 0, none⟩) n cap := by
          rcases hX.form with ⟨e1, e2⟩ | ⟨g, cap, e1, _⟩
          · exact .inl ⟨e1, by rw [hn, e2]; rfl⟩
          · exact .inr ⟨g, cap, by rw [hn]; exact e1⟩
        have HFM := Lib.hid hform
        obtain ⟨bo, hbo⟩ : ∃ bo, bo = wr.heap.size := ⟨_, rfl⟩
        have HM := Lib.hid (show ∃ m, m.length = n ∧ Owned bo w1 X m from ⟨_, hn.symm, by rw [hbo]; exact hX⟩)
        have HWR := Lib.hid (show W0.heap.size ≤ bo by rw [hbo]; exact HR.out.size)
        have hn3 : n ≤ 100000 := by
          rw [hn]
          cases hg : getR rs k with
          | none => exact Nat.zero_le _
          | some r =>
            have h1 := HS.out r (getR_mem hg)
            have h2 := HT.out
            show r.out.length ≤ _
            omega
        have hb1 : (S.toList != S.toList) = false := bne_self_eq_false _
        generalize stR (getR rs k) = s at HF
        generalize leftR (getR rs k) = lf at HF
        have hb2 : (s != s) = false := bne_self_eq_false _
        have hb3 : ((lf : Int) != (lf : Int)) = false := bne_self_eq_false _
        clear hX hT1 hS hn hform HX HCV HBX hbo
        go_upto_region 5 with fail
        refine wp_region_noPanic ?_
        go_region_held (fun w' => w'.cell? ⟨w.heap.size, 0, none⟩ = some (.pointer (some ⟨rn, 0, none⟩)) ∧ (convert 30 9 X).run Try.prog w' = .ok (.string S) w' ∧ Hid (Turns [] w1 w')) (first | exact HSK.out _ (Lib.hid (Turns.refl _ _).drew) | (refine HSK.out _ ?_; assumption) | (refine HSK.out _ ?_; go_split_ands; assumption)) ((first | (go_at_call 38; refine (HF.out.st _ (by go_split_ands; assumption)).mono ?_; rintro e w2 ⟨rfl, ht2⟩) | (go_at_call 39; refine (HF.out.rst _ (by go_split_ands; assumption)).mono ?_; rintro e w3 ⟨rfl, ht3⟩) | (go_at_call 40; refine (HF.out.left _ (by go_split_ands; assumption)).mono ?_; rintro e w4 ⟨rfl, ht4⟩) | (go_at_call 41; refine (HF.out.rleft _ (by go_split_ands; assumption)).mono ?_; rintro e w5 ⟨rfl, ht5⟩) | (go_at_call 42; refine (HF.out.rout _ (by go_split_ands; assumption)).mono ?_; rintro e w6 ⟨A6, c6, rfl, hcv6, ht6⟩)))
        refine NoPanic.normal ?_
        have HT6 := Lib.hid (HT1.out.trans ht6.out (by simp))
        have HM6 := Lib.hid (show ∃ m, m.length = n ∧ Owned bo w6 X m from by obtain ⟨m, h1, h2⟩ := HM.out; exact ⟨m, h1, h2.turns ht6.out (by simp)⟩)
        clear HF HSK HM hcv6 ht2 ht3 ht4 ht5 ht6
        rcases HFM.out with ⟨e1, e2⟩ | ⟨g, cap, e1⟩
        · subst e1 e2
          go_wp2_with fail
          go_loopw [9] (fun iv wr => iv = .int .i64 0 ∧ Hid (Turns [] W0 wr)) (fun _ _ => 0)
          case atStart => exact ⟨rfl, HT6⟩
          case round =>
            obtain ⟨rfl, HTr⟩ := hrel
            go_wp2
            go_roundw
            case rel => exact ⟨k + 1, by omega, by omega, by go_num, HTr⟩
            case measure => simp [intOf] <;> omega
        · subst e1
          go_wp2_with fail
          go_loopw [9] (fun iv wr => ∃ j : Nat, j ≤ n ∧ iv = .int .i64 j ∧ Hid (∃ m, m.length = n ∧ Owned bo wr (.slice (some ⟨g, 0, none⟩) n cap) m) ∧ Hid (Turns [] W0 wr)) (fun iv _ => n - (intOf iv).toNat)
          case atStart => exact ⟨0, Nat.zero_le _, rfl, HM6, HT6⟩
          case round =>
            obtain ⟨j, hj, rfl, HMr, HTr⟩ := hrel
            obtain ⟨m, hm, ho⟩ := HMr.out
            have hj0 : (0 : Int) ≤ (j : Int) := by omega
            by_cases hlt : j < n
            · have hlt' : (j : Int) < (n : Int) := by omega
              obtain ⟨cb, hcb, hfb⟩ := ho.cellAt rfl j (by omega)
              have hup := up_byte cb
              have HM2 := Lib.hid (show ∃ m, m.length = n ∧ Owned bo (wr.setCell ⟨g, j, none⟩ (.int .u8 ((cb + 1).toNat : Int))) (.slice (some ⟨g, 0, none⟩) n cap) m from ⟨m.set j (cb + 1), by simpa using hm, ho.set rfl j (cb + 1)⟩)
              have HT2 := Lib.hid (bump_turns rfl ho HWR.out HTr.out j (.int .u8 ((cb + 1).toNat : Int)))
              clear hm ho
              go_wp2
              go_roundw
              case rel => exact ⟨j + 1, by omega, by go_num, HM2, HT2⟩
              case measure => simp [intOf] <;> omega
            · have hge : decide ((j : Int) < (n : Int)) = false := by rw [decide_eq_false_iff_not]; omega
              clear hm ho
              go_wp2
              go_roundw
              case rel => exact ⟨k + 1, by omega, by omega, by go_num, HTr⟩
              case measure => simp [intOf] <;> omega
      · have hge : decide (k ≤ (N : Int) + 1) = false := by rw [decide_eq_false_iff_not]; exact hle
        go_wp2_with fail
        go_meet
        exact ⟨_, rfl, HR⟩
  case rest =>
  obtain ⟨w3, -, HT3⟩ := hcut
  have H3 := Lib.hid (H0.out.kept HT3.out)
  have HLL := Lib.hid (show L.length = rs.length from H.out.link.len)
  have HA := Lib.hid (all_any H3.out.net (by rw [HLL.out]; exact HL.out) (fun x hx => by have := HS.out.inn H.out.link x hx; have := HT.out; omega) (by have := HN.out; omega))
  go_wp2_with fail
  refine HA.out.mono ?_
  rintro e w4 ⟨⟨bs, va, rfl, hbs, hlt4, hca, hown⟩, hb4⟩
  have HT34 := Lib.hid (Turns.of_below hb4 (Nat.le_refl _))
  have HT4 := Lib.hid (HT3.out.trans HT34.out (by simp))
  have H4 := Lib.hid (H3.out.kept HT34.out)
  have HO4 := Lib.hid hown
  have HCA := Lib.hid hca
  have HLT4 := Lib.hid hlt4
  have hne : ∀ (cap : Array Value) (w : World), (binOp .eql 56 (.func (.func 51) #[] cap) .nilFunc).run Try.prog w = .ok (.bool false) w := fun cap w => by kernel_rfl
  obtain ⟨Av, cv, hv⟩ : ∃ A c, v = .slice A rs.length c := by
    obtain ⟨A, c, hv, _⟩ := H3.out.doc.form
    exact ⟨A, c, hv⟩
  subst hv
  have a4 := HB4.out w4 HT4.out
  have d0 := H4.out.doc.cells.1
  have HLC : Hid (∀ W q, W = w4.drewN q → Calls Try.prog 35 #[.pointer (some ⟨bn, 0, none⟩)] W fun e w' => e = .returned (.int .i64 (rs.length : Int)) ∧ w' = W) := Lib.hid (by
    rintro W q rfl
    have h := len_any (H4.out.kept ((Turns.refl [] w4).drewN q)).net
    rw [HLL.out] at h
    exact h)
  have hlr : ((rs.length : Int) != (rs.length : Int)) = false := bne_self_eq_false _
  clear hbs hlt4 hca hown hb4 HA
  go_wp2_with fail
  go_quiet ((go_at_call 35; exact Calls.quiet_of_same (HLC.out _ _ rfl)))
  obtain ⟨w5, hw5⟩ : ∃ w5, w4.drewN nq = w5 := ⟨_, rfl⟩
  have hT45 : Turns [] w4 w5 := by rw [← hw5]; exact (Turns.refl [] w4).drewN nq
  have HT5 := Lib.hid (HT4.out.trans hT45 (by simp))
  have H5 := Lib.hid (H4.out.kept hT45)
  have HO5 := Lib.hid (HO4.out.turns hT45 (by simp))
  have HCA5 := Lib.hid ((World.cell?_of_block (hT45.block bs HLT4.out (by simp))).trans HCA.out)
  have HLT5 := Lib.hid (Nat.lt_of_lt_of_le HLT4.out hT45.size)
  rw [hw5]
  clear hw5 hT45 a4 d0 HLC HO4 HCA HLT4 H4 HT4 HT34
  go_upto_block 4 with fail
  obtain ⟨wa, hwa⟩ : ∃ wa, w5.alloc (.cells #[.int .i64 0] 3) = wa := ⟨_, rfl⟩
  have hTa : Turns [] w5 wa := by rw [← hwa]; exact Turns.alloc _ _
  have bT : Boxed wa w5.heap.size 3 (.int .i64 0) := by rw [← hwa]; exact Boxed.new w5 _ _
  have q1 := bT.cell
  have q2 := bT.frozen
  have HTA := Lib.hid hTa
  rw [hwa]
  clear hwa hTa bT
  go_wp2_with fail
  refine wp_loop_rounds 3 ?_
  rw [rounds_succ]
  go_wp2_with fail
  obtain ⟨W1, hW1⟩ : ∃ W1, wa.alloc (.cells #[.int .i64 0] 3) = W1 := ⟨_, rfl⟩
  have hT1 : Turns [] wa W1 := by rw [← hW1]; exact Turns.alloc _ _
  have bK : Boxed W1 wa.heap.size 3 (.int .i64 0) := by rw [← hW1]; exact Boxed.new wa _ _
  have hs1 : W1.heap.size = wa.heap.size + 1 := by rw [← hW1]; simp
  rw [hW1]
  clear hW1
  have HT51 := Lib.hid (HTA.out.trans hT1 (by simp))
  obtain ⟨bl, hbl, hbl2⟩ : ∃ bl, (∀ g, va.ownBlock = some g → g = bl) ∧ bl < w5.heap.size := by
    rcases HO5.out.form with ⟨e1, _⟩ | ⟨g, cap, e1, _, hg, _⟩
    · exact ⟨0, fun g hg => by rw [e1] at hg; simp [Value.ownBlock] at hg, Nat.lt_of_le_of_lt (Nat.zero_le _) HLT5.out⟩
    · exact ⟨g, fun g2 hg2 => by rw [e1] at hg2; simpa [Value.ownBlock] using hg2.symm, hg⟩
  refine (wpIn_wide (n := 6)).1 ?_
  refine' wpIn_rangeFunc_ownF (F := Fence.wide) (n := 6) rfl (by omega) (gf := 51) (lb := #[.pointer (some ⟨bs, 0, none⟩)]) rfl trivial (enters_of Try.func51 (by kernel_rfl) rfl)
    (ent_stops Fence.wide 5 trivial rfl (by omega) bs bl _ va (entsOf L) (by rw [entsOf, List.length_map, HLL.out]; exact HL.out) W1 (Nat.lt_of_lt_of_le HLT5.out HT51.out.size) ((World.cell?_of_block (HT51.out.block bs HLT5.out (by simp))).trans HCA5.out) (HO5.out.turns HT51.out (by simp)) hbl)
    KeepB.t (KeepB.b (Nat.lt_of_lt_of_le hbl2 HT51.out.size)) (Below.refl _ _) (fun _ => rfl)
    (fun pre W => (W.cell? ⟨wa.heap.size, 0, none⟩ = some (.int .i64 (pre.length : Int)) ∧ W.frozen? ⟨wa.heap.size, 0, none⟩ = false) ∧ pre <+: entsOf L ∧ Below wa.heap.size wa W)
    (fun c pre W => (c = .ret ∧ ¬ pre <+: entsOf L) ∨ (c = .exit 6 ∧ (W.cell? ⟨wa.heap.size, 0, none⟩ = some (.int .i64 leave) ∧ W.frozen? ⟨wa.heap.size, 0, none⟩ = false) ∧ Below wa.heap.size wa W))
    (OwnFrom.and (Own.from (fun s A B row hs hg hr => ⟨cell_kept hs.1 hg hr, (frozen_kept hs.1 hg hr).trans hs.2⟩) _) (OwnFrom.and (fun s A B row hs _ _ => hs) (ownFrom_below (Nat.le_refl _) hT1.size)))
    (fun c s A B row hs hg hr => by
      rcases hs with h1 | ⟨h1, h2, h3⟩
      · exact .inl h1
      · exact .inr ⟨h1, ⟨cell_kept h2.1 hg (fun r e => (hr r e).2), (frozen_kept h2.1 hg (fun r e => (hr r e).2)).trans h2.2⟩, ownFrom_below (β := Unit) (Nat.le_refl _) hT1.size () A B row h3 hg hr⟩)
    ⟨⟨bK.cell, bK.frozen⟩, List.nil_prefix, hT1.below (by simp) (Nat.le_refl _)⟩
    _ ?assign ?body ?done ?stop
  case assign =>
    intro l x W K hK
    unfold encEnt
    gi_wp2
    exact hK
  case body =>
    rintro l pre x W ⟨⟨hck, hfk⟩, hpre, hB⟩ hlt
    have HTW := Lib.hid (HTA.out.trans (Turns.of_below hB (Nat.le_refl _)) (by simp))
    have HTW0 := Lib.hid (HT5.out.trans HTW.out (by simp))
    have HW := Lib.hid (H5.out.kept HTW.out)
    have a4 := HB4.out W HTW0.out
    have a5 := HB5.out W HTW0.out
    have d0 := HW.out.doc.cells.1
    have qT := (hB.cell (p := ⟨w5.heap.size, 0, none⟩) (by have := HTA.out.size; have := World.block_lt_of_cell? _ _ q1; exact this)).trans q1
    have bR := HB6.out W HTW0.out
    have c6 := bR.cell
    have f6 := bR.frozen
    have hl2 : (rs.length : Int) ≤ 1000 := by have := HL.out; omega
    have hk2 : (pre.length : Int) ≤ 1000 := by
      have := hpre.length_le
      rw [entsOf, List.length_map, HLL.out] at this
      omega
    have HES := Lib.hid (show entsOf L = rs.map (fun r => (r.id, r.host)) from by
      have h1 := H.out.link
      unfold Link at h1
      have h2 : entsOf L = (L.map Prod.fst).map (fun c => (c.id, c.host)) := by unfold entsOf; rw [List.map_map]; rfl
      rw [h2, h1, List.map_map]
      rfl)
    by_cases hge : rs.length ≤ pre.length
    · have hge' : (rs.length : Int) ≤ (pre.length : Int) := by omega
      have HX := Lib.hid (show ¬ (pre ++ [x]) <+: entsOf L from fun hp => by
        have := hp.length_le
        rw [HES.out, List.length_append, List.length_map] at this
        simp at this
        omega)
      clear hge
      gi_wp2
      refine wpIn_region_quiet_r (by kernel_rfl) (by kernel_rfl) (by kernel_rfl) ?_
      repeat (gi_big_quiet_step (fail))
      refine wpQuietIn_nil ?_
      rintro _ ⟨nq, rfl⟩
      gi_wp2
      exact ⟨(keeps_drewN W nq).trans (KeepsOthers.setCell _ _ _), .inl ⟨rfl, HX.out⟩⟩
    · obtain ⟨r, hr⟩ : ∃ r, rs[pre.length]? = some r := ⟨_, List.getElem?_eq_getElem (by omega)⟩
      have hge' : decide ((rs.length : Int) ≤ (pre.length : Int)) = false := by rw [decide_eq_false_iff_not]; omega
      have hgd : decide (rs.length ≤ pre.length) = false := by rw [decide_eq_false_iff_not]; omega
      have hkl : (pre.length : Int) < (rs.length : Int) := by omega
      have hk0 : (0 : Int) ≤ (pre.length : Int) := by omega
      obtain ⟨A0, c0, e0, hf0⟩ := HW.out.doc.form
      obtain ⟨e1, -, e2⟩ := Value.slice.inj e0
      obtain ⟨g, e3, _, _, _, ⟨c1, c2, _⟩, _⟩ := hf0 pre.length r hr
      rw [e3] at e1
      subst e1
      have hes : (entsOf L)[pre.length]? = some (r.id, r.host) := by rw [HES.out, List.getElem?_map, hr]; rfl
      have hpx : (pre ++ [x]) <+: entsOf L ↔ x = (r.id, r.host) := by
        obtain ⟨tl, htl⟩ := hpre
        rw [← htl, List.getElem?_append_right (Nat.le_refl _), Nat.sub_self] at hes
        rw [← htl, List.prefix_append_right_inj]
        cases tl with
        | nil => simp at hes
        | cons y tl =>
          simp at hes
          rw [hes]
          simp
      by_cases hid : r.id = x.1
      · have hi1 : ((r.id : Int) != (x.1 : Int)) = false := by rw [bne_eq_false_iff_eq]; omega
        by_cases hho : r.host = x.2
        · have hs1 : ((⟨r.host.toArray⟩ : ByteArray).toList != (⟨x.2.toArray⟩ : ByteArray).toList) = false := by rw [hho]; exact bne_self_eq_false _
          have hs2 : ((⟨r.host.toArray⟩ : ByteArray).toList == (⟨x.2.toArray⟩ : ByteArray).toList) = true := by rw [hho]; exact beq_self_eq_true _
          have hs3 : (r.host != x.2) = false := by rw [hho]; exact bne_self_eq_false _
          have hs4 : (r.host == x.2) = true := by rw [hho]; exact beq_self_eq_true _
          have HP := Lib.hid (hpx.2 (by rw [hid, hho]))
          have HBL : Hid (bl ≠ wa.heap.size ∧ bl < W.heap.size) := Lib.hid ⟨by have := HTA.out.size; omega, by have := HTW.out.size; omega⟩
          have HBB := Lib.hid hB
          have hlt1 : w5.heap.size < wa.heap.size := World.block_lt_of_cell? _ _ q1
          have hlt2 : w.heap.size + 3 ≤ w5.heap.size := by have h1 := HT5.out.size; have h2 := HS0.out; omega
          have hn1 : ¬ w5.heap.size = wa.heap.size := by omega
          have hn2 : ¬ wa.heap.size = w5.heap.size := by omega
          have hn3 : ¬ w.heap.size + 1 = wa.heap.size := by omega
          have hn4 : ¬ wa.heap.size = w.heap.size + 1 := by omega
          clear hes hpx hho hid hr hge hf0 e0 e2 hB hlt1 hlt2
          by_cases hlv : ((pre.length : Int) + 1 == leave) = true
          · have hlv2 : (pre.length : Int) + 1 = leave := by simpa using hlv
            subst hlv2
            gi_wp2
            refine wpIn_region_quiet_r (by kernel_rfl) (by kernel_rfl) (by kernel_rfl) ?_
            repeat (gi_big_quiet_step (fail))
            refine wpQuietIn_nil ?_
            rintro _ ⟨nq, rfl⟩
            gi_wp2
            obtain ⟨k1, k2⟩ := box_set (nq := nq) (v := .int .i64 ((pre.length : Int) + 1)) hck hfk
            exact ⟨(keeps_drewN W nq).trans (KeepsOthers.setCell _ _ _), .inr ⟨rfl, ⟨k1, k2⟩, box_below HBB.out (Nat.le_refl _)⟩⟩
          · have hlv2 : ((pre.length : Int) + 1 == leave) = false := by simpa using hlv
            clear hlv
            gi_wp2
            refine wpIn_region_quiet_r (by kernel_rfl) (by kernel_rfl) (by kernel_rfl) ?_
            repeat (gi_big_quiet_step (fail))
            refine wpQuietIn_nil ?_
            rintro _ ⟨nq, rfl⟩
            gi_wp2
            obtain ⟨k1, k2⟩ := box_set (nq := nq) (v := .int .i64 ((pre.length : Int) + 1)) hck hfk
            exact ⟨(keeps_drewN W nq).trans (KeepsOthers.setCell _ _ _), box_keep HBL.out.1 HBL.out.2, ⟨⟨by rw [k1, List.length_append]; simp, k2⟩, HP.out, box_below HBB.out (Nat.le_refl _)⟩⟩
        · have hs1 : ((⟨r.host.toArray⟩ : ByteArray).toList != (⟨x.2.toArray⟩ : ByteArray).toList) = true := by rw [bne_iff_ne, Lib.toList_data, Lib.toList_data]; exact hho
          have hs2 : ((⟨r.host.toArray⟩ : ByteArray).toList == (⟨x.2.toArray⟩ : ByteArray).toList) = false := by rw [beq_eq_false_iff_ne, Lib.toList_data, Lib.toList_data]; exact hho
          have hs3 : (r.host != x.2) = true := by rw [bne_iff_ne]; exact hho
          have hs4 : (r.host == x.2) = false := by rw [beq_eq_false_iff_ne]; exact hho
          have HX := Lib.hid (fun hp => hho (by rw [hpx.1 hp]))
          clear hes hpx hho hid hr hge hf0 e0 e2
          gi_wp2
          refine wpIn_region_quiet_r (by kernel_rfl) (by kernel_rfl) (by kernel_rfl) ?_
          repeat (gi_big_quiet_step (fail))
          refine wpQuietIn_nil ?_
          rintro _ ⟨nq, rfl⟩
          gi_wp2
          exact ⟨(keeps_drewN W nq).trans (KeepsOthers.setCell _ _ _), .inl ⟨rfl, HX.out⟩⟩
      · have hi1 : ((r.id : Int) != (x.1 : Int)) = true := by rw [bne_iff_ne]; omega
        have HX := Lib.hid (fun hp => hid (by rw [hpx.1 hp]))
        clear hes hpx hid hr hge hf0 e0 e2
        gi_wp2
        refine wpIn_region_quiet_r (by kernel_rfl) (by kernel_rfl) (by kernel_rfl) ?_
        repeat (gi_big_quiet_step (fail))
        refine wpQuietIn_nil ?_
        rintro _ ⟨nq, rfl⟩
        gi_wp2
        exact ⟨(keeps_drewN W nq).trans (KeepsOthers.setCell _ _ _), .inl ⟨rfl, HX.out⟩⟩
  case done =>
    rintro D ys W hD rfl ⟨⟨hck, hfk⟩, -, hB⟩ hK
    have hkl : ((entsOf L).length : Int) = (rs.length : Int) := by rw [entsOf, List.length_map, HLL.out]
    rw [hkl] at hck
    clear hkl
    have HTW := Lib.hid (HTA.out.trans (Turns.of_below hB (Nat.le_refl _)) (by simp))
    have HTW0 := Lib.hid (HT5.out.trans HTW.out (by simp))
    have HW := Lib.hid (H5.out.kept HTW.out)
    have HKD := Lib.hid hK
    have a4 := HB4.out W HTW0.out
    have a5 := HB5.out W HTW0.out
    have d0 := HW.out.doc.cells.1
    have qT := (hB.cell (p := ⟨w5.heap.size, 0, none⟩) (World.block_lt_of_cell? _ _ q1)).trans q1
    clear hB hK
    gi_wp2
    go_wp2_with fail
    go_quiet (fail)
    obtain ⟨wq, hwq⟩ : ∃ wq, W.drewN nq = wq := ⟨_, rfl⟩
    have hTq : Turns [] W wq := by rw [← hwq]; exact (Turns.refl [] W).drewN nq
    have hKq : wq.heap[D]? = some (.deferred (some [])) := by rw [← hwq]; exact HKD.out
    have r1 := (World.cell?_of_block (hTq.block w5.heap.size (World.block_lt_of_cell? _ _ qT) (by simp))).trans qT
    have HTQ := Lib.hid (HTW.out.trans hTq (by simp))
    have HKQ := Lib.hid hKq
    rw [hwq]
    clear hwq hTq hKq qT a4 a5 d0 hck hfk
    have HT51a := HT51
    clear q1 q2 HTA HTW HTW0 HW HKD hT1 bK hs1 HT51
    go_wp2_with fail
    obtain ⟨wb, hwb⟩ : ∃ wb, wq.alloc (.cells #[.int .i64 1] 3) = wb := ⟨_, rfl⟩
    have hTb : Turns [] wq wb := by rw [← hwb]; exact Turns.alloc _ _
    have bT : Boxed wb wq.heap.size 3 (.int .i64 1) := by rw [← hwb]; exact Boxed.new wq _ _
    have q1 := bT.cell
    have q2 := bT.frozen
    have HKB := Lib.hid ((hTb.block D (lt_of_deferred HKQ.out) (by simp)).trans HKQ.out)
    have HTA := Lib.hid (HTQ.out.trans hTb (by simp))
    rw [hwb]
    clear hwb hTb bT r1
    rw [rounds_succ]
    go_wp2_with fail
    obtain ⟨W1, hW1⟩ : ∃ W1, wb.alloc (.cells #[.int .i64 0] 3) = W1 := ⟨_, rfl⟩
    have hT1 : Turns [] wb W1 := by rw [← hW1]; exact Turns.alloc _ _
    have bK : Boxed W1 wb.heap.size 3 (.int .i64 0) := by rw [← hW1]; exact Boxed.new wb _ _
    have hs1 : W1.heap.size = wb.heap.size + 1 := by rw [← hW1]; simp
    rw [hW1]
    clear hW1
    have HT51 := Lib.hid (HTA.out.trans hT1 (by simp))
    refine (wpIn_wide (n := 6)).1 ?_
    refine' wpIn_rangeFunc_ownF (F := Fence.wide) (n := 6) rfl (by omega) (gf := 51) (lb := #[.pointer (some ⟨bs, 0, none⟩)]) rfl trivial (enters_of Try.func51 (by kernel_rfl) rfl)
      (ent_stops Fence.wide 5 trivial rfl (by omega) bs bl _ va (entsOf L) (by rw [entsOf, List.length_map, HLL.out]; exact HL.out) W1 (Nat.lt_of_lt_of_le HLT5.out HT51.out.size) ((World.cell?_of_block (HT51.out.block bs HLT5.out (by simp))).trans HCA5.out) (HO5.out.turns HT51.out (by simp)) hbl)
      KeepB.t (KeepB.b (Nat.lt_of_lt_of_le hbl2 HT51.out.size)) (Below.refl _ _) (fun _ => rfl)
      (fun pre W => (W.cell? ⟨wb.heap.size, 0, none⟩ = some (.int .i64 (pre.length : Int)) ∧ W.frozen? ⟨wb.heap.size, 0, none⟩ = false) ∧ pre <+: entsOf L ∧ Below wb.heap.size wb W)
      (fun c pre W => c = .ret ∧ ¬ pre <+: entsOf L)
      (OwnFrom.and (Own.from (fun s A B row hs hg hr => ⟨cell_kept hs.1 hg hr, (frozen_kept hs.1 hg hr).trans hs.2⟩) _) (OwnFrom.and (fun s A B row hs _ _ => hs) (ownFrom_below (Nat.le_refl _) hT1.size)))
      (fun c s A B row hs hg hr => hs)
      ⟨⟨bK.cell, bK.frozen⟩, List.nil_prefix, hT1.below (by simp) (Nat.le_refl _)⟩
      _ ?assign2 ?body2 ?done2 ?stop2
    case assign2 =>
      intro l x W K hK
      unfold encEnt
      gi_wp2
      exact hK
    case body2 =>
      rintro l pre x W ⟨⟨hck, hfk⟩, hpre, hB⟩ hlt
      have HTW := Lib.hid (HTA.out.trans (Turns.of_below hB (Nat.le_refl _)) (by simp))
      have HTW0 := Lib.hid (HT5.out.trans HTW.out (by simp))
      have HW := Lib.hid (H5.out.kept HTW.out)
      have a4 := HB4.out W HTW0.out
      have a5 := HB5.out W HTW0.out
      have d0 := HW.out.doc.cells.1
      have qT := (hB.cell (p := ⟨wq.heap.size, 0, none⟩) (World.block_lt_of_cell? _ _ q1)).trans q1
      have bR := HB6.out W HTW0.out
      have c6 := bR.cell
      have f6 := bR.frozen
      have hl2 : (rs.length : Int) ≤ 1000 := by have := HL.out; omega
      have hk2 : (pre.length : Int) ≤ 1000 := by
        have := hpre.length_le
        rw [entsOf, List.length_map, HLL.out] at this
        omega
      have HES := Lib.hid (show entsOf L = rs.map (fun r => (r.id, r.host)) from by
        have h1 := H.out.link
        unfold Link at h1
        have h2 : entsOf L = (L.map Prod.fst).map (fun c => (c.id, c.host)) := by unfold entsOf; rw [List.map_map]; rfl
        rw [h2, h1, List.map_map]
        rfl)
      by_cases hge : rs.length ≤ pre.length
      · have hge' : (rs.length : Int) ≤ (pre.length : Int) := by omega
        have HX := Lib.hid (show ¬ (pre ++ [x]) <+: entsOf L from fun hp => by
          have := hp.length_le
          rw [HES.out, List.length_append, List.length_map] at this
          simp at this
          omega)
        clear hge
        gi_wp2
        refine wpIn_region_quiet_r (by kernel_rfl) (by kernel_rfl) (by kernel_rfl) ?_
        repeat (gi_big_quiet_step (fail))
        refine wpQuietIn_nil ?_
        rintro _ ⟨nq, rfl⟩
        gi_wp2
        exact ⟨(keeps_drewN W nq).trans (KeepsOthers.setCell _ _ _), ⟨rfl, HX.out⟩⟩
      · obtain ⟨r, hr⟩ : ∃ r, rs[pre.length]? = some r := ⟨_, List.getElem?_eq_getElem (by omega)⟩
        have hge' : decide ((rs.length : Int) ≤ (pre.length : Int)) = false := by rw [decide_eq_false_iff_not]; omega
        have hgd : decide (rs.length ≤ pre.length) = false := by rw [decide_eq_false_iff_not]; omega
        have hkl : (pre.length : Int) < (rs.length : Int) := by omega
        have hk0 : (0 : Int) ≤ (pre.length : Int) := by omega
        obtain ⟨A0, c0, e0, hf0⟩ := HW.out.doc.form
        obtain ⟨e1, -, e2⟩ := Value.slice.inj e0
        obtain ⟨g, e3, _, _, _, ⟨c1, c2, _⟩, _⟩ := hf0 pre.length r hr
        rw [e3] at e1
        subst e1
        have hes : (entsOf L)[pre.length]? = some (r.id, r.host) := by rw [HES.out, List.getElem?_map, hr]; rfl
        have hpx : (pre ++ [x]) <+: entsOf L ↔ x = (r.id, r.host) := by
          obtain ⟨tl, htl⟩ := hpre
          rw [← htl, List.getElem?_append_right (Nat.le_refl _), Nat.sub_self] at hes
          rw [← htl, List.prefix_append_right_inj]
          cases tl with
          | nil => simp at hes
          | cons y tl =>
            simp at hes
            rw [hes]
            simp
        by_cases hid : r.id = x.1
        · have hi1 : ((r.id : Int) != (x.1 : Int)) = false := by rw [bne_eq_false_iff_eq]; omega
          by_cases hho : r.host = x.2
          · have hs1 : ((⟨r.host.toArray⟩ : ByteArray).toList != (⟨x.2.toArray⟩ : ByteArray).toList) = false := by rw [hho]; exact bne_self_eq_false _
            have hs2 : ((⟨r.host.toArray⟩ : ByteArray).toList == (⟨x.2.toArray⟩ : ByteArray).toList) = true := by rw [hho]; exact beq_self_eq_true _
            have hs3 : (r.host != x.2) = false := by rw [hho]; exact bne_self_eq_false _
            have hs4 : (r.host == x.2) = true := by rw [hho]; exact beq_self_eq_true _
            have HP := Lib.hid (hpx.2 (by rw [hid, hho]))
            have HBL : Hid (bl ≠ wb.heap.size ∧ bl < W.heap.size) := Lib.hid ⟨by have := HTA.out.size; have := hbl2; omega, by have := HTW.out.size; have := hbl2; omega⟩
            have HBB := Lib.hid hB
            have hlt1 : wq.heap.size < wb.heap.size := World.block_lt_of_cell? _ _ q1
            have hlt2 : w.heap.size + 3 ≤ wq.heap.size := by have h1 := HT5.out.size; have h2 := HS0.out; have h3 := HTQ.out.size; omega
            have hn1 : ¬ wq.heap.size = wb.heap.size := by omega
            have hn2 : ¬ wb.heap.size = wq.heap.size := by omega
            have hn3 : ¬ w.heap.size + 1 = wb.heap.size := by omega
            have hn4 : ¬ wb.heap.size = w.heap.size + 1 := by omega
            clear hes hpx hho hid hr hge hf0 e0 e2 hB hlt1 hlt2
            gi_wp2
            refine wpIn_region_quiet_r (by kernel_rfl) (by kernel_rfl) (by kernel_rfl) ?_
            repeat (gi_big_quiet_step (fail))
            refine wpQuietIn_nil ?_
            rintro _ ⟨nq, rfl⟩
            gi_wp2
            obtain ⟨k1, k2⟩ := box_set (nq := nq) (v := .int .i64 ((pre.length : Int) + 1)) hck hfk
            exact ⟨(keeps_drewN W nq).trans (KeepsOthers.setCell _ _ _), box_keep HBL.out.1 HBL.out.2, ⟨⟨by rw [k1, List.length_append]; simp, k2⟩, HP.out, box_below HBB.out (Nat.le_refl _)⟩⟩
          · have hs1 : ((⟨r.host.toArray⟩ : ByteArray).toList != (⟨x.2.toArray⟩ : ByteArray).toList) = true := by rw [bne_iff_ne, Lib.toList_data, Lib.toList_data]; exact hho
            have hs2 : ((⟨r.host.toArray⟩ : ByteArray).toList == (⟨x.2.toArray⟩ : ByteArray).toList) = false := by rw [beq_eq_false_iff_ne, Lib.toList_data, Lib.toList_data]; exact hho
            have hs3 : (r.host != x.2) = true := by rw [bne_iff_ne]; exact hho
            have hs4 : (r.host == x.2) = false := by rw [beq_eq_false_iff_ne]; exact hho
            have HX := Lib.hid (fun hp => hho (by rw [hpx.1 hp]))
            clear hes hpx hho hid hr hge hf0 e0 e2
            gi_wp2
            refine wpIn_region_quiet_r (by kernel_rfl) (by kernel_rfl) (by kernel_rfl) ?_
            repeat (gi_big_quiet_step (fail))
            refine wpQuietIn_nil ?_
            rintro _ ⟨nq, rfl⟩
            gi_wp2
            exact ⟨(keeps_drewN W nq).trans (KeepsOthers.setCell _ _ _), ⟨rfl, HX.out⟩⟩
        · have hi1 : ((r.id : Int) != (x.1 : Int)) = true := by rw [bne_iff_ne]; omega
          have HX := Lib.hid (fun hp => hid (by rw [hpx.1 hp]))
          clear hes hpx hid hr hge hf0 e0 e2
          gi_wp2
          refine wpIn_region_quiet_r (by kernel_rfl) (by kernel_rfl) (by kernel_rfl) ?_
          repeat (gi_big_quiet_step (fail))
          refine wpQuietIn_nil ?_
          rintro _ ⟨nq, rfl⟩
          gi_wp2
          exact ⟨(keeps_drewN W nq).trans (KeepsOthers.setCell _ _ _), ⟨rfl, HX.out⟩⟩
    case stop2 =>
      rintro D2 c pre W hD2 hSp hIx hK2
      exact absurd hSp hIx.2
    case done2 =>
      rintro D2 ys W hD2 rfl ⟨⟨hck, hfk⟩, -, hB⟩ hK2
      have HTW := Lib.hid (HTA.out.trans (Turns.of_below hB (Nat.le_refl _)) (by simp))
      have HTW0 := Lib.hid (HT5.out.trans HTW.out (by simp))
      have HW := Lib.hid (H5.out.kept HTW.out)
      have HK1 := Lib.hid ((hB.block D (lt_of_deferred HKB.out)).trans HKB.out)
      have HK2 := Lib.hid hK2
      have HDD := Lib.hid (show D < D2 from by have h1 := lt_of_deferred HKB.out; have h2 := hT1.size; have h3 := hD2; omega)
      have hkl : ((entsOf L).length : Int) = (rs.length : Int) := by rw [entsOf, List.length_map, HLL.out]
      rw [hkl] at hck
      have a4 := HB4.out W HTW0.out
      have a5 := HB5.out W HTW0.out
      have d0 := HW.out.doc.cells.1
      have qT := (hB.cell (p := ⟨wq.heap.size, 0, none⟩) (World.block_lt_of_cell? _ _ q1)).trans q1
      clear hB hK2 hkl
      gi_wp2
      go_wp2_with fail
      go_quiet (fail)
      obtain ⟨wr, hwr⟩ : ∃ wr, W.drewN nq = wr := ⟨_, rfl⟩
      have hTr : Turns [] W wr := by rw [← hwr]; exact (Turns.refl [] W).drewN nq
      have HK1r := Lib.hid (show wr.heap[D]? = some (.deferred (some [])) by rw [← hwr]; exact HK1.out)
      have HK2r := Lib.hid (show wr.heap[D2]? = some (.deferred (some [])) by rw [← hwr]; exact HK2.out)
      have r1 := (World.cell?_of_block (hTr.block wq.heap.size (World.block_lt_of_cell? _ _ qT) (by simp))).trans qT
      have HTR := Lib.hid (HTW0.out.trans hTr (by simp))
      rw [hwr]
      clear hwr hTr qT a4 a5 d0 hck hfk
      go_wp2_with fail
      obtain ⟨ws, hws⟩ : ∃ ws, wr.alloc (.cells #[.int .i64 2] 3) = ws := ⟨_, rfl⟩
      have hTs : Turns [] wr ws := by rw [← hws]; exact Turns.alloc _ _
      have bS : Boxed ws wr.heap.size 3 (.int .i64 2) := by rw [← hws]; exact Boxed.new wr _ _
      have s1 := bS.cell
      have HK1s := Lib.hid ((hTs.block D (lt_of_deferred HK1r.out) (by simp)).trans HK1r.out)
      have HK2s := Lib.hid ((hTs.block D2 (lt_of_deferred HK2r.out) (by simp)).trans HK2r.out)
      have HTS := Lib.hid (HTR.out.trans hTs (by simp))
      have HB6s := Lib.hid (HB6.out ws HTS.out)
      have c6 := HB6s.out.cell
      have f6 := HB6s.out.frozen
      rw [hws]
      clear hws hTs bS r1
      rw [rounds_succ]
      go_wp2_with fail
      have hTw := HT0.out.trans HTS.out (by simp)
      have hsz : w.heap.size + 3 ≤ ws.heap.size := by have h1 := HS0.out; have h2 := HTS.out.size; omega
      have hbw : Below w.heap.size w ws := hTw.below (by simp) (Nat.le_refl _)
      have hDw : w.heap.size ≤ D := by have h1 := HS0.out; have h2 := HT51a.out.size; have h3 := HT5.out.size; have h4 := hD; omega
      have hk1 := HK1s.out
      have hk2 := HK2s.out
      have hdd := HDD.out
      clear HTS HB6s HK1s HK2s s1
      go_wp2_with fail
      obtain ⟨wz, hwz⟩ : ∃ wz, ws.setCell ⟨w.heap.size + 1 + 1, 0, none⟩ (.bool true) = wz := ⟨_, rfl⟩
      have hcz : wz.cell? ⟨w.heap.size + 1 + 1, 0, none⟩ = some (.bool true) := by rw [← hwz]; exact World.cell?_setCell_same' ws ⟨w.heap.size + 1 + 1, 0, none⟩ (.bool true) (by rw [c6]; rfl)
      have hbz : Below w.heap.size w wz := by rw [← hwz]; exact hbw.setCell (p := ⟨w.heap.size + 1 + 1, 0, none⟩) (by simp; omega) _
      have k1 : wz.heap[D]? = some (.deferred (some [])) := by rw [← hwz]; exact (KeepsOthers.setCell ws ⟨w.heap.size + 1 + 1, 0, none⟩ (.bool true)).same D _ hk1 rfl
      have k2 : wz.heap[D2]? = some (.deferred (some [])) := by rw [← hwz]; exact (KeepsOthers.setCell ws ⟨w.heap.size + 1 + 1, 0, none⟩ (.bool true)).same D2 _ hk2 rfl
      rw [hwz]
      clear hwz
      have k3 : (wz.putObj D2 (.deferred none)).heap[D]? = some (.deferred (some [])) := (((Below.refl D2 wz).grown (grownBy_putObj' wz D2 (.deferred none)) (by have := lt_of_block k2; omega) (fun k e => by cases e; omega)).block D hdd).trans k1
      have hc2 := cell_kept hcz (grownBy_putObj' wz D2 (.deferred none)) (fun r e => by cases e; exact ⟨_, k2, rfl⟩)
      have hc3 := cell_kept hc2 (grownBy_putObj' _ D (.deferred none)) (fun r e => by cases e; exact ⟨_, k3, rfl⟩)
      refine ⟨by simp, .inl ⟨_, _, rfl, run_takeDeferred k2, ⟨by simp, .inl ⟨_, _, rfl, run_takeDeferred k3, ?_⟩⟩⟩⟩
      refine ⟨.bool true, ?_, rfl, (hbz.trans (belowK_b (w := w) (Nat.le_refl _) wz D2 _ _ (by omega) k2 rfl rfl)).trans (belowK_b (w := w) (Nat.le_refl _) _ D _ _ hDw k3 rfl rfl)⟩
      simp [results, Try.f13, go_sem, hc3]
  case stop =>
    rintro D c pre W hD hSp hIx hK
    rcases hIx with ⟨rfl, hn⟩ | ⟨rfl, ⟨hck, hfk⟩, hB⟩
    · exact absurd hSp hn
    · clear hSp
      by_cases hlr2 : leave = (rs.length : Int)
      · rw [hlr2] at hck
        clear hlr2
        have HTW := Lib.hid (HTA.out.trans (Turns.of_below hB (Nat.le_refl _)) (by simp))
        have HTW0 := Lib.hid (HT5.out.trans HTW.out (by simp))
        have HW := Lib.hid (H5.out.kept HTW.out)
        have HKD := Lib.hid hK
        have a4 := HB4.out W HTW0.out
        have a5 := HB5.out W HTW0.out
        have d0 := HW.out.doc.cells.1
        have qT := (hB.cell (p := ⟨w5.heap.size, 0, none⟩) (World.block_lt_of_cell? _ _ q1)).trans q1
        clear hB hK
        gi_wp2
        go_wp2_with fail
        go_quiet (fail)
        obtain ⟨wq, hwq⟩ : ∃ wq, W.drewN nq = wq := ⟨_, rfl⟩
        have hTq : Turns [] W wq := by rw [← hwq]; exact (Turns.refl [] W).drewN nq
        have hKq : wq.heap[D]? = some (.deferred (some [])) := by rw [← hwq]; exact HKD.out
        have r1 := (World.cell?_of_block (hTq.block w5.heap.size (World.block_lt_of_cell? _ _ qT) (by simp))).trans qT
        have HTQ := Lib.hid (HTW.out.trans hTq (by simp))
        have HKQ := Lib.hid hKq
        rw [hwq]
        clear hwq hTq hKq qT a4 a5 d0 hck hfk
        have HT51a := HT51
        clear q1 q2 HTA HTW HTW0 HW HKD hT1 bK hs1 HT51
        go_wp2_with fail
        obtain ⟨wb, hwb⟩ : ∃ wb, wq.alloc (.cells #[.int .i64 1] 3) = wb := ⟨_, rfl⟩
        have hTb : Turns [] wq wb := by rw [← hwb]; exact Turns.alloc _ _
        have bT : Boxed wb wq.heap.size 3 (.int .i64 1) := by rw [← hwb]; exact Boxed.new wq _ _
        have q1 := bT.cell
        have q2 := bT.frozen
        have HKB := Lib.hid ((hTb.block D (lt_of_deferred HKQ.out) (by simp)).trans HKQ.out)
        have HTA := Lib.hid (HTQ.out.trans hTb (by simp))
        rw [hwb]
        clear hwb hTb bT r1
        rw [rounds_succ]
        go_wp2_with fail
        obtain ⟨W1, hW1⟩ : ∃ W1, wb.alloc (.cells #[.int .i64 0] 3) = W1 := ⟨_, rfl⟩
        have hT1 : Turns [] wb W1 := by rw [← hW1]; exact Turns.alloc _ _
        have bK : Boxed W1 wb.heap.size 3 (.int .i64 0) := by rw [← hW1]; exact Boxed.new wb _ _
        have hs1 : W1.heap.size = wb.heap.size + 1 := by rw [← hW1]; simp
        rw [hW1]
        clear hW1
        have HT51 := Lib.hid (HTA.out.trans hT1 (by simp))
        refine (wpIn_wide (n := 6)).1 ?_
        refine' wpIn_rangeFunc_ownF (F := Fence.wide) (n := 6) rfl (by omega) (gf := 51) (lb := #[.pointer (some ⟨bs, 0, none⟩)]) rfl trivial (enters_of Try.func51 (by kernel_rfl) rfl)
          (ent_stops Fence.wide 5 trivial rfl (by omega) bs bl _ va (entsOf L) (by rw [entsOf, List.length_map, HLL.out]; exact HL.out) W1 (Nat.lt_of_lt_of_le HLT5.out HT51.out.size) ((World.cell?_of_block (HT51.out.block bs HLT5.out (by simp))).trans HCA5.out) (HO5.out.turns HT51.out (by simp)) hbl)
          KeepB.t (KeepB.b (Nat.lt_of_lt_of_le hbl2 HT51.out.size)) (Below.refl _ _) (fun _ => rfl)
          (fun pre W => (W.cell? ⟨wb.heap.size, 0, none⟩ = some (.int .i64 (pre.length : Int)) ∧ W.frozen? ⟨wb.heap.size, 0, none⟩ = false) ∧ pre <+: entsOf L ∧ Below wb.heap.size wb W)
          (fun c pre W => c = .ret ∧ ¬ pre <+: entsOf L)
          (OwnFrom.and (Own.from (fun s A B row hs hg hr => ⟨cell_kept hs.1 hg hr, (frozen_kept hs.1 hg hr).trans hs.2⟩) _) (OwnFrom.and (fun s A B row hs _ _ => hs) (ownFrom_below (Nat.le_refl _) hT1.size)))
          (fun c s A B row hs hg hr => hs)
          ⟨⟨bK.cell, bK.frozen⟩, List.nil_prefix, hT1.below (by simp) (Nat.le_refl _)⟩
          _ ?assign2 ?body2 ?done2 ?stop2
        case assign2 =>
          intro l x W K hK
          unfold encEnt
          gi_wp2
          exact hK
        case body2 =>
          rintro l pre x W ⟨⟨hck, hfk⟩, hpre, hB⟩ hlt
          have HTW := Lib.hid (HTA.out.trans (Turns.of_below hB (Nat.le_refl _)) (by simp))
          have HTW0 := Lib.hid (HT5.out.trans HTW.out (by simp))
          have HW := Lib.hid (H5.out.kept HTW.out)
          have a4 := HB4.out W HTW0.out
          have a5 := HB5.out W HTW0.out
          have d0 := HW.out.doc.cells.1
          have qT := (hB.cell (p := ⟨wq.heap.size, 0, none⟩) (World.block_lt_of_cell? _ _ q1)).trans q1
          have bR := HB6.out W HTW0.out
          have c6 := bR.cell
          have f6 := bR.frozen
          have hl2 : (rs.length : Int) ≤ 1000 := by have := HL.out; omega
          have hk2 : (pre.length : Int) ≤ 1000 := by
            have := hpre.length_le
            rw [entsOf, List.length_map, HLL.out] at this
            omega
          have HES := Lib.hid (show entsOf L = rs.map (fun r => (r.id, r.host)) from by
            have h1 := H.out.link
            unfold Link at h1
            have h2 : entsOf L = (L.map Prod.fst).map (fun c => (c.id, c.host)) := by unfold entsOf; rw [List.map_map]; rfl
            rw [h2, h1, List.map_map]
            rfl)
          by_cases hge : rs.length ≤ pre.length
          · have hge' : (rs.length : Int) ≤ (pre.length : Int) := by omega
            have HX := Lib.hid (show ¬ (pre ++ [x]) <+: entsOf L from fun hp => by
              have := hp.length_le
              rw [HES.out, List.length_append, List.length_map] at this
              simp at this
              omega)
            clear hge
            gi_wp2
            refine wpIn_region_quiet_r (by kernel_rfl) (by kernel_rfl) (by kernel_rfl) ?_
            repeat (gi_big_quiet_step (fail))
            refine wpQuietIn_nil ?_
            rintro _ ⟨nq, rfl⟩
            gi_wp2
            exact ⟨(keeps_drewN W nq).trans (KeepsOthers.setCell _ _ _), ⟨rfl, HX.out⟩⟩
          · obtain ⟨r, hr⟩ : ∃ r, rs[pre.length]? = some r := ⟨_, List.getElem?_eq_getElem (by omega)⟩
            have hge' : decide ((rs.length : Int) ≤ (pre.length : Int)) = false := by rw [decide_eq_false_iff_not]; omega
            have hgd : decide (rs.length ≤ pre.length) = false := by rw [decide_eq_false_iff_not]; omega
            have hkl : (pre.length : Int) < (rs.length : Int) := by omega
            have hk0 : (0 : Int) ≤ (pre.length : Int) := by omega
            obtain ⟨A0, c0, e0, hf0⟩ := HW.out.doc.form
            obtain ⟨e1, -, e2⟩ := Value.slice.inj e0
            obtain ⟨g, e3, _, _, _, ⟨c1, c2, _⟩, _⟩ := hf0 pre.length r hr
            rw [e3] at e1
            subst e1
            have hes : (entsOf L)[pre.length]? = some (r.id, r.host) := by rw [HES.out, List.getElem?_map, hr]; rfl
            have hpx : (pre ++ [x]) <+: entsOf L ↔ x = (r.id, r.host) := by
              obtain ⟨tl, htl⟩ := hpre
              rw [← htl, List.getElem?_append_right (Nat.le_refl _), Nat.sub_self] at hes
              rw [← htl, List.prefix_append_right_inj]
              cases tl with
              | nil => simp at hes
              | cons y tl =>
                simp at hes
                rw [hes]
                simp
            by_cases hid : r.id = x.1
            · have hi1 : ((r.id : Int) != (x.1 : Int)) = false := by rw [bne_eq_false_iff_eq]; omega
              by_cases hho : r.host = x.2
              · have hs1 : ((⟨r.host.toArray⟩ : ByteArray).toList != (⟨x.2.toArray⟩ : ByteArray).toList) = false := by rw [hho]; exact bne_self_eq_false _
                have hs2 : ((⟨r.host.toArray⟩ : ByteArray).toList == (⟨x.2.toArray⟩ : ByteArray).toList) = true := by rw [hho]; exact beq_self_eq_true _
                have hs3 : (r.host != x.2) = false := by rw [hho]; exact bne_self_eq_false _
                have hs4 : (r.host == x.2) = true := by rw [hho]; exact beq_self_eq_true _
                have HP := Lib.hid (hpx.2 (by rw [hid, hho]))
                have HBL : Hid (bl ≠ wb.heap.size ∧ bl < W.heap.size) := Lib.hid ⟨by have := HTA.out.size; have := hbl2; omega, by have := HTW.out.size; have := hbl2; omega⟩
                have HBB := Lib.hid hB
                have hlt1 : wq.heap.size < wb.heap.size := World.block_lt_of_cell? _ _ q1
                have hlt2 : w.heap.size + 3 ≤ wq.heap.size := by have h1 := HT5.out.size; have h2 := HS0.out; have h3 := HTQ.out.size; omega
                have hn1 : ¬ wq.heap.size = wb.heap.size := by omega
                have hn2 : ¬ wb.heap.size = wq.heap.size := by omega
                have hn3 : ¬ w.heap.size + 1 = wb.heap.size := by omega
                have hn4 : ¬ wb.heap.size = w.heap.size + 1 := by omega
                clear hes hpx hho hid hr hge hf0 e0 e2 hB hlt1 hlt2
                gi_wp2
                refine wpIn_region_quiet_r (by kernel_rfl) (by kernel_rfl) (by kernel_rfl) ?_
                repeat (gi_big_quiet_step (fail))
                refine wpQuietIn_nil ?_
                rintro _ ⟨nq, rfl⟩
                gi_wp2
                obtain ⟨k1, k2⟩ := box_set (nq := nq) (v := .int .i64 ((pre.length : Int) + 1)) hck hfk
                exact ⟨(keeps_drewN W nq).trans (KeepsOthers.setCell _ _ _), box_keep HBL.out.1 HBL.out.2, ⟨⟨by rw [k1, List.length_append]; simp, k2⟩, HP.out, box_below HBB.out (Nat.le_refl _)⟩⟩
              · have hs1 : ((⟨r.host.toArray⟩ : ByteArray).toList != (⟨x.2.toArray⟩ : ByteArray).toList) = true := by rw [bne_iff_ne, Lib.toList_data, Lib.toList_data]; exact hho
                have hs2 : ((⟨r.host.toArray⟩ : ByteArray).toList == (⟨x.2.toArray⟩ : ByteArray).toList) = false := by rw [beq_eq_false_iff_ne, Lib.toList_data, Lib.toList_data]; exact hho
                have hs3 : (r.host != x.2) = true := by rw [bne_iff_ne]; exact hho
                have hs4 : (r.host == x.2) = false := by rw [beq_eq_false_iff_ne]; exact hho
                have HX := Lib.hid (fun hp => hho (by rw [hpx.1 hp]))
                clear hes hpx hho hid hr hge hf0 e0 e2
                gi_wp2
                refine wpIn_region_quiet_r (by kernel_rfl) (by kernel_rfl) (by kernel_rfl) ?_
                repeat (gi_big_quiet_step (fail))
                refine wpQuietIn_nil ?_
                rintro _ ⟨nq, rfl⟩
                gi_wp2
                exact ⟨(keeps_drewN W nq).trans (KeepsOthers.setCell _ _ _), ⟨rfl, HX.out⟩⟩
            · have hi1 : ((r.id : Int) != (x.1 : Int)) = true := by rw [bne_iff_ne]; omega
              have HX := Lib.hid (fun hp => hid (by rw [hpx.1 hp]))
              clear hes hpx hid hr hge hf0 e0 e2
              gi_wp2
              refine wpIn_region_quiet_r (by kernel_rfl) (by kernel_rfl) (by kernel_rfl) ?_
              repeat (gi_big_quiet_step (fail))
              refine wpQuietIn_nil ?_
              rintro _ ⟨nq, rfl⟩
              gi_wp2
              exact ⟨(keeps_drewN W nq).trans (KeepsOthers.setCell _ _ _), ⟨rfl, HX.out⟩⟩
        case stop2 =>
          rintro D2 c pre W hD2 hSp hIx hK2
          exact absurd hSp hIx.2
        case done2 =>
          rintro D2 ys W hD2 rfl ⟨⟨hck, hfk⟩, -, hB⟩ hK2
          have HTW := Lib.hid (HTA.out.trans (Turns.of_below hB (Nat.le_refl _)) (by simp))
          have HTW0 := Lib.hid (HT5.out.trans HTW.out (by simp))
          have HW := Lib.hid (H5.out.kept HTW.out)
          have HK1 := Lib.hid ((hB.block D (lt_of_deferred HKB.out)).trans HKB.out)
          have HK2 := Lib.hid hK2
          have HDD := Lib.hid (show D < D2 from by have h1 := lt_of_deferred HKB.out; have h2 := hT1.size; have h3 := hD2; omega)
          have hkl : ((entsOf L).length : Int) = (rs.length : Int) := by rw [entsOf, List.length_map, HLL.out]
          rw [hkl] at hck
          have a4 := HB4.out W HTW0.out
          have a5 := HB5.out W HTW0.out
          have d0 := HW.out.doc.cells.1
          have qT := (hB.cell (p := ⟨wq.heap.size, 0, none⟩) (World.block_lt_of_cell? _ _ q1)).trans q1
          clear hB hK2 hkl
          gi_wp2
          go_wp2_with fail
          go_quiet (fail)
          obtain ⟨wr, hwr⟩ : ∃ wr, W.drewN nq = wr := ⟨_, rfl⟩
          have hTr : Turns [] W wr := by rw [← hwr]; exact (Turns.refl [] W).drewN nq
          have HK1r := Lib.hid (show wr.heap[D]? = some (.deferred (some [])) by rw [← hwr]; exact HK1.out)
          have HK2r := Lib.hid (show wr.heap[D2]? = some (.deferred (some [])) by rw [← hwr]; exact HK2.out)
          have r1 := (World.cell?_of_block (hTr.block wq.heap.size (World.block_lt_of_cell? _ _ qT) (by simp))).trans qT
          have HTR := Lib.hid (HTW0.out.trans hTr (by simp))
          rw [hwr]
          clear hwr hTr qT a4 a5 d0 hck hfk
          go_wp2_with fail
          obtain ⟨ws, hws⟩ : ∃ ws, wr.alloc (.cells #[.int .i64 2] 3) = ws := ⟨_, rfl⟩
          have hTs : Turns [] wr ws := by rw [← hws]; exact Turns.alloc _ _
          have bS : Boxed ws wr.heap.size 3 (.int .i64 2) := by rw [← hws]; exact Boxed.new wr _ _
          have s1 := bS.cell
          have HK1s := Lib.hid ((hTs.block D (lt_of_deferred HK1r.out) (by simp)).trans HK1r.out)
          have HK2s := Lib.hid ((hTs.block D2 (lt_of_deferred HK2r.out) (by simp)).trans HK2r.out)
          have HTS := Lib.hid (HTR.out.trans hTs (by simp))
          have HB6s := Lib.hid (HB6.out ws HTS.out)
          have c6 := HB6s.out.cell
          have f6 := HB6s.out.frozen
          rw [hws]
          clear hws hTs bS r1
          rw [rounds_succ]
          go_wp2_with fail
          have hTw := HT0.out.trans HTS.out (by simp)
          have hsz : w.heap.size + 3 ≤ ws.heap.size := by have h1 := HS0.out; have h2 := HTS.out.size; omega
          have hbw : Below w.heap.size w ws := hTw.below (by simp) (Nat.le_refl _)
          have hDw : w.heap.size ≤ D := by have h1 := HS0.out; have h2 := HT51a.out.size; have h3 := HT5.out.size; have h4 := hD; omega
          have hk1 := HK1s.out
          have hk2 := HK2s.out
          have hdd := HDD.out
          clear HTS HB6s HK1s HK2s s1
          go_wp2_with fail
          obtain ⟨wz, hwz⟩ : ∃ wz, ws.setCell ⟨w.heap.size + 1 + 1, 0, none⟩ (.bool true) = wz := ⟨_, rfl⟩
          have hcz : wz.cell? ⟨w.heap.size + 1 + 1, 0, none⟩ = some (.bool true) := by rw [← hwz]; exact World.cell?_setCell_same' ws ⟨w.heap.size + 1 + 1, 0, none⟩ (.bool true) (by rw [c6]; rfl)
          have hbz : Below w.heap.size w wz := by rw [← hwz]; exact hbw.setCell (p := ⟨w.heap.size + 1 + 1, 0, none⟩) (by simp; omega) _
          have k1 : wz.heap[D]? = some (.deferred (some [])) := by rw [← hwz]; exact (KeepsOthers.setCell ws ⟨w.heap.size + 1 + 1, 0, none⟩ (.bool true)).same D _ hk1 rfl
          have k2 : wz.heap[D2]? = some (.deferred (some [])) := by rw [← hwz]; exact (KeepsOthers.setCell ws ⟨w.heap.size + 1 + 1, 0, none⟩ (.bool true)).same D2 _ hk2 rfl
          rw [hwz]
          clear hwz
          have k3 : (wz.putObj D2 (.deferred none)).heap[D]? = some (.deferred (some [])) := (((Below.refl D2 wz).grown (grownBy_putObj' wz D2 (.deferred none)) (by have := lt_of_block k2; omega) (fun k e => by cases e; omega)).block D hdd).trans k1
          have hc2 := cell_kept hcz (grownBy_putObj' wz D2 (.deferred none)) (fun r e => by cases e; exact ⟨_, k2, rfl⟩)
          have hc3 := cell_kept hc2 (grownBy_putObj' _ D (.deferred none)) (fun r e => by cases e; exact ⟨_, k3, rfl⟩)
          refine ⟨by simp, .inl ⟨_, _, rfl, run_takeDeferred k2, ⟨by simp, .inl ⟨_, _, rfl, run_takeDeferred k3, ?_⟩⟩⟩⟩
          refine ⟨.bool true, ?_, rfl, (hbz.trans (belowK_b (w := w) (Nat.le_refl _) wz D2 _ _ (by omega) k2 rfl rfl)).trans (belowK_b (w := w) (Nat.le_refl _) _ D _ _ hDw k3 rfl rfl)⟩
          simp [results, Try.f13, go_sem, hc3]
      · have hlr3 : (leave != (rs.length : Int)) = true := by rw [bne_iff_ne]; exact hlr2
        have hlv4 : (leave != leave) = false := bne_self_eq_false _
        clear hlr2
        have HTW := Lib.hid (HTA.out.trans (Turns.of_below hB (Nat.le_refl _)) (by simp))
        have HTW0 := Lib.hid (HT5.out.trans HTW.out (by simp))
        have HW := Lib.hid (H5.out.kept HTW.out)
        have HKD := Lib.hid hK
        have a4 := HB4.out W HTW0.out
        have a5 := HB5.out W HTW0.out
        have d0 := HW.out.doc.cells.1
        have qT := (hB.cell (p := ⟨w5.heap.size, 0, none⟩) (World.block_lt_of_cell? _ _ q1)).trans q1
        clear hB hK
        gi_wp2
        go_wp2_with fail
        go_quiet (fail)
        obtain ⟨wq, hwq⟩ : ∃ wq, W.drewN nq = wq := ⟨_, rfl⟩
        have hTq : Turns [] W wq := by rw [← hwq]; exact (Turns.refl [] W).drewN nq
        have hKq : wq.heap[D]? = some (.deferred (some [])) := by rw [← hwq]; exact HKD.out
        have r1 := (World.cell?_of_block (hTq.block w5.heap.size (World.block_lt_of_cell? _ _ qT) (by simp))).trans qT
        have HTQ := Lib.hid (HTW.out.trans hTq (by simp))
        have HKQ := Lib.hid hKq
        rw [hwq]
        clear hwq hTq hKq qT a4 a5 d0 hck hfk
        have HT51a := HT51
        clear q1 q2 HTA HTW HTW0 HW HKD hT1 bK hs1 HT51
        go_wp2_with fail
        obtain ⟨wb, hwb⟩ : ∃ wb, wq.alloc (.cells #[.int .i64 1] 3) = wb := ⟨_, rfl⟩
        have hTb : Turns [] wq wb := by rw [← hwb]; exact Turns.alloc _ _
        have bT : Boxed wb wq.heap.size 3 (.int .i64 1) := by rw [← hwb]; exact Boxed.new wq _ _
        have q1 := bT.cell
        have q2 := bT.frozen
        have HKB := Lib.hid ((hTb.block D (lt_of_deferred HKQ.out) (by simp)).trans HKQ.out)
        have HTA := Lib.hid (HTQ.out.trans hTb (by simp))
        rw [hwb]
        clear hwb hTb bT r1
        rw [rounds_succ]
        go_wp2_with fail
        obtain ⟨W1, hW1⟩ : ∃ W1, wb.alloc (.cells #[.int .i64 0] 3) = W1 := ⟨_, rfl⟩
        have hT1 : Turns [] wb W1 := by rw [← hW1]; exact Turns.alloc _ _
        have bK : Boxed W1 wb.heap.size 3 (.int .i64 0) := by rw [← hW1]; exact Boxed.new wb _ _
        have hs1 : W1.heap.size = wb.heap.size + 1 := by rw [← hW1]; simp
        rw [hW1]
        clear hW1
        have HT51 := Lib.hid (HTA.out.trans hT1 (by simp))
        refine (wpIn_wide (n := 6)).1 ?_
        refine' wpIn_rangeFunc_ownF (F := Fence.wide) (n := 6) rfl (by omega) (gf := 51) (lb := #[.pointer (some ⟨bs, 0, none⟩)]) rfl trivial (enters_of Try.func51 (by kernel_rfl) rfl)
          (ent_stops Fence.wide 5 trivial rfl (by omega) bs bl _ va (entsOf L) (by rw [entsOf, List.length_map, HLL.out]; exact HL.out) W1 (Nat.lt_of_lt_of_le HLT5.out HT51.out.size) ((World.cell?_of_block (HT51.out.block bs HLT5.out (by simp))).trans HCA5.out) (HO5.out.turns HT51.out (by simp)) hbl)
          KeepB.t (KeepB.b (Nat.lt_of_lt_of_le hbl2 HT51.out.size)) (Below.refl _ _) (fun _ => rfl)
          (fun pre W => (W.cell? ⟨wb.heap.size, 0, none⟩ = some (.int .i64 (pre.length : Int)) ∧ W.frozen? ⟨wb.heap.size, 0, none⟩ = false) ∧ pre <+: entsOf L ∧ Below wb.heap.size wb W)
          (fun c pre W => c = .ret ∧ ¬ pre <+: entsOf L)
          (OwnFrom.and (Own.from (fun s A B row hs hg hr => ⟨cell_kept hs.1 hg hr, (frozen_kept hs.1 hg hr).trans hs.2⟩) _) (OwnFrom.and (fun s A B row hs _ _ => hs) (ownFrom_below (Nat.le_refl _) hT1.size)))
          (fun c s A B row hs hg hr => hs)
          ⟨⟨bK.cell, bK.frozen⟩, List.nil_prefix, hT1.below (by simp) (Nat.le_refl _)⟩
          _ ?assign2 ?body2 ?done2 ?stop2
        case assign2 =>
          intro l x W K hK
          unfold encEnt
          gi_wp2
          exact hK
        case body2 =>
          rintro l pre x W ⟨⟨hck, hfk⟩, hpre, hB⟩ hlt
          have HTW := Lib.hid (HTA.out.trans (Turns.of_below hB (Nat.le_refl _)) (by simp))
          have HTW0 := Lib.hid (HT5.out.trans HTW.out (by simp))
          have HW := Lib.hid (H5.out.kept HTW.out)
          have a4 := HB4.out W HTW0.out
          have a5 := HB5.out W HTW0.out
          have d0 := HW.out.doc.cells.1
          have qT := (hB.cell (p := ⟨wq.heap.size, 0, none⟩) (World.block_lt_of_cell? _ _ q1)).trans q1
          have bR := HB6.out W HTW0.out
          have c6 := bR.cell
          have f6 := bR.frozen
          have hl2 : (rs.length : Int) ≤ 1000 := by have := HL.out; omega
          have hk2 : (pre.length : Int) ≤ 1000 := by
            have := hpre.length_le
            rw [entsOf, List.length_map, HLL.out] at this
            omega
          have HES := Lib.hid (show entsOf L = rs.map (fun r => (r.id, r.host)) from by
            have h1 := H.out.link
            unfold Link at h1
            have h2 : entsOf L = (L.map Prod.fst).map (fun c => (c.id, c.host)) := by unfold entsOf; rw [List.map_map]; rfl
            rw [h2, h1, List.map_map]
            rfl)
          by_cases hge : rs.length ≤ pre.length
          · have hge' : (rs.length : Int) ≤ (pre.length : Int) := by omega
            have HX := Lib.hid (show ¬ (pre ++ [x]) <+: entsOf L from fun hp => by
              have := hp.length_le
              rw [HES.out, List.length_append, List.length_map] at this
              simp at this
              omega)
            clear hge
            gi_wp2
            refine wpIn_region_quiet_r (by kernel_rfl) (by kernel_rfl) (by kernel_rfl) ?_
            repeat (gi_big_quiet_step (fail))
            refine wpQuietIn_nil ?_
            rintro _ ⟨nq, rfl⟩
            gi_wp2
            exact ⟨(keeps_drewN W nq).trans (KeepsOthers.setCell _ _ _), ⟨rfl, HX.out⟩⟩
          · obtain ⟨r, hr⟩ : ∃ r, rs[pre.length]? = some r := ⟨_, List.getElem?_eq_getElem (by omega)⟩
            have hge' : decide ((rs.length : Int) ≤ (pre.length : Int)) = false := by rw [decide_eq_false_iff_not]; omega
            have hgd : decide (rs.length ≤ pre.length) = false := by rw [decide_eq_false_iff_not]; omega
            have hkl : (pre.length : Int) < (rs.length : Int) := by omega
            have hk0 : (0 : Int) ≤ (pre.length : Int) := by omega
            obtain ⟨A0, c0, e0, hf0⟩ := HW.out.doc.form
            obtain ⟨e1, -, e2⟩ := Value.slice.inj e0
            obtain ⟨g, e3, _, _, _, ⟨c1, c2, _⟩, _⟩ := hf0 pre.length r hr
            rw [e3] at e1
            subst e1
            have hes : (entsOf L)[pre.length]? = some (r.id, r.host) := by rw [HES.out, List.getElem?_map, hr]; rfl
            have hpx : (pre ++ [x]) <+: entsOf L ↔ x = (r.id, r.host) := by
              obtain ⟨tl, htl⟩ := hpre
              rw [← htl, List.getElem?_append_right (Nat.le_refl _), Nat.sub_self] at hes
              rw [← htl, List.prefix_append_right_inj]
              cases tl with
              | nil => simp at hes
              | cons y tl =>
                simp at hes
                rw [hes]
                simp
            by_cases hid : r.id = x.1
            · have hi1 : ((r.id : Int) != (x.1 : Int)) = false := by rw [bne_eq_false_iff_eq]; omega
              by_cases hho : r.host = x.2
              · have hs1 : ((⟨r.host.toArray⟩ : ByteArray).toList != (⟨x.2.toArray⟩ : ByteArray).toList) = false := by rw [hho]; exact bne_self_eq_false _
                have hs2 : ((⟨r.host.toArray⟩ : ByteArray).toList == (⟨x.2.toArray⟩ : ByteArray).toList) = true := by rw [hho]; exact beq_self_eq_true _
                have hs3 : (r.host != x.2) = false := by rw [hho]; exact bne_self_eq_false _
                have hs4 : (r.host == x.2) = true := by rw [hho]; exact beq_self_eq_true _
                have HP := Lib.hid (hpx.2 (by rw [hid, hho]))
                have HBL : Hid (bl ≠ wb.heap.size ∧ bl < W.heap.size) := Lib.hid ⟨by have := HTA.out.size; have := hbl2; omega, by have := HTW.out.size; have := hbl2; omega⟩
                have HBB := Lib.hid hB
                have hlt1 : wq.heap.size < wb.heap.size := World.block_lt_of_cell? _ _ q1
                have hlt2 : w.heap.size + 3 ≤ wq.heap.size := by have h1 := HT5.out.size; have h2 := HS0.out; have h3 := HTQ.out.size; omega
                have hn1 : ¬ wq.heap.size = wb.heap.size := by omega
                have hn2 : ¬ wb.heap.size = wq.heap.size := by omega
                have hn3 : ¬ w.heap.size + 1 = wb.heap.size := by omega
                have hn4 : ¬ wb.heap.size = w.heap.size + 1 := by omega
                clear hes hpx hho hid hr hge hf0 e0 e2 hB hlt1 hlt2
                gi_wp2
                refine wpIn_region_quiet_r (by kernel_rfl) (by kernel_rfl) (by kernel_rfl) ?_
                repeat (gi_big_quiet_step (fail))
                refine wpQuietIn_nil ?_
                rintro _ ⟨nq, rfl⟩
                gi_wp2
                obtain ⟨k1, k2⟩ := box_set (nq := nq) (v := .int .i64 ((pre.length : Int) + 1)) hck hfk
                exact ⟨(keeps_drewN W nq).trans (KeepsOthers.setCell _ _ _), box_keep HBL.out.1 HBL.out.2, ⟨⟨by rw [k1, List.length_append]; simp, k2⟩, HP.out, box_below HBB.out (Nat.le_refl _)⟩⟩
              · have hs1 : ((⟨r.host.toArray⟩ : ByteArray).toList != (⟨x.2.toArray⟩ : ByteArray).toList) = true := by rw [bne_iff_ne, Lib.toList_data, Lib.toList_data]; exact hho
                have hs2 : ((⟨r.host.toArray⟩ : ByteArray).toList == (⟨x.2.toArray⟩ : ByteArray).toList) = false := by rw [beq_eq_false_iff_ne, Lib.toList_data, Lib.toList_data]; exact hho
                have hs3 : (r.host != x.2) = true := by rw [bne_iff_ne]; exact hho
                have hs4 : (r.host == x.2) = false := by rw [beq_eq_false_iff_ne]; exact hho
                have HX := Lib.hid (fun hp => hho (by rw [hpx.1 hp]))
                clear hes hpx hho hid hr hge hf0 e0 e2
                gi_wp2
                refine wpIn_region_quiet_r (by kernel_rfl) (by kernel_rfl) (by kernel_rfl) ?_
                repeat (gi_big_quiet_step (fail))
                refine wpQuietIn_nil ?_
                rintro _ ⟨nq, rfl⟩
                gi_wp2
                exact ⟨(keeps_drewN W nq).trans (KeepsOthers.setCell _ _ _), ⟨rfl, HX.out⟩⟩
            · have hi1 : ((r.id : Int) != (x.1 : Int)) = true := by rw [bne_iff_ne]; omega
              have HX := Lib.hid (fun hp => hid (by rw [hpx.1 hp]))
              clear hes hpx hid hr hge hf0 e0 e2
              gi_wp2
              refine wpIn_region_quiet_r (by kernel_rfl) (by kernel_rfl) (by kernel_rfl) ?_
              repeat (gi_big_quiet_step (fail))
              refine wpQuietIn_nil ?_
              rintro _ ⟨nq, rfl⟩
              gi_wp2
              exact ⟨(keeps_drewN W nq).trans (KeepsOthers.setCell _ _ _), ⟨rfl, HX.out⟩⟩
        case stop2 =>
          rintro D2 c pre W hD2 hSp hIx hK2
          exact absurd hSp hIx.2
        case done2 =>
          rintro D2 ys W hD2 rfl ⟨⟨hck, hfk⟩, -, hB⟩ hK2
          have HTW := Lib.hid (HTA.out.trans (Turns.of_below hB (Nat.le_refl _)) (by simp))
          have HTW0 := Lib.hid (HT5.out.trans HTW.out (by simp))
          have HW := Lib.hid (H5.out.kept HTW.out)
          have HK1 := Lib.hid ((hB.block D (lt_of_deferred HKB.out)).trans HKB.out)
          have HK2 := Lib.hid hK2
          have HDD := Lib.hid (show D < D2 from by have h1 := lt_of_deferred HKB.out; have h2 := hT1.size; have h3 := hD2; omega)
          have hkl : ((entsOf L).length : Int) = (rs.length : Int) := by rw [entsOf, List.length_map, HLL.out]
          rw [hkl] at hck
          have a4 := HB4.out W HTW0.out
          have a5 := HB5.out W HTW0.out
          have d0 := HW.out.doc.cells.1
          have qT := (hB.cell (p := ⟨wq.heap.size, 0, none⟩) (World.block_lt_of_cell? _ _ q1)).trans q1
          clear hB hK2 hkl
          gi_wp2
          go_wp2_with fail
          go_quiet (fail)
          obtain ⟨wr, hwr⟩ : ∃ wr, W.drewN nq = wr := ⟨_, rfl⟩
          have hTr : Turns [] W wr := by rw [← hwr]; exact (Turns.refl [] W).drewN nq
          have HK1r := Lib.hid (show wr.heap[D]? = some (.deferred (some [])) by rw [← hwr]; exact HK1.out)
          have HK2r := Lib.hid (show wr.heap[D2]? = some (.deferred (some [])) by rw [← hwr]; exact HK2.out)
          have r1 := (World.cell?_of_block (hTr.block wq.heap.size (World.block_lt_of_cell? _ _ qT) (by simp))).trans qT
          have HTR := Lib.hid (HTW0.out.trans hTr (by simp))
          rw [hwr]
          clear hwr hTr qT a4 a5 d0 hck hfk
          go_wp2_with fail
          obtain ⟨ws, hws⟩ : ∃ ws, wr.alloc (.cells #[.int .i64 2] 3) = ws := ⟨_, rfl⟩
          have hTs : Turns [] wr ws := by rw [← hws]; exact Turns.alloc _ _
          have bS : Boxed ws wr.heap.size 3 (.int .i64 2) := by rw [← hws]; exact Boxed.new wr _ _
          have s1 := bS.cell
          have HK1s := Lib.hid ((hTs.block D (lt_of_deferred HK1r.out) (by simp)).trans HK1r.out)
          have HK2s := Lib.hid ((hTs.block D2 (lt_of_deferred HK2r.out) (by simp)).trans HK2r.out)
          have HTS := Lib.hid (HTR.out.trans hTs (by simp))
          have HB6s := Lib.hid (HB6.out ws HTS.out)
          have c6 := HB6s.out.cell
          have f6 := HB6s.out.frozen
          rw [hws]
          clear hws hTs bS r1
          rw [rounds_succ]
          go_wp2_with fail
          have hTw := HT0.out.trans HTS.out (by simp)
          have hsz : w.heap.size + 3 ≤ ws.heap.size := by have h1 := HS0.out; have h2 := HTS.out.size; omega
          have hbw : Below w.heap.size w ws := hTw.below (by simp) (Nat.le_refl _)
          have hDw : w.heap.size ≤ D := by have h1 := HS0.out; have h2 := HT51a.out.size; have h3 := HT5.out.size; have h4 := hD; omega
          have hk1 := HK1s.out
          have hk2 := HK2s.out
          have hdd := HDD.out
          clear HTS HB6s HK1s HK2s s1
          go_wp2_with fail
          obtain ⟨wz, hwz⟩ : ∃ wz, ws.setCell ⟨w.heap.size + 1 + 1, 0, none⟩ (.bool true) = wz := ⟨_, rfl⟩
          have hcz : wz.cell? ⟨w.heap.size + 1 + 1, 0, none⟩ = some (.bool true) := by rw [← hwz]; exact World.cell?_setCell_same' ws ⟨w.heap.size + 1 + 1, 0, none⟩ (.bool true) (by rw [c6]; rfl)
          have hbz : Below w.heap.size w wz := by rw [← hwz]; exact hbw.setCell (p := ⟨w.heap.size + 1 + 1, 0, none⟩) (by simp; omega) _
          have k1 : wz.heap[D]? = some (.deferred (some [])) := by rw [← hwz]; exact (KeepsOthers.setCell ws ⟨w.heap.size + 1 + 1, 0, none⟩ (.bool true)).same D _ hk1 rfl
          have k2 : wz.heap[D2]? = some (.deferred (some [])) := by rw [← hwz]; exact (KeepsOthers.setCell ws ⟨w.heap.size + 1 + 1, 0, none⟩ (.bool true)).same D2 _ hk2 rfl
          rw [hwz]
          clear hwz
          have k3 : (wz.putObj D2 (.deferred none)).heap[D]? = some (.deferred (some [])) := (((Below.refl D2 wz).grown (grownBy_putObj' wz D2 (.deferred none)) (by have := lt_of_block k2; omega) (fun k e => by cases e; omega)).block D hdd).trans k1
          have hc2 := cell_kept hcz (grownBy_putObj' wz D2 (.deferred none)) (fun r e => by cases e; exact ⟨_, k2, rfl⟩)
          have hc3 := cell_kept hc2 (grownBy_putObj' _ D (.deferred none)) (fun r e => by cases e; exact ⟨_, k3, rfl⟩)
          refine ⟨by simp, .inl ⟨_, _, rfl, run_takeDeferred k2, ⟨by simp, .inl ⟨_, _, rfl, run_takeDeferred k3, ?_⟩⟩⟩⟩
          refine ⟨.bool true, ?_, rfl, (hbz.trans (belowK_b (w := w) (Nat.le_refl _) wz D2 _ _ (by omega) k2 rfl rfl)).trans (belowK_b (w := w) (Nat.le_refl _) _ D _ _ hDw k3 rfl rfl)⟩
          simp [results, Try.f13, go_sem, hc3]
end Go.Proofs.Ytlelemjmknbnaaa
