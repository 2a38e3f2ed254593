/- A zero store, and one made for none: the same. -/
import Derived.Test.YtadndefbdofodaaSrZero
namespace Go.Proofs.Ytadndefbdofodaa
open Go.RowKit Go.Maps Go.Sort Go.Shelf
attribute [local go_sem] Oper.semAt_some

set_option maxRecDepth 100000 in
set_option maxHeartbeats 4000000 in
theorem putZ {w : World} {z : Nat} (h : Zs w z) (owner : Int) (x : Smp) (hx : NmOk x.name) {g : Nat} (hg : w.heap[g]? = some (.cells #[.string x.name, .int .i64 x.val, .int .i64 x.tm, .bool x.cnt] 38 (0, 0))) :
    Calls Try.prog 12 #[ptr z, .int .i64 owner, .slice (some ⟨g, 0, none⟩) 1 1] w fun e w' => (∃ o, e = .returned o ∧ nK.Own w.heap.size w' o [⟨x, 4, false, 0⟩]) ∧ Turns [] w w' := by
  have HZ := Lib.hid h
  have HX := Lib.hid hx
  have HG := Lib.hid hg
  have HLO := Lib.hid (liveOfZ h owner)
  clear h hx hg
  go_enter Try.func12, Try.ntmps12
  go_wp2_with fail
  refine HLO.out.mono ?_
  rintro e w1 ⟨rfl, hu, ht1⟩
  obtain ⟨bu, hbu⟩ : ∃ bu, bu = w.heap.size := ⟨_, rfl⟩
  have HBU := Lib.hid hbu
  rw [← hbu] at hu ⊢
  have HU := Lib.hid hu
  have HT1 := Lib.hid ht1
  have hc := (HG.out ▸ ht1.block g (lt_of_block HG.out) (by simp) : w1.heap[g]? = some (.cells #[.string x.name, .int .i64 x.val, .int .i64 x.tm, .bool x.cnt] 38 (0, 0)))
  have d0 : w1.cell? ⟨g, 0, none⟩ = some (.string x.name) := by simp [World.cell?, hc]
  have d1 : w1.cell? ⟨g, 1, none⟩ = some (.int .i64 x.val) := by simp [World.cell?, hc]
  have d2 : w1.cell? ⟨g, 2, none⟩ = some (.int .i64 x.tm) := by simp [World.cell?, hc]
  have d3 : w1.cell? ⟨g, 3, none⟩ = some (.bool x.cnt) := by simp [World.cell?, hc]
  clear hbu hu ht1 HLO hc
  go_wp2_with fail
  refine wp_loop_rounds 2 ?_
  rw [rounds_succ]
  go_upto_region 8 with fail
  have HBX := Lib.hid (Bx.made w1 x)
  obtain ⟨W0, hW0⟩ : ∃ W0, w1.alloc (.cells #[.string x.name, .int .i64 x.val, .int .i64 x.tm, .bool x.cnt] 38) = W0 := ⟨_, rfl⟩
  rw [hW0] at HBX ⊢
  have q0 := HBX.out.c0
  have q1 := HBX.out.c1
  have q2 := HBX.out.c2
  have q3 := HBX.out.c3
  have HT0 := Lib.hid (HT1.out.then HBX.out.turns)
  have HPN := Lib.hid (putNo (w := W0) (p := z) owner x HX.out 4 (by decide) (fun W hW => verZ (HZ.out.pre (HT0.out.then hW)) x HX.out))
  clear hW0 d0 d1 d2 d3
  go_wp2_with fail
  refine HPN.out.mono ?_
  rintro e w2 ⟨rfl, ht2⟩
  have HT2 := Lib.hid (HT0.out.then ht2)
  have HU2 := Lib.hid ((HU.out.turns HBX.out.turns (by simp)).turns ht2 (by simp))
  have HBX2 := Lib.hid ((ht2.block _ (lt_of_block HBX.out.blk) (by simp)).trans HBX.out.blk)
  have HOW := Lib.hid (fun C => (EK.Own.nil (K := nK) w.heap.size (w2.alloc C) (Nat.zero_le _)))
  have HBS := Lib.hid (fun C => show w.heap.size ≤ (w2.alloc C).heap.size from Nat.le_trans HT2.out.size (by simp))
  clear ht2 q0 q1 q2 q3 HPN
  go_upto_region 9 with (at_builtin; refine EK.wpList_append nOk rfl (.tmp 24) (.tmp 29) rfl w.heap.size _ [] rfl (HOW.out _) (w2.heap.size + 1) (some ⟨w2.heap.size, 0, none⟩) [⟨x, 4, false, 0⟩] 1 1 rfl rfl (EK.Reads.lone nOk (W := w2) ⟨x, 4, false, 0⟩ _ _ rfl rfl) (by simp) (by simp) (HBS.out _) ?_; intro v2 w3 ho2 ht2 hf2; have HO3 := Lib.hid ho2; have HT3 := Lib.hid ((Turns.alloc (F := []) w2 _).then ht2); clear ho2 ht2 hf2)
  have q0 : w3.cell? ⟨w1.heap.size, 0, none⟩ = some (.string x.name) := by simp [World.cell?, (HT3.out.block _ (lt_of_block HBX2.out) (by simp)).trans HBX2.out]
  have hu3 := HU2.out.turns HT3.out (by simp)
  obtain ⟨w4, hrun, hm4, htu⟩ := hu3.drop (t := 50) (e := 71) sm_keyed Try.underlying50 HX.out.key 0
  have hrun' : (Builtin.delete_ #[50, 9] 0 #[.map (some bu), .string x.name]).run Try.prog w3 = .ok (.tuple #[]) w4 := hrun
  have hbo : bu ∉ ownB v2 := map_not_own hu3 (HO3.out.low (Nat.zero_le _))
  have HT4 : Hid (Turns [] w w4) := Lib.hid ((HT2.out.then HT3.out).trans htu fun i hi => .inr (by rw [List.mem_singleton] at hi; rw [hi, HBU.out]; exact Nat.le_refl _))
  have HO4 : Hid (nK.Own w.heap.size w4 v2 [⟨x, 4, false, 0⟩]) := Lib.hid (HO3.out.turns htu fun i hi hm => by rw [List.mem_singleton] at hm; subst hm; exact hbo (by unfold ownB; rw [hi]; simp))
  have HM4 := Lib.hid hm4
  clear hu3 hm4 htu hbo hrun
  go_wp2_with fail
  rw [rounds_succ]
  go_wp2_with (at_range; refine wpList_range_g nameKD rfl _ 50 rfl 71 sm_keyed Try.underlying50 pread bu _ _ rfl HM4.out ?_; intro w0 hrg0 ht0 hs0)
  go_frame
  have HR0 := Lib.hid hrg0
  have HT5 := Lib.hid (HT4.out.then ht0)
  have HO5 := Lib.hid (HO4.out.turns ht0 (by simp))
  clear hrg0 ht0 hs0
  go_loopw [] (fun wr => ∃ left cnt, RangeG nameKD pread wr bu w4.heap.size (fun y => if y = x.name then none else none) left cnt ∧ Hid (Turns [] w wr ∧ nK.Own w.heap.size wr v2 [⟨x, 4, false, 0⟩])) (fun wr => wr.rangeLeft bu w4.heap.size)
  case atStart => exact ⟨_, _, HR0.out, Lib.hid ⟨HT5.out, HO5.out⟩⟩
  case round =>
    obtain ⟨left, cnt, hrg, HQ⟩ := hrel
    have HRG := Lib.hid hrg
    clear hrg
    go_wp2_with (at_next; refine wpList_next_g nameKD rfl _ rfl sm_keyed pread pread_inj bu w4.heap.size _ left cnt rfl HRG.out ?_ ?_)
    · intro hl0
      clear hl0
      go_wp2
      go_ret
      exact ⟨⟨_, rfl, HQ.out.2⟩, HQ.out.1⟩
set_option maxRecDepth 100000 in
set_option maxHeartbeats 1000000 in
theorem sortedZ (w : World) :
    Calls Try.prog 34 #[.func (.func 39) #[] #[.pointer (some ⟨w.heap.size, 0, none⟩)], .func (.func 36) #[] #[]] (w.alloc (.cells #[.map none] 50)) fun e w' =>
      e = .returned (.slice none 0 0) ∧ Turns [] w w' := by
  have hseq : SeqGives Fence.wide 2 Try.prog 39 #[.pointer (some ⟨w.heap.size, 0, none⟩)] encStr (fun ss : List (List UInt8) => ss = []) 0 (w.alloc (.cells #[.map none] 50)) :=
    AnyZ.keys_gives_nil (ρ := Try.keysT_ren) { Try.keysT with } Fence.wide _ trivial rfl w.heap.size _ (by simp) (by simp)
  have cS := AnyZ.collect_in Try.collectT Fence.wide 4 trivial trivial rfl (by omega) 39 #[.pointer (some ⟨w.heap.size, 0, none⟩)] trivial (enters_of Try.func39 (by kernel_rfl) rfl) _ 0 (Nat.zero_le _) (by omega) _ hseq
  change CallsIn _ _ Try.prog 37 _ _ _ at cS
  have HC := Lib.hid ((callsIn_wide (n := 4)).1 cS)
  have HT : Hid (Turns [] w (w.alloc (.cells #[.map none] 50))) := Lib.hid (Turns.alloc _ _)
  clear hseq cS
  generalize w.alloc (.cells #[.map none] 50) = W at HC HT ⊢
  go_enter Try.func34, Try.ntmps34
  go_wp2_with fail
  refine HC.out.mono ?_
  rintro e w1 ⟨v, ss, rfl, rfl, hrow, hnil, hb⟩
  obtain rfl : v = .slice none 0 0 := hnil.2 rfl
  have HT1 := Lib.hid (HT.out.then (Turns.of_below hb (Nat.le_refl _)))
  have HN := Lib.hid (AnyF.slices_SortFunc_none Try.sortF0T none 0 (.func (.func 36) #[] #[]) w1)
  change Hid (Calls Try.prog 38 _ _ _) at HN
  clear hrow hnil hb
  go_wp2_with fail
  refine HN.out.mono ?_
  rintro e w2 ⟨rfl, rfl⟩
  go_wp2
  go_ret
  exact ⟨rfl, HT1.out⟩
set_option maxRecDepth 100000 in
set_option maxHeartbeats 1000000 in
theorem listZ {w : World} {z : Nat} (h : Zs w z) : Calls Try.prog 29 #[ptr z] w fun e w' => (∃ v, e = .returned v ∧ lstK.Own w.heap.size w' v []) ∧ Turns [] w w' := by
  have c2 := h.c1
  have hlen0 := len_nilmap w
  obtain ⟨i0, hi, hz0, hz1, hz2⟩ := info_parts lstOk.inf
  obtain ⟨w1, hmk, hown1, hg1⟩ := run_make_own (P := Try.prog) (w := w) w.heap.size 74 54 i0 _ 6 Try.underlying74 hi hz0 hz1 .i64 .i64 0 (by rw [hz2]; decide) (by unfold maxLen; omega) (Nat.le_refl _)
  have hmk' : (Instr.makeSlice 74 (.int .i64 0) (.int .i64 0)).run Try.prog w = .ok (.slice (some ⟨w.heap.size, 0, none⟩) 0 0) w1 := hmk
  have t1 : Turns [] w w1 := Turns.of_grown hg1
  have d2 := (h.pre t1).c1
  have HK := Lib.hid (keys_nm none w1)
  have HS := Lib.hid (sortedZ w1)
  have HT1 := Lib.hid t1
  have HO1 : Hid (lstK.Own w.heap.size w1 (.slice (some ⟨w.heap.size, 0, none⟩) 0 0) []) := Lib.hid hown1
  clear h t1 hown1 hg1 hi hz0 hz1 hz2 hmk
  go_enter Try.func29, Try.ntmps29
  go_wp2_with fail
  refine HK.out.mono ?_
  rintro e w2 ⟨rfl, rfl⟩
  go_wp2_with fail
  refine HS.out.mono ?_
  rintro e w2 ⟨rfl, hb2⟩
  have HB2 := Lib.hid hb2
  have HO2 := Lib.hid (HO1.out.turns hb2 (by simp))
  clear hb2
  go_wp2_with fail
  refine wp_loop_rounds 1 ?_
  rw [rounds_succ]
  go_wp2_with fail
  go_ret
  exact ⟨⟨_, rfl, HO2.out⟩, HT1.out.then HB2.out⟩
set_option maxRecDepth 100000 in
set_option maxHeartbeats 1000000 in
theorem allZ {w : World} {z : Nat} (h : Zs w z) :
    Calls Try.prog 21 #[ptr z] w fun e w' => ∃ gf caps bs, e = .returned (.func (.func gf) #[] caps) ∧ (∀ args W, (callFunc gf args).run Try.prog W = .ok (.enter gf args) W) ∧ (∀ b ∈ bs, b < w'.heap.size) ∧ Turns [] w w' ∧
      ∀ W, Turns [] w' W → SeqStopsK Fence.wide 5 Try.prog gf caps encOne (KeepL bs) (fun ys => ys = []) (fun pre => pre <+: []) 0 W := by
  have hmf : ∀ (fn : Fn) (first cap : Array Value) (w : World), (Instr.makeFunc fn first cap).run Try.prog w = .ok (.func fn first cap) w := fun _ _ _ _ => rfl
  have HLS := Lib.hid (listZ h)
  clear h
  go_enter Try.func21, Try.ntmps21
  go_wp2_with fail
  refine HLS.out.mono ?_
  rintro e w1 ⟨⟨v, rfl, hv⟩, hb⟩
  have HB := Lib.hid hb
  have HV := Lib.hid hv
  have hform : ∃ A c g, v = .slice A 0 c ∧ (∀ i, v.ownBlock = some i → i = g) ∧ g < w1.heap.size + 1 := by
    rcases hv.form with ⟨rfl, h0⟩ | ⟨g, cap, rfl, _, hg, _⟩
    · exact ⟨none, 0, 0, rfl, fun i hi => by simp [Value.ownBlock] at hi, by omega⟩
    · exact ⟨_, _, g, rfl, fun i hi => by simpa [Value.ownBlock] using hi.symm, by omega⟩
  obtain ⟨A, c, g, hve, hg1, hg2⟩ := hform
  have HG1 := Lib.hid hg1
  have HG2 := Lib.hid hg2
  have HVE := Lib.hid hve
  clear hb hv hg1 hg2 hve
  rw [HVE.out]
  go_wp2_with fail
  go_ret
  refine ⟨_, _, [g], rfl, enters_of Try.func30 (by kernel_rfl) rfl, fun i hi => by rw [List.mem_singleton] at hi; subst hi; simpa using HG2.out, HB.out.then (Turns.alloc _ _), fun W hW => ?_⟩
  have hV := HV.out.alloc (.cells #[.slice A 0 c] 74)
  rw [← HVE.out] at hV hW
  refine allS_stops (fun x : One => x) [] Fence.wide 5 trivial rfl (by omega) w1.heap.size g w.heap.size v [] rfl (by simp) (by simp) W (Nat.lt_of_lt_of_le (by simp) hW.size) ?_ (hV.turns hW (by simp)) HG1.out
  exact (hW.cell (by simp) (by simp) 0).trans (Boxed.new w1 _ _).cell
end Go.Proofs.Ytadndefbdofodaa

namespace Go.Proofs.Ytadndefbdofodaa
open Go.RowKit Go.Maps Go.Shelf
attribute [local go_sem] Oper.semAt_some
attribute [local go_sem] wide_fn

set_option maxRecDepth 100000 in
set_option maxHeartbeats 8000000 in
theorem sameZ {w : World} {z q b2 B2 : Nat} {P2 : PM} (h1 : Zs w z) (h2 : Sm B2 w q b2 0 P2 0) :
    Calls Try.prog 18 #[ptr z, ptr q] w (SameQ w true) := by
  refine (callsIn_wide (n := 6)).1 ?_
  refine callsIn_of_wp_marks Try.func18 rfl trivial ?_ rfl
  simp only [Try.ntmps18, List.size_toArray, List.length_cons, List.length_nil, Nat.reduceAdd, Nat.reduceSub, Array.replicate_succ, Array.replicate_zero, List.push_toArray, List.append_toArray, List.nil_append, List.cons_append]
  refine wpIn_wide.2 ?_
  have H1 := Lib.hid h1
  have H2 := Lib.hid h2
  clear h1 h2
  go_upto_region 1 with fail
  obtain ⟨W0, hW0⟩ : ∃ W0, (w.alloc (.cells #[ptr q] 25)).alloc (.cells #[.bool false] 4) = W0 := ⟨_, rfl⟩
  have hs0 : W0.heap.size = w.heap.size + 2 := by rw [← hW0]; simp
  have hT0 : Turns [] w W0 := by rw [← hW0]; exact (Turns.alloc (F := []) w _).then (Turns.alloc (F := []) _ _)
  have b3 : Boxed W0 w.heap.size 25 (ptr q) := by rw [← hW0]; exact (Boxed.new w _ _).alloc _
  have b4 : Boxed W0 (w.heap.size + 1) 4 (.bool false) := by
    rw [← hW0]
    have := Boxed.new (w.alloc (.cells #[ptr q] 25)) 4 (.bool false)
    rw [World.size_alloc] at this
    exact this
  have HT0 := Lib.hid hT0
  have HB4 : Hid (∀ W, Turns [] W0 W → Boxed W (w.heap.size + 1) 4 (.bool false)) := Lib.hid (fun W hW => (hW.block _ (by omega) (by simp)).trans b4)
  have HA1 : Hid (∀ W, Turns [] W0 W → Zs W z) := Lib.hid fun W hW => H1.out.pre (hT0.then hW)
  have HA2 : Hid (∀ W, Turns [] W0 W → Sm B2 W q b2 0 P2 0) := Lib.hid fun W hW => H2.out.pre (hT0.then hW)
  have a3 := b3.cell
  rw [hW0]
  clear hW0 hs0 hT0 b3 b4
  have HRF : Hid (∀ W, Turns [] W0 W → W.cell? ⟨w.heap.size + 1, 0, none⟩ = some (.bool false) ∧ W.frozen? ⟨w.heap.size + 1, 0, none⟩ = false) := Lib.hid fun W hW => ⟨(HB4.out W hW).cell, (HB4.out W hW).frozen⟩
  go_upto_region 3 with fail
  have c1 := (HA1.out W0 (Turns.refl _ _)).c0
  have c2 := (HA2.out W0 (Turns.refl _ _)).c0
  have HLN : Hid (∀ (r : Nat) (W : World), (r = z ∨ r = q) → (∃ k, W = W0.drewN k) → Calls Try.prog 15 #[ptr r] W fun e w' => e = .returned (.int .i64 0) ∧ w' = W) := Lib.hid (by
    rintro r W (rfl | rfl) ⟨k, rfl⟩
    · exact lenZ _ _ (HA1.out _ ((Turns.refl [] W0).drewN k))
    · exact lenQ_any (HA2.out _ ((Turns.refl [] W0).drewN k)))
  go_quiet ((first | (go_at_call_of 15 (ptr z); exact Calls.quiet_of_same (HLN.out _ _ (.inl rfl) ⟨_, rfl⟩)) | (go_at_call 15; exact Calls.quiet_of_same (HLN.out _ _ (.inr rfl) ⟨_, rfl⟩))))
  have hTq : Turns [] W0 (W0.drewN nq) := (Turns.refl [] W0).drewN nq
  obtain ⟨W1, hW1⟩ : ∃ W1, W0.drewN nq = W1 := ⟨_, rfl⟩
  rw [hW1] at hTq ⊢
  have HTQ := Lib.hid hTq
  clear hW1 c1 c2 a3 hTq HLN
  have HAL := Lib.hid (allZ (HA1.out W1 HTQ.out))
  go_wp2_with fail
  refine HAL.out.mono ?_
  rintro e w3 ⟨gf, caps, bs, rfl, heg, hbs, ht3, hsq⟩
  have HEG := Lib.hid heg
  have HBS := Lib.hid hbs
  have HSQ := Lib.hid hsq
  have HT3 := Lib.hid (HTQ.out.then ht3)
  have HTW3 := Lib.hid (HT0.out.then HT3.out)
  clear HAL heg hbs ht3 hsq HTQ
  go_wp2_with fail
  refine (wpIn_wide (n := 6)).1 ?_
  refine' wpIn_rangeFunc_box (F := Fence.wide) (n := 6) rfl (by omega) (gf := gf) (lb := caps) rfl trivial HEG.out (HSQ.out w3 (Turns.refl _ _))
    KeepL.t (KeepL.put HBS.out) (fun W o hs => KeepL.of (F := []) (Turns.alloc W o) (fun b hb => ⟨Nat.lt_of_lt_of_le (HBS.out b hb) hs, by simp⟩)) (Below.refl _ _) (fun _ => rfl)
    (fun pre W => Below w3.heap.size w3 W)
    (fun c pre W => False)
    (ownFrom_below (Nat.le_refl _) (Nat.le_refl _))
    (fun c s A B row hs _ _ => hs)
    (Below.refl _ _) (fun pre W h => h.size)
    _ (fun x => .cells #[.string x.l.s.name, .int .i64 x.l.s.val, .int .i64 x.l.s.tm, .bool x.l.s.cnt, .bool x.l.live, .int .i64 x.l.own] 54 (0, 0)) (fun _ => rfl) ?assign ?body ?done ?stop
  case assign =>
    intro l x W K hK
    obtain ⟨b, hb⟩ : ∃ b, b = W.heap.size := ⟨_, rfl⟩
    unfold encOne Lst.val'
    gi_wp2
    rw [← hb]
    exact hK b _ hb rfl
  case body =>
    rintro l pre x b W hbw hbx hB hlt
    exact absurd hlt (by omega)
  case done =>
    rintro D ys W hD hys hB hK
    have hcr := HRF.out W (HT3.out.then (Turns.of_below hB (Nat.le_refl _)))
    obtain ⟨hcr1, hfr1⟩ := hcr
    gi_wp2
    go_wp2
    have hK' := (KeepsOthers.setCell W ⟨w.heap.size + 1, 0, none⟩ (.bool true)).same D _ hK rfl
    refine ⟨by simp, .inl ⟨_, _, rfl, run_takeDeferred hK', ?_⟩⟩
    have hc5 := cell_kept (World.cell?_setCell_same' W ⟨w.heap.size + 1, 0, none⟩ (.bool true) (by rw [hcr1]; rfl)) (grownBy_putObj' _ D (.deferred none)) (fun r e => by cases e; exact ⟨_, hK', rfl⟩)
    have hbw : Below w.heap.size w ((W.setCell ⟨w.heap.size + 1, 0, none⟩ (.bool true)).putObj D (.deferred none)) := (((HTW3.out.below (by simp) (Nat.le_refl _)).trans (hB.mono HTW3.out.size)).setCell (p := ⟨w.heap.size + 1, 0, none⟩) (by simp) _).trans (belowK_s (w := w) D _ _ (by have := HTW3.out.size; omega) hK' rfl rfl)
    refine ⟨.bool true, ?_, ⟨rfl, Turns.of_below hbw (Nat.le_refl _)⟩⟩
    simp [results, Try.f18, go_sem, hc5]
  case stop =>
    rintro D c pre W hD hSp h hK
    exact h.elim
end Go.Proofs.Ytadndefbdofodaa
