/- Both look the same: the law's walk. -/
import Derived.Test.YtadndefbdofodaaStC
import Derived.Test.YtadndefbdofodaaStLookQ
import Derived.Test.YtadndefbdofodaaRangeBox
import Derived.RangeFuncNested
import Derived.RangeFuncBound
import Derived.RangeFuncCalls
import Derived.RangeFuncLeaves
import Derived.Shelf.Abstract
import Derived.Shelf.RegionOpen
import Derived.WalkKit
import Derived.OwnWalkIn
import Derived.TacticsInMore
import Derived.LoopNIn
import Derived.LoopIn
namespace Go.Proofs.Ytadndefbdofodaa
open Go.RowKit Go.Maps Go.Shelf
attribute [local go_sem] Oper.semAt_some

set_option maxRecDepth 100000 in
set_option maxHeartbeats 4000000 in
theorem look_st (C : StC) {B : Nat} {w : World} {p rv : Nat} {F : List Nat} {v : Value} {most : Nat} {L : List One} (ha : C.At B w p F most L) (hr : RefS B w rv v most L) (hl : L.length ≤ 900) (leave : Int) :
    Calls Try.prog 11 #[ptr p, ptr rv, .int .i64 leave] w fun e w' => e = .returned (.bool true) ∧ Below w.heap.size w w' := by
  refine (callsIn_wide (n := 6)).1 ?_
  refine callsIn_of_wp_marks Try.func11 rfl trivial ?_ rfl
  simp only [Try.ntmps11, List.size_toArray, List.length_cons, List.length_nil, Nat.reduceAdd, Nat.reduceSub, Array.replicate_succ, Array.replicate_zero, List.push_toArray, List.append_toArray, List.nil_append, List.cons_append]
  refine wpIn_wide.2 ?_
  obtain ⟨A, c, hv, -, -, -⟩ := hr.form
  have HA := Lib.hid ha
  have HR := Lib.hid hr
  have HL := Lib.hid hl
  have HV := Lib.hid hv
  clear ha hr hl hv
  go_upto_block 0 with fail
  obtain ⟨W0, hW0⟩ : ∃ W0, ((w.alloc (.cells #[.pointer (some ⟨rv, 0, none⟩)] 27)).alloc (.cells #[.int .i64 leave] 3)).alloc (.cells #[.bool false] 4) = W0 := ⟨_, rfl⟩
  have hs0 : W0.heap.size = w.heap.size + 3 := by rw [← hW0]; simp
  have hT0 : Turns [] w W0 := by rw [← hW0]; exact ((Turns.alloc (F := []) w _).trans (Turns.alloc (F := []) _ _) (by simp)).trans (Turns.alloc (F := []) _ _) (by simp)
  have b4 : Boxed W0 w.heap.size 27 (.pointer (some ⟨rv, 0, none⟩)) := by rw [← hW0]; exact ((Boxed.new w _ _).alloc _).alloc _
  have b5 : Boxed W0 (w.heap.size + 1) 3 (.int .i64 leave) := by
    rw [← hW0]
    have := Boxed.new (w.alloc (.cells #[.pointer (some ⟨rv, 0, none⟩)] 27)) 3 (.int .i64 leave)
    rw [World.size_alloc] at this
    exact this.alloc _
  have b6 : Boxed W0 (w.heap.size + 1 + 1) 4 (.bool false) := by
    rw [← hW0]
    have := Boxed.new ((w.alloc (.cells #[.pointer (some ⟨rv, 0, none⟩)] 27)).alloc (.cells #[.int .i64 leave] 3)) 4 (.bool false)
    rw [World.size_alloc, World.size_alloc] at this
    exact this
  have HT0 := Lib.hid hT0
  have HS0 := Lib.hid hs0
  have HB4 : Hid (∀ W, Turns [] W0 W → W.cell? ⟨w.heap.size, 0, none⟩ = some (.pointer (some ⟨rv, 0, none⟩))) := Lib.hid (fun W hW => (World.cell?_of_block (hW.block w.heap.size (by omega) (by simp))).trans b4.cell)
  have HB5 : Hid (∀ W, Turns [] W0 W → W.cell? ⟨w.heap.size + 1, 0, none⟩ = some (.int .i64 leave)) := Lib.hid (fun W hW => (World.cell?_of_block (hW.block (w.heap.size + 1) (by omega) (by simp))).trans b5.cell)
  have HB6 : Hid (∀ W, Turns [] W0 W → Boxed W (w.heap.size + 1 + 1) 4 (.bool false)) := Lib.hid (fun W hW => (hW.block _ (by omega) (by simp)).trans b6)
  have HA0 : Hid (∀ W, Turns [] W0 W → C.At B W p F most L) := Lib.hid (fun W hW => C.pre HA.out (hT0.then hW))
  have HR0 : Hid (∀ W, Turns [] W0 W → RefS B W rv v most L) := Lib.hid (fun W hW => HR.out.pre (hT0.then hW))
  have HD0 : Hid (∀ W, Turns [] W0 W → W.cell? ⟨rv, 0, none⟩ = some (.slice A L.length c)) := Lib.hid (fun W hW => by
    have := (HR0.out W hW).cells.1
    rwa [HV.out] at this)
  rw [hW0]
  clear hW0 hs0 hT0 b4 b5 b6
  go_cut [7, 8, 9, 10] from 18 to 57 (fun v7 v8 v9 v10 wx => v7 = .int .i64 (liveP L : Nat) ∧ Hid (Turns [] W0 wx))
  case first =>
    go_wp2_with fail
    go_loopw [7, 8] (fun lv iv wr => ∃ k : Nat, iv = .int .i64 (k : Int) ∧ k ≤ L.length ∧ lv = .int .i64 (liveP (L.take k) : Nat) ∧ Hid (Turns [] W0 wr)) (fun _ iv _ => L.length - (intOf iv).toNat)
    case atStart => exact ⟨0, rfl, Nat.zero_le _, rfl, Lib.hid (Turns.refl _ _)⟩
    case round =>
      obtain ⟨k, rfl, hk, rfl, HT⟩ := hrel
      have a4 := HB4.out wr HT.out
      have d0 := HD0.out wr HT.out
      have hL9 : (L.length : Int) ≤ 900 := by have := HL.out; omega
      have f0 : (0 : Int) ≤ (k : Int) := by omega
      by_cases hlt : k < L.length
      · have hlt' : (k : Int) < (L.length : Int) := by omega
        obtain ⟨y, hy⟩ : ∃ y, L[k]? = some y := ⟨_, List.getElem?_eq_getElem hlt⟩
        obtain ⟨g, c', e, _, _, _, hc⟩ := HR.out.at_ hy
        rw [HV.out] at e
        injection e with e1 _ e3
        subst e1 e3
        have HC : Hid (∀ W, Turns [] W0 W → W.cell? ⟨g, k * 7, none⟩ = some (.string y.name) ∧ W.cell? ⟨g, k * 7 + 1, none⟩ = some (.string y.l.s.name) ∧ W.cell? ⟨g, k * 7 + 1 + 1, none⟩ = some (.int .i64 y.l.s.val) ∧ W.cell? ⟨g, k * 7 + 1 + 2, none⟩ = some (.int .i64 y.l.s.tm) ∧ W.cell? ⟨g, k * 7 + 1 + 3, none⟩ = some (.bool y.l.s.cnt) ∧ W.cell? ⟨g, k * 7 + 1 + 4, none⟩ = some (.bool y.l.live) ∧ W.cell? ⟨g, k * 7 + 1 + 5, none⟩ = some (.int .i64 y.l.own)) := Lib.hid (fun W hW => by
          obtain ⟨g', c', e, _, _, _, hc⟩ := (HR0.out W hW).at_ hy
          rw [HV.out] at e
          injection e with e1 _ e3
          cases e1
          exact ⟨hc 0 _ rfl, hc 1 _ rfl, hc 2 _ rfl, hc 3 _ rfl, hc 4 _ rfl, hc 5 _ rfl, hc 6 _ rfl⟩)
        have HG := Lib.hid (C.get (HA0.out wr HT.out) (by omega) y.name (C.names (HA0.out wr HT.out) y (List.mem_of_getElem? hy)))
        rw [get_here (HA0.out wr HT.out) hy] at HG
        unfold Lst.val' at HG
        have k0 := (HC.out wr HT.out).1
        have HY := Lib.hid hy
        clear hc hy
        go_wp2_with fail
        refine HG.out.mono ?_
        rintro e w1 ⟨rfl, ht1⟩
        have HT1 := Lib.hid (HT.out.then ht1)
        clear ht1 a4 d0 k0
        go_upto_region 6 with fail
        obtain ⟨w2, hw2⟩ : ∃ w2, w1.alloc (.cells #[.string y.l.s.name, .int .i64 y.l.s.val, .int .i64 y.l.s.tm, .bool y.l.s.cnt, .bool y.l.live, .int .i64 y.l.own] 54) = w2 := ⟨_, rfl⟩
        have hb2 : w2.heap[w1.heap.size]? = some (.cells #[.string y.l.s.name, .int .i64 y.l.s.val, .int .i64 y.l.s.tm, .bool y.l.s.cnt, .bool y.l.live, .int .i64 y.l.own] 54 (0, 0)) := by rw [← hw2]; exact heap_alloc_new w1 _
        have hT2 : Turns [] w1 w2 := by rw [← hw2]; exact Turns.alloc _ _
        have HT2 := Lib.hid (HT1.out.then hT2)
        have q0 : w2.cell? ⟨w1.heap.size, 0, none⟩ = some (.string y.l.s.name) := by simp [World.cell?, hb2]
        have q1 : w2.cell? ⟨w1.heap.size, 1, none⟩ = some (.int .i64 y.l.s.val) := by simp [World.cell?, hb2]
        have q2 : w2.cell? ⟨w1.heap.size, 2, none⟩ = some (.int .i64 y.l.s.tm) := by simp [World.cell?, hb2]
        have q3 : w2.cell? ⟨w1.heap.size, 3, none⟩ = some (.bool y.l.s.cnt) := by simp [World.cell?, hb2]
        have q4 : w2.cell? ⟨w1.heap.size, 4, none⟩ = some (.bool y.l.live) := by simp [World.cell?, hb2]
        have q5 : w2.cell? ⟨w1.heap.size, 5, none⟩ = some (.int .i64 y.l.own) := by simp [World.cell?, hb2]
        obtain ⟨-, r0, r1, r2, r3, r4, r5⟩ := HC.out w2 HT2.out
        have a4 := HB4.out w2 HT2.out
        have d0 := HD0.out w2 HT2.out
        have hgd := lst_guard
        have hnq := fun W => lst_neq y.l y.l W
        rw [lstE_self] at hnq
        rw [hw2]
        clear hw2 hb2 hT2 HT1
        go_quiet (fail)
        have HNX := Lib.hid (live_next HY.out)
        have HLE := Lib.hid (live_le (L.take k))
        have HTD := Lib.hid (HT2.out.drewN nq)
        have e4 : (w2.drewN nq).cell? ⟨w1.heap.size, 4, none⟩ = some (.bool y.l.live) := q4
        have hnk : (liveP (L.take k) : Int) ≤ 900 := by
          have := HLE.out
          rw [List.length_take] at this
          omega
        clear q0 q1 q2 q3 q4 q5 r0 r1 r2 r3 r4 r5 a4 d0 hgd hnq HLE HG
        generalize liveP (L.take k) = n0 at HNX hnk ⊢
        obtain ⟨w3, hw3⟩ : ∃ w3, w2.drewN nq = w3 := ⟨_, rfl⟩
        rw [hw3] at HTD e4 ⊢
        clear hw3
        cases hlv : y.l.live with
        | true =>
          rw [hlv] at e4
          go_wp2_with fail
          go_roundw
          case rel => exact ⟨k + 1, by go_num, hlt, by rw [HNX.out, hlv]; go_num, HTD⟩
          case measure => simp [intOf] <;> omega
        | false =>
          rw [hlv] at e4
          go_wp2_with fail
          go_roundw
          case rel => exact ⟨k + 1, by go_num, hlt, by rw [HNX.out, hlv]; simp, HTD⟩
          case measure => simp [intOf] <;> omega
      · have hge : decide ((k : Int) < (L.length : Int)) = false := by simp; omega
        obtain rfl : k = L.length := by omega
        rw [List.take_length]
        go_wp2_with fail
        go_meet
        exact ⟨rfl, HT⟩
  case rest =>
  obtain ⟨rfl, HT3⟩ := hcut
  have HG := Lib.hid (C.get (HA0.out _ HT3.out) (by have := HL.out; omega) ⟨#[110, 111, 32, 115, 117, 99, 104, 32, 110, 97, 109, 101]⟩ (by decide))
  rw [get_is] at HG
  unfold Lst.val' at HG
  generalize (getP ⟨#[110, 111, 32, 115, 117, 99, 104, 32, 110, 97, 109, 101]⟩ L).1 = z at HG
  go_wp2_with fail
  refine HG.out.mono ?_
  rintro e w4 ⟨rfl, ht4⟩
  have HT4 := Lib.hid (HT3.out.then ht4)
  clear ht4 HG
  go_upto_region 11 with fail
  obtain ⟨w5, hw5⟩ : ∃ w5, w4.alloc (.cells #[.string z.s.name, .int .i64 z.s.val, .int .i64 z.s.tm, .bool z.s.cnt, .bool z.live, .int .i64 z.own] 54) = w5 := ⟨_, rfl⟩
  have HT5 := Lib.hid (HT4.out.then (show Turns [] w4 w5 by rw [← hw5]; exact Turns.alloc _ _))
  rw [hw5]
  clear hw5
  have a4 := HB4.out w5 HT5.out
  have HO := Lib.hid (rofS_any (HR0.out w5 HT5.out) (by have := HL.out; omega) ⟨#[110, 111, 32, 115, 117, 99, 104, 32, 110, 97, 109, 101]⟩)
  have hge : decide ((0 : Int) ≤ ofI (ofN ⟨#[110, 111, 32, 115, 117, 99, 104, 32, 110, 97, 109, 101]⟩ L)) = (ofN ⟨#[110, 111, 32, 115, 117, 99, 104, 32, 110, 97, 109, 101]⟩ L).isSome := by
    cases ofN ⟨#[110, 111, 32, 115, 117, 99, 104, 32, 110, 97, 109, 101]⟩ L with
    | none => simp [ofI]
    | some i => simp [ofI]
  generalize (ofN ⟨#[110, 111, 32, 115, 117, 99, 104, 32, 110, 97, 109, 101]⟩ L).isSome = is at hge ⊢
  generalize ofI (ofN ⟨#[110, 111, 32, 115, 117, 99, 104, 32, 110, 97, 109, 101]⟩ L) = oi at hge HO
  have hii : (is != is) = false := bne_self_eq_false _
  go_wp2_with fail
  refine HO.out.mono ?_
  rintro e w5' ⟨rfl, rfl⟩
  go_wp2_with fail
  have HAL := Lib.hid (C.all (HA0.out w5 HT5.out) HL.out)
  refine HAL.out.mono ?_
  rintro e w6 ⟨gf, caps, bs, rfl, heg, hbs, ht6, hsq⟩
  have HT6 := Lib.hid (HT5.out.then ht6)
  have HEG := Lib.hid heg
  have HBS := Lib.hid hbs
  have HSQ := Lib.hid hsq
  have hne : ∀ (w : World), (binOp .eql 58 (.func (.func gf) #[] caps) .nilFunc).run Try.prog w = .ok (.bool false) w := fun w => by kernel_rfl
  clear HAL heg hbs ht6 hsq hge hii HO a4
  have a4 := HB4.out w6 HT6.out
  have d0 := HD0.out w6 HT6.out
  have HLN : Hid (∀ W, Hid (Turns [] w6 W) → Calls Try.prog 15 #[ptr p] W fun e w' => e = .returned (.int .i64 (L.length : Nat)) ∧ Hid (Turns [] w6 w')) := Lib.hid (fun W ht => (C.len (HA0.out W (HT6.out.then ht.out)) (by have := HL.out; omega)).mono fun e w' h => ⟨h.1, Lib.hid (ht.out.then h.2)⟩)
  have HLV : Hid (∀ W, Hid (Turns [] w6 W) → Calls Try.prog 22 #[ptr p] W fun e w' => e = .returned (.int .i64 (liveP L : Nat)) ∧ Hid (Turns [] w6 w')) := Lib.hid (fun W ht => (C.live (HA0.out W (HT6.out.then ht.out)) (by have := HL.out; omega)).mono fun e w' h => ⟨h.1, Lib.hid (ht.out.then h.2)⟩)
  have HSK : Hid (∀ w', Hid (Turns [] w6 w') → (w'.cell? ⟨w.heap.size, 0, none⟩ = some (.pointer (some ⟨rv, 0, none⟩)) ∧ w'.cell? ⟨rv, 0, none⟩ = some (.slice A L.length c) ∧ Hid (Turns [] w6 w'))) := Lib.hid (fun w' h => ⟨HB4.out _ (HT6.out.then h.out), HD0.out _ (HT6.out.then h.out), h⟩)
  have n1 : ((L.length : Int) != (L.length : Int)) = false := bne_self_eq_false _
  have n2 : ((liveP L : Int) != (liveP L : Int)) = false := bne_self_eq_false _
  go_upto_region 14 with fail
  refine wp_region_noPanic ?_
  go_region_held (fun w' => w'.cell? ⟨w.heap.size, 0, none⟩ = some (.pointer (some ⟨rv, 0, none⟩)) ∧ w'.cell? ⟨rv, 0, none⟩ = some (.slice A L.length c) ∧ Hid (Turns [] w6 w')) (first | exact HSK.out _ (Lib.hid (Turns.refl _ _).drew) | (refine HSK.out _ ?_; assumption) | (refine HSK.out _ ?_; go_split_ands; assumption)) ((first | (go_at_call 15; refine (HLN.out _ (by go_split_ands; assumption)).mono ?_; rintro e w2 ⟨rfl, ht2⟩) | (go_at_call 22; refine (HLV.out _ (by go_split_ands; assumption)).mono ?_; rintro e w3 ⟨rfl, ht3⟩)))
  refine NoPanic.normal ?_
  rename_i hh
  clear hh
  have HT67 := Lib.hid ht3.out
  have HT7 := Lib.hid (HT6.out.then ht3.out)
  clear HLN HLV HSK ht2 ht3 a4 d0 n1 n2 hne w2
  go_wp2_with fail
  refine wp_loop_rounds 3 ?_
  rw [rounds_succ]
  go_wp2_with fail
  obtain ⟨W1, hW1⟩ : ∃ W1, w3.alloc (.cells #[.int .i64 0] 3) = W1 := ⟨_, rfl⟩
  have hT1 : Turns [] w3 W1 := by rw [← hW1]; exact Turns.alloc _ _
  have bK : Boxed W1 w3.heap.size 3 (.int .i64 0) := by rw [← hW1]; exact Boxed.new w3 _ _
  rw [hW1]
  clear hW1
  have HT61 := Lib.hid (HT67.out.then hT1)
  have HT71 := Lib.hid HT7.out
  refine (wpIn_wide (n := 6)).1 ?_
  refine' wpIn_rangeFunc_box (F := Fence.wide) (n := 6) rfl (by omega) (gf := gf) (lb := caps) rfl trivial HEG.out (HSQ.out W1 HT61.out)
    KeepL.t (KeepL.put (fun b hb => Nat.lt_of_lt_of_le (HBS.out b hb) HT61.out.size)) (fun W o hs => KeepL.of (F := []) (Turns.alloc W o) (fun b hb => ⟨Nat.lt_of_lt_of_le (HBS.out b hb) (Nat.le_trans HT61.out.size hs), by simp⟩)) (Below.refl _ _) (fun _ => rfl)
    (fun pre W => (W.cell? ⟨w3.heap.size, 0, none⟩ = some (.int .i64 (pre.length : Int)) ∧ W.frozen? ⟨w3.heap.size, 0, none⟩ = false) ∧ pre <+: L ∧ Below w3.heap.size w3 W ∧ W1.heap.size ≤ W.heap.size)
    (fun c pre W => (c = .ret ∧ ¬ pre <+: L) ∨ (c = .exit 4 ∧ (pre.length : Int) = leave ∧ (W.cell? ⟨w3.heap.size, 0, none⟩ = some (.int .i64 leave) ∧ W.frozen? ⟨w3.heap.size, 0, none⟩ = false) ∧ Below w3.heap.size w3 W))
    (OwnFrom.and (Own.from (fun s A B row hs hg hr => ⟨cell_kept hs.1 hg hr, (frozen_kept hs.1 hg hr).trans hs.2⟩) _) (OwnFrom.and (fun s A B row hs _ _ => hs) (OwnFrom.and (ownFrom_below (Nat.le_refl _) hT1.size) (fun s A B row hs hg _ => Nat.le_trans hs hg.size))))
    (fun c s A B row hs hg hr => by
      rcases hs with h1 | ⟨h1, h0, h2, h3⟩
      · exact .inl h1
      · exact .inr ⟨h1, h0, ⟨cell_kept h2.1 hg (fun r e => (hr r e).2), (frozen_kept h2.1 hg (fun r e => (hr r e).2)).trans h2.2⟩, ownFrom_below (β := Unit) (Nat.le_refl _) hT1.size () A B row h3 hg hr⟩)
    ⟨⟨bK.cell, bK.frozen⟩, List.nil_prefix, hT1.below (by simp) (Nat.le_refl _), Nat.le_refl _⟩ (fun pre W h => h.2.2.2)
    _ (fun x => .cells #[.string x.l.s.name, .int .i64 x.l.s.val, .int .i64 x.l.s.tm, .bool x.l.s.cnt, .bool x.l.live, .int .i64 x.l.own] 54 (0, 0)) (fun _ => rfl) ?assign ?body ?done ?stop
  case assign =>
    intro l x W K hK
    obtain ⟨b, hb⟩ : ∃ b, b = W.heap.size := ⟨_, rfl⟩
    unfold encOne Lst.val'
    gi_wp2
    rw [← hb]
    exact hK b _ hb rfl
  case body =>
    rintro l pre x b W hbw hbx ⟨⟨hck, hfk⟩, hpre, hB, hsz⟩ hlt
    have HSZ := Lib.hid hsz
    clear hsz
    have HTW := Lib.hid (HT71.out.then (Turns.of_below hB (Nat.le_refl _)))
    have a4 := HB4.out W HTW.out
    have a5 := HB5.out W HTW.out
    have d0 := HD0.out W HTW.out
    have c6 := (HB6.out W HTW.out).cell
    have f6 := (HB6.out W HTW.out).frozen
    have q0 : W.cell? ⟨b, 0, none⟩ = some (.string x.l.s.name) := by simp [World.cell?, hbx]
    have q1 : W.cell? ⟨b, 1, none⟩ = some (.int .i64 x.l.s.val) := by simp [World.cell?, hbx]
    have q2 : W.cell? ⟨b, 2, none⟩ = some (.int .i64 x.l.s.tm) := by simp [World.cell?, hbx]
    have q3 : W.cell? ⟨b, 3, none⟩ = some (.bool x.l.s.cnt) := by simp [World.cell?, hbx]
    have q4 : W.cell? ⟨b, 4, none⟩ = some (.bool x.l.live) := by simp [World.cell?, hbx]
    have q5 : W.cell? ⟨b, 5, none⟩ = some (.int .i64 x.l.own) := by simp [World.cell?, hbx]
    have hgd := lst_guard
    have hl9 : (L.length : Int) ≤ 900 := by have := HL.out; omega
    obtain ⟨y, hy⟩ : ∃ y, L[pre.length]? = some y := ⟨_, List.getElem?_eq_getElem hlt⟩
    have HPX : Hid ((pre ++ [x]) <+: L ↔ y = x) := Lib.hid (prefix_next hpre hy)
    obtain ⟨g, c', e, _, _, _, hc⟩ := (HR0.out W HTW.out).at_ hy
    obtain ⟨A2, c2, e2, -⟩ := (HR0.out W HTW.out).form
    rw [HV.out] at e
    injection e with e1 _ e3
    subst e1 e3
    obtain ⟨kn, hkn⟩ : ∃ kn : Nat, kn = pre.length := ⟨_, rfl⟩
    rw [← hkn] at hck hlt hc
    have HKN := Lib.hid hkn
    have k0 : W.cell? ⟨g, kn * 7, none⟩ = some (.string y.name) := hc 0 _ rfl
    have k1 : W.cell? ⟨g, kn * 7 + 1, none⟩ = some (.string y.l.s.name) := hc 1 _ rfl
    have k2 : W.cell? ⟨g, kn * 7 + 1 + 1, none⟩ = some (.int .i64 y.l.s.val) := hc 2 _ rfl
    have k3 : W.cell? ⟨g, kn * 7 + 1 + 2, none⟩ = some (.int .i64 y.l.s.tm) := hc 3 _ rfl
    have k4 : W.cell? ⟨g, kn * 7 + 1 + 3, none⟩ = some (.bool y.l.s.cnt) := hc 4 _ rfl
    have k5 : W.cell? ⟨g, kn * 7 + 1 + 4, none⟩ = some (.bool y.l.live) := hc 5 _ rfl
    have k6 : W.cell? ⟨g, kn * 7 + 1 + 5, none⟩ = some (.int .i64 y.l.own) := hc 6 _ rfl
    have hge : decide ((L.length : Int) ≤ (kn : Int)) = false := by rw [decide_eq_false_iff_not]; omega
    have hge2 : decide (L.length ≤ kn) = false := by rw [decide_eq_false_iff_not]; omega
    have hkl : (kn : Int) < (L.length : Int) := by omega
    have hk0 : (0 : Int) ≤ (kn : Int) := by omega
    have HBB := Lib.hid hB
    have HPL := Lib.hid hpre
    have HBK : Hid (KeepL bs W ((W.drewN 0).setCell ⟨w3.heap.size, 0, none⟩ .nilFunc) ∧ ∀ nq v, KeepL bs W ((W.drewN nq).setCell ⟨w3.heap.size, 0, none⟩ v)) := Lib.hid (by
      have h : ∀ nq v, KeepL bs W ((W.drewN nq).setCell ⟨w3.heap.size, 0, none⟩ v) := fun nq v b hb => box_keep (by have := HBS.out b hb; have := HT67.out.size; omega) (by have := HBS.out b hb; have := HT67.out.size; have := hB.size; omega)
      exact ⟨h _ _, h⟩)
    have hn1 : ¬ w.heap.size + 1 + 1 = w3.heap.size := by have := HS0.out; have := HT7.out.size; omega
    have hn2 : ¬ w.heap.size + 1 = w3.heap.size := by have := HS0.out; have := HT7.out.size; omega
    clear hbx hc hpre hB hy e2 hlt hkn
    by_cases hnm : y.name = x.name
    · have s1 : (y.name.toList != x.name.toList) = false := by rw [hnm]; exact bne_self_eq_false _
      have s2 : (y.name.toList == x.name.toList) = true := by rw [hnm]; exact beq_self_eq_true _
      have hnq := fun W => lst_neq y.l x.l W
      by_cases hll : y.l = x.l
      · rw [lstE_iff.2 hll] at hnq
        have HPP := Lib.hid (HPX.out.2 (by obtain ⟨n1, l1⟩ := y; obtain ⟨n2, l2⟩ := x; simp only at hnm hll; rw [hnm, hll]))
        clear hnm hll HPX
        by_cases hlv : ((kn : Int) + 1 == leave) = true
        · have hlv2 : (kn : Int) + 1 = leave := by simpa using hlv
          clear hlv
          subst hlv2
          gi_wp2
          refine wpIn_region_quiet_r (by kernel_rfl) (by kernel_rfl) (by kernel_rfl) ?_
          repeat (gi_big_quiet_step (fail))
          refine wpQuietIn_nil ?_
          rintro _ ⟨nq, rfl⟩
          gi_wp2
          obtain ⟨k1, k2⟩ := box_set (nq := nq) (v := .int .i64 ((kn : Int) + 1)) hck hfk
          exact ⟨((keeps_drewN W nq).trans (KeepsOthers.setCell _ _ _)).from _, .inr ⟨rfl, by rw [List.length_append, ← HKN.out]; simp, ⟨k1, k2⟩, box_below HBB.out (Nat.le_refl _)⟩⟩
        · have hlv2 : ((kn : Int) + 1 == leave) = false := by simpa using hlv
          clear hlv
          gi_wp2
          refine wpIn_region_quiet_r (by kernel_rfl) (by kernel_rfl) (by kernel_rfl) ?_
          repeat (gi_big_quiet_step (fail))
          refine wpQuietIn_nil ?_
          rintro _ ⟨nq, rfl⟩
          gi_wp2
          obtain ⟨k1, k2⟩ := box_set (nq := nq) (v := .int .i64 ((kn : Int) + 1)) hck hfk
          exact ⟨((keeps_drewN W nq).trans (KeepsOthers.setCell _ _ _)).from _, HBK.out.2 _ _, ⟨⟨by rw [k1, List.length_append, ← HKN.out]; simp, k2⟩, HPP.out, box_below HBB.out (Nat.le_refl _), by have := HSZ.out; simpa [World.drewN] using this⟩⟩
      · have hfl : lstE y.l x.l = false := by
          cases h : lstE y.l x.l with
          | false => rfl
          | true => exact absurd (lstE_iff.1 h) hll
        rw [hfl] at hnq
        have HX := Lib.hid (fun hp => hll (by rw [HPX.out.1 hp]))
        clear hll hnm hfl HPX
        gi_wp2
        refine wpIn_region_quiet_r (by kernel_rfl) (by kernel_rfl) (by kernel_rfl) ?_
        repeat (gi_big_quiet_step (fail))
        refine wpQuietIn_nil ?_
        rintro _ ⟨nq, rfl⟩
        gi_wp2
        exact ⟨((keeps_drewN W nq).trans (KeepsOthers.setCell _ _ _)).from _, .inl ⟨rfl, HX.out⟩⟩
    · have s1 : (y.name.toList != x.name.toList) = true := by rw [bne_iff_ne]; exact fun h => hnm (toList_inj h)
      have s2 : (y.name.toList == x.name.toList) = false := by rw [beq_eq_false_iff_ne]; exact fun h => hnm (toList_inj h)
      have HX := Lib.hid (fun hp => hnm (by rw [HPX.out.1 hp]))
      clear hnm HPX
      gi_wp2
      refine wpIn_region_quiet_r (by kernel_rfl) (by kernel_rfl) (by kernel_rfl) ?_
      repeat (gi_big_quiet_step (fail))
      refine wpQuietIn_nil ?_
      rintro _ ⟨nq, rfl⟩
      gi_wp2
      exact ⟨((keeps_drewN W nq).trans (KeepsOthers.setCell _ _ _)).from _, .inl ⟨rfl, HX.out⟩⟩
  case done =>
    rintro D ys W hD hys ⟨⟨hck, hfk⟩, -, hB, hsz⟩ hK
    have hys : ys = L := hys
    rw [hys] at hck
    clear hys
    have HTB := Lib.hid (show Turns [] w3 W from Turns.of_below hB (Nat.le_refl _))
    have HTW := Lib.hid (HT7.out.then HTB.out)
    have HK := Lib.hid hK
    have a4 := HB4.out W HTW.out
    have a5 := HB5.out W HTW.out
    have d0 := HD0.out W HTW.out
    have n1 : ((L.length : Int) != (L.length : Int)) = false := bne_self_eq_false _
    clear hB hK
    gi_wp2
    go_wp2_with fail
    go_quiet (fail)
    obtain ⟨u, hu⟩ : ∃ u, W.drewN nq = u := ⟨_, rfl⟩
    have htu : Turns [] W u := by rw [← hu]; exact (Turns.refl [] W).drewN nq
    have HKu := Lib.hid (show u.heap[D]? = some (.deferred (some [])) by rw [← hu]; exact HK.out)
    have HDB := Lib.hid (show w3.heap.size ≤ D from Nat.le_trans hT1.size hD)
    have HDW := Lib.hid (show w.heap.size + 3 ≤ D from by have h1 := HS0.out; have h2 := HT7.out.size; have h3 := hT1.size; omega)
    have HT67a := HT67
    have HT67 := Lib.hid (HT67.out.then (HTB.out.then htu))
    have HT7 := Lib.hid (HTW.out.then htu)
    rw [hu]
    clear hu htu a4 a5 d0 hck hfk HTW HTB HT61 HT71 HT67a hT1 bK
    go_wp2_with fail
    rw [rounds_succ]
    go_wp2_with fail
    obtain ⟨W1, hW1⟩ : ∃ W1, u.alloc (.cells #[.int .i64 0] 3) = W1 := ⟨_, rfl⟩
    have hT1 : Turns [] u W1 := by rw [← hW1]; exact Turns.alloc _ _
    have bK : Boxed W1 u.heap.size 3 (.int .i64 0) := by rw [← hW1]; exact Boxed.new u _ _
    rw [hW1]
    clear hW1
    have HT61 := Lib.hid (HT67.out.then hT1)
    have HT71 := Lib.hid HT7.out
    have HKuK := Lib.hid ((hT1.block _ (lt_of_block HKu.out) (by simp)).trans HKu.out)
    refine (wpIn_wide (n := 6)).1 ?_
    refine' wpIn_rangeFunc_box (F := Fence.wide) (n := 6) rfl (by omega) (gf := gf) (lb := caps) rfl trivial HEG.out (HSQ.out W1 HT61.out)
      KeepL.t (KeepL.put (fun b hb => Nat.lt_of_lt_of_le (HBS.out b hb) HT61.out.size)) (fun W o hs => KeepL.of (F := []) (Turns.alloc W o) (fun b hb => ⟨Nat.lt_of_lt_of_le (HBS.out b hb) (Nat.le_trans HT61.out.size hs), by simp⟩)) (Below.refl _ _) (fun _ => rfl)
      (fun pre W => (W.cell? ⟨u.heap.size, 0, none⟩ = some (.int .i64 (pre.length : Int)) ∧ W.frozen? ⟨u.heap.size, 0, none⟩ = false) ∧ pre <+: L ∧ Below u.heap.size u W ∧ W1.heap.size ≤ W.heap.size)
      (fun c pre W => (c = .ret ∧ ¬ pre <+: L) ∨ (c = .exit 4 ∧ (pre.length : Int) = leave ∧ (W.cell? ⟨u.heap.size, 0, none⟩ = some (.int .i64 leave) ∧ W.frozen? ⟨u.heap.size, 0, none⟩ = false) ∧ Below u.heap.size u W))
      (OwnFrom.and (Own.from (fun s A B row hs hg hr => ⟨cell_kept hs.1 hg hr, (frozen_kept hs.1 hg hr).trans hs.2⟩) _) (OwnFrom.and (fun s A B row hs _ _ => hs) (OwnFrom.and (ownFrom_below (Nat.le_refl _) hT1.size) (fun s A B row hs hg _ => Nat.le_trans hs hg.size))))
      (fun c s A B row hs hg hr => by
        rcases hs with h1 | ⟨h1, h0, h2, h3⟩
        · exact .inl h1
        · exact .inr ⟨h1, h0, ⟨cell_kept h2.1 hg (fun r e => (hr r e).2), (frozen_kept h2.1 hg (fun r e => (hr r e).2)).trans h2.2⟩, ownFrom_below (β := Unit) (Nat.le_refl _) hT1.size () A B row h3 hg hr⟩)
      ⟨⟨bK.cell, bK.frozen⟩, List.nil_prefix, hT1.below (by simp) (Nat.le_refl _), Nat.le_refl _⟩ (fun pre W h => h.2.2.2)
      _ (fun x => .cells #[.string x.l.s.name, .int .i64 x.l.s.val, .int .i64 x.l.s.tm, .bool x.l.s.cnt, .bool x.l.live, .int .i64 x.l.own] 54 (0, 0)) (fun _ => rfl) ?assign2 ?body2 ?done2 ?stop2
    case assign2 =>
      intro l x W K hK
      obtain ⟨b, hb⟩ : ∃ b, b = W.heap.size := ⟨_, rfl⟩
      unfold encOne Lst.val'
      gi_wp2
      rw [← hb]
      exact hK b _ hb rfl
    case body2 =>
      rintro l pre x b W hbw hbx ⟨⟨hck, hfk⟩, hpre, hB, hsz⟩ hlt
      have HSZ := Lib.hid hsz
      clear hsz
      have HTW := Lib.hid (HT71.out.then (Turns.of_below hB (Nat.le_refl _)))
      have a4 := HB4.out W HTW.out
      have a5 := HB5.out W HTW.out
      have d0 := HD0.out W HTW.out
      have c6 := (HB6.out W HTW.out).cell
      have f6 := (HB6.out W HTW.out).frozen
      have q0 : W.cell? ⟨b, 0, none⟩ = some (.string x.l.s.name) := by simp [World.cell?, hbx]
      have q1 : W.cell? ⟨b, 1, none⟩ = some (.int .i64 x.l.s.val) := by simp [World.cell?, hbx]
      have q2 : W.cell? ⟨b, 2, none⟩ = some (.int .i64 x.l.s.tm) := by simp [World.cell?, hbx]
      have q3 : W.cell? ⟨b, 3, none⟩ = some (.bool x.l.s.cnt) := by simp [World.cell?, hbx]
      have q4 : W.cell? ⟨b, 4, none⟩ = some (.bool x.l.live) := by simp [World.cell?, hbx]
      have q5 : W.cell? ⟨b, 5, none⟩ = some (.int .i64 x.l.own) := by simp [World.cell?, hbx]
      have hgd := lst_guard
      have hl9 : (L.length : Int) ≤ 900 := by have := HL.out; omega
      obtain ⟨y, hy⟩ : ∃ y, L[pre.length]? = some y := ⟨_, List.getElem?_eq_getElem hlt⟩
      have HPX : Hid ((pre ++ [x]) <+: L ↔ y = x) := Lib.hid (prefix_next hpre hy)
      obtain ⟨g, c', e, _, _, _, hc⟩ := (HR0.out W HTW.out).at_ hy
      obtain ⟨A2, c2, e2, -⟩ := (HR0.out W HTW.out).form
      rw [HV.out] at e
      injection e with e1 _ e3
      subst e1 e3
      obtain ⟨kn, hkn⟩ : ∃ kn : Nat, kn = pre.length := ⟨_, rfl⟩
      rw [← hkn] at hck hlt hc
      have HKN := Lib.hid hkn
      have k0 : W.cell? ⟨g, kn * 7, none⟩ = some (.string y.name) := hc 0 _ rfl
      have k1 : W.cell? ⟨g, kn * 7 + 1, none⟩ = some (.string y.l.s.name) := hc 1 _ rfl
      have k2 : W.cell? ⟨g, kn * 7 + 1 + 1, none⟩ = some (.int .i64 y.l.s.val) := hc 2 _ rfl
      have k3 : W.cell? ⟨g, kn * 7 + 1 + 2, none⟩ = some (.int .i64 y.l.s.tm) := hc 3 _ rfl
      have k4 : W.cell? ⟨g, kn * 7 + 1 + 3, none⟩ = some (.bool y.l.s.cnt) := hc 4 _ rfl
      have k5 : W.cell? ⟨g, kn * 7 + 1 + 4, none⟩ = some (.bool y.l.live) := hc 5 _ rfl
      have k6 : W.cell? ⟨g, kn * 7 + 1 + 5, none⟩ = some (.int .i64 y.l.own) := hc 6 _ rfl
      have hge : decide ((L.length : Int) ≤ (kn : Int)) = false := by rw [decide_eq_false_iff_not]; omega
      have hge2 : decide (L.length ≤ kn) = false := by rw [decide_eq_false_iff_not]; omega
      have hkl : (kn : Int) < (L.length : Int) := by omega
      have hk0 : (0 : Int) ≤ (kn : Int) := by omega
      have HBB := Lib.hid hB
      have HPL := Lib.hid hpre
      have HBK : Hid (KeepL bs W ((W.drewN 0).setCell ⟨u.heap.size, 0, none⟩ .nilFunc) ∧ ∀ nq v, KeepL bs W ((W.drewN nq).setCell ⟨u.heap.size, 0, none⟩ v)) := Lib.hid (by
        have h : ∀ nq v, KeepL bs W ((W.drewN nq).setCell ⟨u.heap.size, 0, none⟩ v) := fun nq v b hb => box_keep (by have := HBS.out b hb; have := HT67.out.size; omega) (by have := HBS.out b hb; have := HT67.out.size; have := hB.size; omega)
        exact ⟨h _ _, h⟩)
      have hn1 : ¬ w.heap.size + 1 + 1 = u.heap.size := by have := HS0.out; have := HT7.out.size; omega
      have hn2 : ¬ w.heap.size + 1 = u.heap.size := by have := HS0.out; have := HT7.out.size; omega
      clear hbx hc hpre hB hy e2 hlt hkn
      by_cases hnm : y.name = x.name
      · have s1 : (y.name.toList != x.name.toList) = false := by rw [hnm]; exact bne_self_eq_false _
        have s2 : (y.name.toList == x.name.toList) = true := by rw [hnm]; exact beq_self_eq_true _
        have hnq := fun W => lst_neq y.l x.l W
        by_cases hll : y.l = x.l
        · rw [lstE_iff.2 hll] at hnq
          have HPP := Lib.hid (HPX.out.2 (by obtain ⟨n1, l1⟩ := y; obtain ⟨n2, l2⟩ := x; simp only at hnm hll; rw [hnm, hll]))
          clear hnm hll HPX
          by_cases hlv : ((kn : Int) + 1 == leave) = true
          · have hlv2 : (kn : Int) + 1 = leave := by simpa using hlv
            clear hlv
            subst hlv2
            gi_wp2
            refine wpIn_region_quiet_r (by kernel_rfl) (by kernel_rfl) (by kernel_rfl) ?_
            repeat (gi_big_quiet_step (fail))
            refine wpQuietIn_nil ?_
            rintro _ ⟨nq, rfl⟩
            gi_wp2
            obtain ⟨k1, k2⟩ := box_set (nq := nq) (v := .int .i64 ((kn : Int) + 1)) hck hfk
            exact ⟨((keeps_drewN W nq).trans (KeepsOthers.setCell _ _ _)).from _, .inr ⟨rfl, by rw [List.length_append, ← HKN.out]; simp, ⟨k1, k2⟩, box_below HBB.out (Nat.le_refl _)⟩⟩
          · have hlv2 : ((kn : Int) + 1 == leave) = false := by simpa using hlv
            clear hlv
            gi_wp2
            refine wpIn_region_quiet_r (by kernel_rfl) (by kernel_rfl) (by kernel_rfl) ?_
            repeat (gi_big_quiet_step (fail))
            refine wpQuietIn_nil ?_
            rintro _ ⟨nq, rfl⟩
            gi_wp2
            obtain ⟨k1, k2⟩ := box_set (nq := nq) (v := .int .i64 ((kn : Int) + 1)) hck hfk
            exact ⟨((keeps_drewN W nq).trans (KeepsOthers.setCell _ _ _)).from _, HBK.out.2 _ _, ⟨⟨by rw [k1, List.length_append, ← HKN.out]; simp, k2⟩, HPP.out, box_below HBB.out (Nat.le_refl _), by have := HSZ.out; simpa [World.drewN] using this⟩⟩
        · have hfl : lstE y.l x.l = false := by
            cases h : lstE y.l x.l with
            | false => rfl
            | true => exact absurd (lstE_iff.1 h) hll
          rw [hfl] at hnq
          have HX := Lib.hid (fun hp => hll (by rw [HPX.out.1 hp]))
          clear hll hnm hfl HPX
          gi_wp2
          refine wpIn_region_quiet_r (by kernel_rfl) (by kernel_rfl) (by kernel_rfl) ?_
          repeat (gi_big_quiet_step (fail))
          refine wpQuietIn_nil ?_
          rintro _ ⟨nq, rfl⟩
          gi_wp2
          exact ⟨((keeps_drewN W nq).trans (KeepsOthers.setCell _ _ _)).from _, .inl ⟨rfl, HX.out⟩⟩
      · have s1 : (y.name.toList != x.name.toList) = true := by rw [bne_iff_ne]; exact fun h => hnm (toList_inj h)
        have s2 : (y.name.toList == x.name.toList) = false := by rw [beq_eq_false_iff_ne]; exact fun h => hnm (toList_inj h)
        have HX := Lib.hid (fun hp => hnm (by rw [HPX.out.1 hp]))
        clear hnm HPX
        gi_wp2
        refine wpIn_region_quiet_r (by kernel_rfl) (by kernel_rfl) (by kernel_rfl) ?_
        repeat (gi_big_quiet_step (fail))
        refine wpQuietIn_nil ?_
        rintro _ ⟨nq, rfl⟩
        gi_wp2
        exact ⟨((keeps_drewN W nq).trans (KeepsOthers.setCell _ _ _)).from _, .inl ⟨rfl, HX.out⟩⟩
    case done2 =>
      rintro D2 ys W hD hys ⟨⟨hck, hfk⟩, -, hB, hsz⟩ hK
      have hys : ys = L := hys
      rw [hys] at hck
      clear hys
      have HTB := Lib.hid (show Turns [] u W from Turns.of_below hB (Nat.le_refl _))
      have HTW := Lib.hid (HT7.out.then HTB.out)
      have HK2 := Lib.hid hK
      have HKuW := Lib.hid ((HTB.out.block _ (lt_of_block HKu.out) (by simp)).trans HKu.out)
      have a4 := HB4.out W HTW.out
      have a5 := HB5.out W HTW.out
      have d0 := HD0.out W HTW.out
      have n1 : ((L.length : Int) != (L.length : Int)) = false := bne_self_eq_false _
      clear hB hK
      gi_wp2
      go_wp2_with fail
      go_quiet (fail)
      obtain ⟨u2, hu⟩ : ∃ u, W.drewN nq = u := ⟨_, rfl⟩
      have htu : Turns [] W u2 := by rw [← hu]; exact (Turns.refl [] W).drewN nq
      have HKu2 := Lib.hid (show u2.heap[D2]? = some (.deferred (some [])) by rw [← hu]; exact HK2.out)
      have HKuu := Lib.hid ((htu.block _ (lt_of_block HKuW.out) (by simp)).trans HKuW.out)
      have HDB2 := Lib.hid (show u.heap.size ≤ D2 from Nat.le_trans hT1.size hD)
      have HDW2 := Lib.hid (show w.heap.size + 3 ≤ D2 from by have h1 := HS0.out; have h2 := HT7.out.size; have h3 := hT1.size; omega)
      have HT67a := HT67
      have HT67 := Lib.hid (HT67.out.then (HTB.out.then htu))
      have HT7 := Lib.hid (HTW.out.then htu)
      rw [hu]
      clear hu htu a4 a5 d0 hck hfk HTW HTB HT61 HT71 HT67a hT1 bK HKuW
      go_wp2_with fail
      have c6 := (HB6.out u2 HT7.out).cell
      have f6 := (HB6.out u2 HT7.out).frozen
      rw [rounds_succ]
      go_wp2_with fail
      have hbw : Below w.heap.size w u2 := (HT0.out.then HT7.out).below (by simp) (Nat.le_refl _)
      have hDw : w.heap.size ≤ D := by have := HDW.out; omega
      have hdd : D < D2 := by have := HDB2.out; have := lt_of_block HKu.out; omega
      have hk1 := HKuu.out
      have hk2 := HKu2.out
      obtain ⟨wz, hwz⟩ : ∃ wz, u2.setCell ⟨w.heap.size + 1 + 1, 0, none⟩ (.bool true) = wz := ⟨_, rfl⟩
      have hcz : wz.cell? ⟨w.heap.size + 1 + 1, 0, none⟩ = some (.bool true) := by rw [← hwz]; exact World.cell?_setCell_same' u2 ⟨w.heap.size + 1 + 1, 0, none⟩ (.bool true) (by rw [c6]; rfl)
      have hbz : Below w.heap.size w wz := by rw [← hwz]; exact hbw.setCell (p := ⟨w.heap.size + 1 + 1, 0, none⟩) (by simp; omega) _
      have k1 : wz.heap[D]? = some (.deferred (some [])) := by rw [← hwz]; exact (KeepsOthers.setCell u2 ⟨w.heap.size + 1 + 1, 0, none⟩ (.bool true)).same D _ hk1 rfl
      have k2 : wz.heap[D2]? = some (.deferred (some [])) := by rw [← hwz]; exact (KeepsOthers.setCell u2 ⟨w.heap.size + 1 + 1, 0, none⟩ (.bool true)).same D2 _ hk2 rfl
      rw [hwz]
      clear hwz
      have k3 : (wz.putObj D2 (.deferred none)).heap[D]? = some (.deferred (some [])) := (World.putObj_heap_other (by omega)).trans k1
      have hc2 := cell_kept hcz (grownBy_putObj' wz D2 (.deferred none)) (fun r e => by cases e; exact ⟨_, k2, rfl⟩)
      have hc3 := cell_kept hc2 (grownBy_putObj' _ D (.deferred none)) (fun r e => by cases e; exact ⟨_, k3, rfl⟩)
      refine ⟨by simp, .inl ⟨_, _, rfl, run_takeDeferred k2, ⟨by simp, .inl ⟨_, _, rfl, run_takeDeferred k3, ?_⟩⟩⟩⟩
      have hb1 := hbz.grown (grownBy_putObj' wz D2 (.deferred none)) hbz.size (fun k e => by cases e; omega)
      have hb2 := hb1.grown (grownBy_putObj' _ D (.deferred none)) hb1.size (fun k e => by cases e; omega)
      refine ⟨.bool true, ?_, rfl, hb2⟩
      simp [results, Try.f11, go_sem, hc3]
    case stop2 =>
      rintro D2 c pre W hD hSp hIx hK
      rcases hIx with ⟨rfl, hno⟩ | ⟨rfl, hlv, ⟨hck, hfk⟩, hB⟩
      · exact absurd hSp hno
      have HTB := Lib.hid (show Turns [] u W from Turns.of_below hB (Nat.le_refl _))
      have HTW := Lib.hid (HT7.out.then HTB.out)
      have HK2 := Lib.hid hK
      have HKuW := Lib.hid ((HTB.out.block _ (lt_of_block HKu.out) (by simp)).trans HKu.out)
      have a4 := HB4.out W HTW.out
      have a5 := HB5.out W HTW.out
      have d0 := HD0.out W HTW.out
      have n1 : (leave != leave) = false := bne_self_eq_false _
      have n3 : ∀ b : Bool, (b && false) = false := fun b => by cases b <;> rfl
      clear hB hK
      gi_wp2
      go_upto_region 27 with fail
      go_cut [142] from 131 to 142 (fun v wx => v = .bool false ∧ ∃ nq, wx = W.drewN nq)
      case first =>
        cases hb : ((leave : Int) != (L.length : Int)) with
        | true =>
          go_quiet (fail)
          go_wp2_with fail
          go_meet
          exact ⟨rfl, _, rfl⟩
        | false =>
          go_quiet (fail)
          go_wp2_with fail
          go_meet
          exact ⟨rfl, _, rfl⟩
      case rest =>
      obtain ⟨rfl, nq, rfl⟩ := hcut
      obtain ⟨u2, hu⟩ : ∃ u, W.drewN nq = u := ⟨_, rfl⟩
      have htu : Turns [] W u2 := by rw [← hu]; exact (Turns.refl [] W).drewN nq
      have HKu2 := Lib.hid (show u2.heap[D2]? = some (.deferred (some [])) by rw [← hu]; exact HK2.out)
      have HKuu := Lib.hid ((htu.block _ (lt_of_block HKuW.out) (by simp)).trans HKuW.out)
      have HDB2 := Lib.hid (show u.heap.size ≤ D2 from Nat.le_trans hT1.size hD)
      have HDW2 := Lib.hid (show w.heap.size + 3 ≤ D2 from by have h1 := HS0.out; have h2 := HT7.out.size; have h3 := hT1.size; omega)
      have HT67a := HT67
      have HT67 := Lib.hid (HT67.out.then (HTB.out.then htu))
      have HT7 := Lib.hid (HTW.out.then htu)
      rw [hu]
      clear hu htu a4 a5 d0 hck hfk HTW HTB HT61 HT71 HT67a hT1 bK HKuW
      go_wp2_with fail
      have c6 := (HB6.out u2 HT7.out).cell
      have f6 := (HB6.out u2 HT7.out).frozen
      rw [rounds_succ]
      go_wp2_with fail
      have hbw : Below w.heap.size w u2 := (HT0.out.then HT7.out).below (by simp) (Nat.le_refl _)
      have hDw : w.heap.size ≤ D := by have := HDW.out; omega
      have hdd : D < D2 := by have := HDB2.out; have := lt_of_block HKu.out; omega
      have hk1 := HKuu.out
      have hk2 := HKu2.out
      obtain ⟨wz, hwz⟩ : ∃ wz, u2.setCell ⟨w.heap.size + 1 + 1, 0, none⟩ (.bool true) = wz := ⟨_, rfl⟩
      have hcz : wz.cell? ⟨w.heap.size + 1 + 1, 0, none⟩ = some (.bool true) := by rw [← hwz]; exact World.cell?_setCell_same' u2 ⟨w.heap.size + 1 + 1, 0, none⟩ (.bool true) (by rw [c6]; rfl)
      have hbz : Below w.heap.size w wz := by rw [← hwz]; exact hbw.setCell (p := ⟨w.heap.size + 1 + 1, 0, none⟩) (by simp; omega) _
      have k1 : wz.heap[D]? = some (.deferred (some [])) := by rw [← hwz]; exact (KeepsOthers.setCell u2 ⟨w.heap.size + 1 + 1, 0, none⟩ (.bool true)).same D _ hk1 rfl
      have k2 : wz.heap[D2]? = some (.deferred (some [])) := by rw [← hwz]; exact (KeepsOthers.setCell u2 ⟨w.heap.size + 1 + 1, 0, none⟩ (.bool true)).same D2 _ hk2 rfl
      rw [hwz]
      clear hwz
      have k3 : (wz.putObj D2 (.deferred none)).heap[D]? = some (.deferred (some [])) := (World.putObj_heap_other (by omega)).trans k1
      have hc2 := cell_kept hcz (grownBy_putObj' wz D2 (.deferred none)) (fun r e => by cases e; exact ⟨_, k2, rfl⟩)
      have hc3 := cell_kept hc2 (grownBy_putObj' _ D (.deferred none)) (fun r e => by cases e; exact ⟨_, k3, rfl⟩)
      refine ⟨by simp, .inl ⟨_, _, rfl, run_takeDeferred k2, ⟨by simp, .inl ⟨_, _, rfl, run_takeDeferred k3, ?_⟩⟩⟩⟩
      have hb1 := hbz.grown (grownBy_putObj' wz D2 (.deferred none)) hbz.size (fun k e => by cases e; omega)
      have hb2 := hb1.grown (grownBy_putObj' _ D (.deferred none)) hb1.size (fun k e => by cases e; omega)
      refine ⟨.bool true, ?_, rfl, hb2⟩
      simp [results, Try.f11, go_sem, hc3]
  case stop =>
    rintro D c pre W hD hSp hIx hK
    rcases hIx with ⟨rfl, hno⟩ | ⟨rfl, hlv, ⟨hck, hfk⟩, hB⟩
    · exact absurd hSp hno
    have HTB := Lib.hid (show Turns [] w3 W from Turns.of_below hB (Nat.le_refl _))
    have HTW := Lib.hid (HT7.out.then HTB.out)
    have HK := Lib.hid hK
    have a4 := HB4.out W HTW.out
    have a5 := HB5.out W HTW.out
    have d0 := HD0.out W HTW.out
    have n1 : (leave != leave) = false := bne_self_eq_false _
    have n3 : ∀ b : Bool, (b && false) = false := fun b => by cases b <;> rfl
    clear hB hK
    gi_wp2
    go_upto_region 27 with fail
    go_cut [142] from 131 to 142 (fun v wx => v = .bool false ∧ ∃ nq, wx = W.drewN nq)
    case first =>
      cases hb : ((leave : Int) != (L.length : Int)) with
      | true =>
        go_quiet (fail)
        go_wp2_with fail
        go_meet
        exact ⟨rfl, _, rfl⟩
      | false =>
        go_quiet (fail)
        go_wp2_with fail
        go_meet
        exact ⟨rfl, _, rfl⟩
    case rest =>
    obtain ⟨rfl, nq, rfl⟩ := hcut
    obtain ⟨u, hu⟩ : ∃ u, W.drewN nq = u := ⟨_, rfl⟩
    have htu : Turns [] W u := by rw [← hu]; exact (Turns.refl [] W).drewN nq
    have HKu := Lib.hid (show u.heap[D]? = some (.deferred (some [])) by rw [← hu]; exact HK.out)
    have HDB := Lib.hid (show w3.heap.size ≤ D from Nat.le_trans hT1.size hD)
    have HDW := Lib.hid (show w.heap.size + 3 ≤ D from by have h1 := HS0.out; have h2 := HT7.out.size; have h3 := hT1.size; omega)
    have HT67a := HT67
    have HT67 := Lib.hid (HT67.out.then (HTB.out.then htu))
    have HT7 := Lib.hid (HTW.out.then htu)
    rw [hu]
    clear hu htu a4 a5 d0 hck hfk HTW HTB HT61 HT71 HT67a hT1 bK
    go_wp2_with fail
    rw [rounds_succ]
    go_wp2_with fail
    obtain ⟨W1, hW1⟩ : ∃ W1, u.alloc (.cells #[.int .i64 0] 3) = W1 := ⟨_, rfl⟩
    have hT1 : Turns [] u W1 := by rw [← hW1]; exact Turns.alloc _ _
    have bK : Boxed W1 u.heap.size 3 (.int .i64 0) := by rw [← hW1]; exact Boxed.new u _ _
    rw [hW1]
    clear hW1
    have HT61 := Lib.hid (HT67.out.then hT1)
    have HT71 := Lib.hid HT7.out
    have HKuK := Lib.hid ((hT1.block _ (lt_of_block HKu.out) (by simp)).trans HKu.out)
    refine (wpIn_wide (n := 6)).1 ?_
    refine' wpIn_rangeFunc_box (F := Fence.wide) (n := 6) rfl (by omega) (gf := gf) (lb := caps) rfl trivial HEG.out (HSQ.out W1 HT61.out)
      KeepL.t (KeepL.put (fun b hb => Nat.lt_of_lt_of_le (HBS.out b hb) HT61.out.size)) (fun W o hs => KeepL.of (F := []) (Turns.alloc W o) (fun b hb => ⟨Nat.lt_of_lt_of_le (HBS.out b hb) (Nat.le_trans HT61.out.size hs), by simp⟩)) (Below.refl _ _) (fun _ => rfl)
      (fun pre W => (W.cell? ⟨u.heap.size, 0, none⟩ = some (.int .i64 (pre.length : Int)) ∧ W.frozen? ⟨u.heap.size, 0, none⟩ = false) ∧ pre <+: L ∧ Below u.heap.size u W ∧ W1.heap.size ≤ W.heap.size)
      (fun c pre W => (c = .ret ∧ ¬ pre <+: L) ∨ (c = .exit 4 ∧ (pre.length : Int) = leave ∧ (W.cell? ⟨u.heap.size, 0, none⟩ = some (.int .i64 leave) ∧ W.frozen? ⟨u.heap.size, 0, none⟩ = false) ∧ Below u.heap.size u W))
      (OwnFrom.and (Own.from (fun s A B row hs hg hr => ⟨cell_kept hs.1 hg hr, (frozen_kept hs.1 hg hr).trans hs.2⟩) _) (OwnFrom.and (fun s A B row hs _ _ => hs) (OwnFrom.and (ownFrom_below (Nat.le_refl _) hT1.size) (fun s A B row hs hg _ => Nat.le_trans hs hg.size))))
      (fun c s A B row hs hg hr => by
        rcases hs with h1 | ⟨h1, h0, h2, h3⟩
        · exact .inl h1
        · exact .inr ⟨h1, h0, ⟨cell_kept h2.1 hg (fun r e => (hr r e).2), (frozen_kept h2.1 hg (fun r e => (hr r e).2)).trans h2.2⟩, ownFrom_below (β := Unit) (Nat.le_refl _) hT1.size () A B row h3 hg hr⟩)
      ⟨⟨bK.cell, bK.frozen⟩, List.nil_prefix, hT1.below (by simp) (Nat.le_refl _), Nat.le_refl _⟩ (fun pre W h => h.2.2.2)
      _ (fun x => .cells #[.string x.l.s.name, .int .i64 x.l.s.val, .int .i64 x.l.s.tm, .bool x.l.s.cnt, .bool x.l.live, .int .i64 x.l.own] 54 (0, 0)) (fun _ => rfl) ?assign2 ?body2 ?done2 ?stop2
    case assign2 =>
      intro l x W K hK
      obtain ⟨b, hb⟩ : ∃ b, b = W.heap.size := ⟨_, rfl⟩
      unfold encOne Lst.val'
      gi_wp2
      rw [← hb]
      exact hK b _ hb rfl
    case body2 =>
      rintro l pre x b W hbw hbx ⟨⟨hck, hfk⟩, hpre, hB, hsz⟩ hlt
      have HSZ := Lib.hid hsz
      clear hsz
      have HTW := Lib.hid (HT71.out.then (Turns.of_below hB (Nat.le_refl _)))
      have a4 := HB4.out W HTW.out
      have a5 := HB5.out W HTW.out
      have d0 := HD0.out W HTW.out
      have c6 := (HB6.out W HTW.out).cell
      have f6 := (HB6.out W HTW.out).frozen
      have q0 : W.cell? ⟨b, 0, none⟩ = some (.string x.l.s.name) := by simp [World.cell?, hbx]
      have q1 : W.cell? ⟨b, 1, none⟩ = some (.int .i64 x.l.s.val) := by simp [World.cell?, hbx]
      have q2 : W.cell? ⟨b, 2, none⟩ = some (.int .i64 x.l.s.tm) := by simp [World.cell?, hbx]
      have q3 : W.cell? ⟨b, 3, none⟩ = some (.bool x.l.s.cnt) := by simp [World.cell?, hbx]
      have q4 : W.cell? ⟨b, 4, none⟩ = some (.bool x.l.live) := by simp [World.cell?, hbx]
      have q5 : W.cell? ⟨b, 5, none⟩ = some (.int .i64 x.l.own) := by simp [World.cell?, hbx]
      have hgd := lst_guard
      have hl9 : (L.length : Int) ≤ 900 := by have := HL.out; omega
      obtain ⟨y, hy⟩ : ∃ y, L[pre.length]? = some y := ⟨_, List.getElem?_eq_getElem hlt⟩
      have HPX : Hid ((pre ++ [x]) <+: L ↔ y = x) := Lib.hid (prefix_next hpre hy)
      obtain ⟨g, c', e, _, _, _, hc⟩ := (HR0.out W HTW.out).at_ hy
      obtain ⟨A2, c2, e2, -⟩ := (HR0.out W HTW.out).form
      rw [HV.out] at e
      injection e with e1 _ e3
      subst e1 e3
      obtain ⟨kn, hkn⟩ : ∃ kn : Nat, kn = pre.length := ⟨_, rfl⟩
      rw [← hkn] at hck hlt hc
      have HKN := Lib.hid hkn
      have k0 : W.cell? ⟨g, kn * 7, none⟩ = some (.string y.name) := hc 0 _ rfl
      have k1 : W.cell? ⟨g, kn * 7 + 1, none⟩ = some (.string y.l.s.name) := hc 1 _ rfl
      have k2 : W.cell? ⟨g, kn * 7 + 1 + 1, none⟩ = some (.int .i64 y.l.s.val) := hc 2 _ rfl
      have k3 : W.cell? ⟨g, kn * 7 + 1 + 2, none⟩ = some (.int .i64 y.l.s.tm) := hc 3 _ rfl
      have k4 : W.cell? ⟨g, kn * 7 + 1 + 3, none⟩ = some (.bool y.l.s.cnt) := hc 4 _ rfl
      have k5 : W.cell? ⟨g, kn * 7 + 1 + 4, none⟩ = some (.bool y.l.live) := hc 5 _ rfl
      have k6 : W.cell? ⟨g, kn * 7 + 1 + 5, none⟩ = some (.int .i64 y.l.own) := hc 6 _ rfl
      have hge : decide ((L.length : Int) ≤ (kn : Int)) = false := by rw [decide_eq_false_iff_not]; omega
      have hge2 : decide (L.length ≤ kn) = false := by rw [decide_eq_false_iff_not]; omega
      have hkl : (kn : Int) < (L.length : Int) := by omega
      have hk0 : (0 : Int) ≤ (kn : Int) := by omega
      have HBB := Lib.hid hB
      have HPL := Lib.hid hpre
      have HBK : Hid (KeepL bs W ((W.drewN 0).setCell ⟨u.heap.size, 0, none⟩ .nilFunc) ∧ ∀ nq v, KeepL bs W ((W.drewN nq).setCell ⟨u.heap.size, 0, none⟩ v)) := Lib.hid (by
        have h : ∀ nq v, KeepL bs W ((W.drewN nq).setCell ⟨u.heap.size, 0, none⟩ v) := fun nq v b hb => box_keep (by have := HBS.out b hb; have := HT67.out.size; omega) (by have := HBS.out b hb; have := HT67.out.size; have := hB.size; omega)
        exact ⟨h _ _, h⟩)
      have hn1 : ¬ w.heap.size + 1 + 1 = u.heap.size := by have := HS0.out; have := HT7.out.size; omega
      have hn2 : ¬ w.heap.size + 1 = u.heap.size := by have := HS0.out; have := HT7.out.size; omega
      clear hbx hc hpre hB hy e2 hlt hkn
      by_cases hnm : y.name = x.name
      · have s1 : (y.name.toList != x.name.toList) = false := by rw [hnm]; exact bne_self_eq_false _
        have s2 : (y.name.toList == x.name.toList) = true := by rw [hnm]; exact beq_self_eq_true _
        have hnq := fun W => lst_neq y.l x.l W
        by_cases hll : y.l = x.l
        · rw [lstE_iff.2 hll] at hnq
          have HPP := Lib.hid (HPX.out.2 (by obtain ⟨n1, l1⟩ := y; obtain ⟨n2, l2⟩ := x; simp only at hnm hll; rw [hnm, hll]))
          clear hnm hll HPX
          by_cases hlv : ((kn : Int) + 1 == leave) = true
          · have hlv2 : (kn : Int) + 1 = leave := by simpa using hlv
            clear hlv
            subst hlv2
            gi_wp2
            refine wpIn_region_quiet_r (by kernel_rfl) (by kernel_rfl) (by kernel_rfl) ?_
            repeat (gi_big_quiet_step (fail))
            refine wpQuietIn_nil ?_
            rintro _ ⟨nq, rfl⟩
            gi_wp2
            obtain ⟨k1, k2⟩ := box_set (nq := nq) (v := .int .i64 ((kn : Int) + 1)) hck hfk
            exact ⟨((keeps_drewN W nq).trans (KeepsOthers.setCell _ _ _)).from _, .inr ⟨rfl, by rw [List.length_append, ← HKN.out]; simp, ⟨k1, k2⟩, box_below HBB.out (Nat.le_refl _)⟩⟩
          · have hlv2 : ((kn : Int) + 1 == leave) = false := by simpa using hlv
            clear hlv
            gi_wp2
            refine wpIn_region_quiet_r (by kernel_rfl) (by kernel_rfl) (by kernel_rfl) ?_
            repeat (gi_big_quiet_step (fail))
            refine wpQuietIn_nil ?_
            rintro _ ⟨nq, rfl⟩
            gi_wp2
            obtain ⟨k1, k2⟩ := box_set (nq := nq) (v := .int .i64 ((kn : Int) + 1)) hck hfk
            exact ⟨((keeps_drewN W nq).trans (KeepsOthers.setCell _ _ _)).from _, HBK.out.2 _ _, ⟨⟨by rw [k1, List.length_append, ← HKN.out]; simp, k2⟩, HPP.out, box_below HBB.out (Nat.le_refl _), by have := HSZ.out; simpa [World.drewN] using this⟩⟩
        · have hfl : lstE y.l x.l = false := by
            cases h : lstE y.l x.l with
            | false => rfl
            | true => exact absurd (lstE_iff.1 h) hll
          rw [hfl] at hnq
          have HX := Lib.hid (fun hp => hll (by rw [HPX.out.1 hp]))
          clear hll hnm hfl HPX
          gi_wp2
          refine wpIn_region_quiet_r (by kernel_rfl) (by kernel_rfl) (by kernel_rfl) ?_
          repeat (gi_big_quiet_step (fail))
          refine wpQuietIn_nil ?_
          rintro _ ⟨nq, rfl⟩
          gi_wp2
          exact ⟨((keeps_drewN W nq).trans (KeepsOthers.setCell _ _ _)).from _, .inl ⟨rfl, HX.out⟩⟩
      · have s1 : (y.name.toList != x.name.toList) = true := by rw [bne_iff_ne]; exact fun h => hnm (toList_inj h)
        have s2 : (y.name.toList == x.name.toList) = false := by rw [beq_eq_false_iff_ne]; exact fun h => hnm (toList_inj h)
        have HX := Lib.hid (fun hp => hnm (by rw [HPX.out.1 hp]))
        clear hnm HPX
        gi_wp2
        refine wpIn_region_quiet_r (by kernel_rfl) (by kernel_rfl) (by kernel_rfl) ?_
        repeat (gi_big_quiet_step (fail))
        refine wpQuietIn_nil ?_
        rintro _ ⟨nq, rfl⟩
        gi_wp2
        exact ⟨((keeps_drewN W nq).trans (KeepsOthers.setCell _ _ _)).from _, .inl ⟨rfl, HX.out⟩⟩
    case done2 =>
      rintro D2 ys W hD hys ⟨⟨hck, hfk⟩, -, hB, hsz⟩ hK
      have hys : ys = L := hys
      rw [hys] at hck
      clear hys
      have HTB := Lib.hid (show Turns [] u W from Turns.of_below hB (Nat.le_refl _))
      have HTW := Lib.hid (HT7.out.then HTB.out)
      have HK2 := Lib.hid hK
      have HKuW := Lib.hid ((HTB.out.block _ (lt_of_block HKu.out) (by simp)).trans HKu.out)
      have a4 := HB4.out W HTW.out
      have a5 := HB5.out W HTW.out
      have d0 := HD0.out W HTW.out
      have n1 : ((L.length : Int) != (L.length : Int)) = false := bne_self_eq_false _
      clear hB hK
      gi_wp2
      go_wp2_with fail
      go_quiet (fail)
      obtain ⟨u2, hu⟩ : ∃ u, W.drewN nq = u := ⟨_, rfl⟩
      have htu : Turns [] W u2 := by rw [← hu]; exact (Turns.refl [] W).drewN nq
      have HKu2 := Lib.hid (show u2.heap[D2]? = some (.deferred (some [])) by rw [← hu]; exact HK2.out)
      have HKuu := Lib.hid ((htu.block _ (lt_of_block HKuW.out) (by simp)).trans HKuW.out)
      have HDB2 := Lib.hid (show u.heap.size ≤ D2 from Nat.le_trans hT1.size hD)
      have HDW2 := Lib.hid (show w.heap.size + 3 ≤ D2 from by have h1 := HS0.out; have h2 := HT7.out.size; have h3 := hT1.size; omega)
      have HT67a := HT67
      have HT67 := Lib.hid (HT67.out.then (HTB.out.then htu))
      have HT7 := Lib.hid (HTW.out.then htu)
      rw [hu]
      clear hu htu a4 a5 d0 hck hfk HTW HTB HT61 HT71 HT67a hT1 bK HKuW
      go_wp2_with fail
      have c6 := (HB6.out u2 HT7.out).cell
      have f6 := (HB6.out u2 HT7.out).frozen
      rw [rounds_succ]
      go_wp2_with fail
      have hbw : Below w.heap.size w u2 := (HT0.out.then HT7.out).below (by simp) (Nat.le_refl _)
      have hDw : w.heap.size ≤ D := by have := HDW.out; omega
      have hdd : D < D2 := by have := HDB2.out; have := lt_of_block HKu.out; omega
      have hk1 := HKuu.out
      have hk2 := HKu2.out
      obtain ⟨wz, hwz⟩ : ∃ wz, u2.setCell ⟨w.heap.size + 1 + 1, 0, none⟩ (.bool true) = wz := ⟨_, rfl⟩
      have hcz : wz.cell? ⟨w.heap.size + 1 + 1, 0, none⟩ = some (.bool true) := by rw [← hwz]; exact World.cell?_setCell_same' u2 ⟨w.heap.size + 1 + 1, 0, none⟩ (.bool true) (by rw [c6]; rfl)
      have hbz : Below w.heap.size w wz := by rw [← hwz]; exact hbw.setCell (p := ⟨w.heap.size + 1 + 1, 0, none⟩) (by simp; omega) _
      have k1 : wz.heap[D]? = some (.deferred (some [])) := by rw [← hwz]; exact (KeepsOthers.setCell u2 ⟨w.heap.size + 1 + 1, 0, none⟩ (.bool true)).same D _ hk1 rfl
      have k2 : wz.heap[D2]? = some (.deferred (some [])) := by rw [← hwz]; exact (KeepsOthers.setCell u2 ⟨w.heap.size + 1 + 1, 0, none⟩ (.bool true)).same D2 _ hk2 rfl
      rw [hwz]
      clear hwz
      have k3 : (wz.putObj D2 (.deferred none)).heap[D]? = some (.deferred (some [])) := (World.putObj_heap_other (by omega)).trans k1
      have hc2 := cell_kept hcz (grownBy_putObj' wz D2 (.deferred none)) (fun r e => by cases e; exact ⟨_, k2, rfl⟩)
      have hc3 := cell_kept hc2 (grownBy_putObj' _ D (.deferred none)) (fun r e => by cases e; exact ⟨_, k3, rfl⟩)
      refine ⟨by simp, .inl ⟨_, _, rfl, run_takeDeferred k2, ⟨by simp, .inl ⟨_, _, rfl, run_takeDeferred k3, ?_⟩⟩⟩⟩
      have hb1 := hbz.grown (grownBy_putObj' wz D2 (.deferred none)) hbz.size (fun k e => by cases e; omega)
      have hb2 := hb1.grown (grownBy_putObj' _ D (.deferred none)) hb1.size (fun k e => by cases e; omega)
      refine ⟨.bool true, ?_, rfl, hb2⟩
      simp [results, Try.f11, go_sem, hc3]
    case stop2 =>
      rintro D2 c pre W hD hSp hIx hK
      rcases hIx with ⟨rfl, hno⟩ | ⟨rfl, hlv, ⟨hck, hfk⟩, hB⟩
      · exact absurd hSp hno
      have HTB := Lib.hid (show Turns [] u W from Turns.of_below hB (Nat.le_refl _))
      have HTW := Lib.hid (HT7.out.then HTB.out)
      have HK2 := Lib.hid hK
      have HKuW := Lib.hid ((HTB.out.block _ (lt_of_block HKu.out) (by simp)).trans HKu.out)
      have a4 := HB4.out W HTW.out
      have a5 := HB5.out W HTW.out
      have d0 := HD0.out W HTW.out
      have n1 : (leave != leave) = false := bne_self_eq_false _
      have n3 : ∀ b : Bool, (b && false) = false := fun b => by cases b <;> rfl
      clear hB hK
      gi_wp2
      go_upto_region 27 with fail
      go_cut [142] from 131 to 142 (fun v wx => v = .bool false ∧ ∃ nq, wx = W.drewN nq)
      case first =>
        cases hb : ((leave : Int) != (L.length : Int)) with
        | true =>
          go_quiet (fail)
          go_wp2_with fail
          go_meet
          exact ⟨rfl, _, rfl⟩
        | false =>
          go_quiet (fail)
          go_wp2_with fail
          go_meet
          exact ⟨rfl, _, rfl⟩
      case rest =>
      obtain ⟨rfl, nq, rfl⟩ := hcut
      obtain ⟨u2, hu⟩ : ∃ u, W.drewN nq = u := ⟨_, rfl⟩
      have htu : Turns [] W u2 := by rw [← hu]; exact (Turns.refl [] W).drewN nq
      have HKu2 := Lib.hid (show u2.heap[D2]? = some (.deferred (some [])) by rw [← hu]; exact HK2.out)
      have HKuu := Lib.hid ((htu.block _ (lt_of_block HKuW.out) (by simp)).trans HKuW.out)
      have HDB2 := Lib.hid (show u.heap.size ≤ D2 from Nat.le_trans hT1.size hD)
      have HDW2 := Lib.hid (show w.heap.size + 3 ≤ D2 from by have h1 := HS0.out; have h2 := HT7.out.size; have h3 := hT1.size; omega)
      have HT67a := HT67
      have HT67 := Lib.hid (HT67.out.then (HTB.out.then htu))
      have HT7 := Lib.hid (HTW.out.then htu)
      rw [hu]
      clear hu htu a4 a5 d0 hck hfk HTW HTB HT61 HT71 HT67a hT1 bK HKuW
      go_wp2_with fail
      have c6 := (HB6.out u2 HT7.out).cell
      have f6 := (HB6.out u2 HT7.out).frozen
      rw [rounds_succ]
      go_wp2_with fail
      have hbw : Below w.heap.size w u2 := (HT0.out.then HT7.out).below (by simp) (Nat.le_refl _)
      have hDw : w.heap.size ≤ D := by have := HDW.out; omega
      have hdd : D < D2 := by have := HDB2.out; have := lt_of_block HKu.out; omega
      have hk1 := HKuu.out
      have hk2 := HKu2.out
      obtain ⟨wz, hwz⟩ : ∃ wz, u2.setCell ⟨w.heap.size + 1 + 1, 0, none⟩ (.bool true) = wz := ⟨_, rfl⟩
      have hcz : wz.cell? ⟨w.heap.size + 1 + 1, 0, none⟩ = some (.bool true) := by rw [← hwz]; exact World.cell?_setCell_same' u2 ⟨w.heap.size + 1 + 1, 0, none⟩ (.bool true) (by rw [c6]; rfl)
      have hbz : Below w.heap.size w wz := by rw [← hwz]; exact hbw.setCell (p := ⟨w.heap.size + 1 + 1, 0, none⟩) (by simp; omega) _
      have k1 : wz.heap[D]? = some (.deferred (some [])) := by rw [← hwz]; exact (KeepsOthers.setCell u2 ⟨w.heap.size + 1 + 1, 0, none⟩ (.bool true)).same D _ hk1 rfl
      have k2 : wz.heap[D2]? = some (.deferred (some [])) := by rw [← hwz]; exact (KeepsOthers.setCell u2 ⟨w.heap.size + 1 + 1, 0, none⟩ (.bool true)).same D2 _ hk2 rfl
      rw [hwz]
      clear hwz
      have k3 : (wz.putObj D2 (.deferred none)).heap[D]? = some (.deferred (some [])) := (World.putObj_heap_other (by omega)).trans k1
      have hc2 := cell_kept hcz (grownBy_putObj' wz D2 (.deferred none)) (fun r e => by cases e; exact ⟨_, k2, rfl⟩)
      have hc3 := cell_kept hc2 (grownBy_putObj' _ D (.deferred none)) (fun r e => by cases e; exact ⟨_, k3, rfl⟩)
      refine ⟨by simp, .inl ⟨_, _, rfl, run_takeDeferred k2, ⟨by simp, .inl ⟨_, _, rfl, run_takeDeferred k3, ?_⟩⟩⟩⟩
      have hb1 := hbz.grown (grownBy_putObj' wz D2 (.deferred none)) hbz.size (fun k e => by cases e; omega)
      have hb2 := hb1.grown (grownBy_putObj' _ D (.deferred none)) hb1.size (fun k e => by cases e; omega)
      refine ⟨.bool true, ?_, rfl, hb2⟩
      simp [results, Try.f11, go_sem, hc3]
end Go.Proofs.Ytadndefbdofodaa
