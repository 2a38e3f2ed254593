/- The program's Same. -/
import Derived.Test.YtcjmieofmogeiaaSrAllC
import Derived.Test.YtcjmieofmogeiaaRangeBox
import Derived.RangeFuncNested
import Derived.RangeFuncBound
import Derived.RangeFuncCalls
import Derived.RangeFuncLeaves
import Derived.Shelf.Abstract
import Derived.Shelf.RegionOpen
import Derived.WalkKit
import Derived.OwnWalkIn
import Derived.TacticsInMore
import Derived.LoopNIn
import Derived.LoopIn
namespace Go.Proofs.Ytcjmieofmogeiaa
open Go.RowKit Go.Maps Go.Shelf
attribute [local go_sem] Oper.semAt_some
theorem wide_fn (f : FuncId) : Fence.wide.fn f = True := rfl
attribute [local go_sem] wide_fn

theorem rise_sub : ∀ {L2 L1 : List One}, RiseL L1 → RiseL L2 → (∀ x ∈ L1, x ∈ L2) → L1.Sublist L2
  | [], L1, _, _, hs => by
    cases L1 with
    | nil => exact List.Sublist.refl _
    | cons x l => exact absurd (hs x (List.mem_cons_self ..)) (by simp)
  | y :: l2, [], _, _, _ => List.nil_sublist _
  | y :: l2, x :: l1, h1, h2, hs => by
    have p1 := List.pairwise_cons.1 (show ((x.name) :: l1.map One.name).Pairwise fun a b => ltB a b = true from h1)
    have p2 := List.pairwise_cons.1 (show ((y.name) :: l2.map One.name).Pairwise fun a b => ltB a b = true from h2)
    rcases List.mem_cons.1 (hs x (List.mem_cons_self ..)) with e | hx
    · subst e
      refine (rise_sub p1.2 p2.2 fun z hz => ?_).cons_cons _
      rcases List.mem_cons.1 (hs z (List.mem_cons_of_mem _ hz)) with e | hz2
      · have := p1.1 _ (List.mem_map_of_mem hz)
        rw [e, ltB_irrefl] at this
        cases this
      · exact hz2
    · have hyx := p2.1 _ (List.mem_map_of_mem hx)
      refine (rise_sub h1 p2.2 fun z hz => ?_).cons _
      rcases List.mem_cons.1 (hs z hz) with e | hz2
      · have hyz : ltB y.name z.name = true := by
          rcases List.mem_cons.1 hz with e2 | hz1
          · rw [e2]; exact hyx
          · exact ltB_trans hyx (p1.1 _ (List.mem_map_of_mem hz1))
        rw [e, ltB_irrefl] at hyz
        cases hyz
      · exact hz2
/-- Has the other one just this? -/
def goodB (P2 : PM) (x : One) : Prop := ∃ g, P2 x.name = some (g, x.l)
theorem good_iff {P2 : PM} {L1 L2 : List One} (h1 : RiseL L1) (h2 : Tel P2 L2) (hl : L1.length = L2.length) : (∀ x ∈ L1, goodB P2 x) ↔ L1 = L2 := by
  constructor
  · intro h
    refine (rise_sub h1 h2.rise fun x hx => ?_).eq_of_length hl
    obtain ⟨g, hg⟩ := h x hx
    obtain ⟨y, hy, e1, e2⟩ := h2.all _ _ hg
    have : y = x := by
      obtain ⟨a, c⟩ := y
      obtain ⟨a', c'⟩ := x
      simp only at e1 e2
      rw [e1, e2]
    exact this ▸ hy
  · rintro rfl x hx
    exact h2.mem x hx
set_option maxHeartbeats 400000 in
theorem lenQ_any {hd : Hd} {B : Nat} {w : World} {p b most n : Nat} {P : PM} (h : Sm B w p b most P n) :
    Calls Try.prog 15 #[ptr p] w fun e w' => e = .returned (.int .i64 n) ∧ w' = w := by
  have q1 := h.c1
  have hl := h.len
  clear h
  go_enter Try.func15, Try.ntmps15
  go_wp2
  go_ret
  exact ⟨rfl, rfl⟩
def SameQ (w : World) (v : Bool) (e : Ending) (w' : World) : Prop := e = .returned (.bool v) ∧ Turns [] w w'
theorem Turns.others {W W' : World} (h : Turns [] W W') : KeepsOthers W W' := ⟨h.size, fun i _ ho _ => (h.block i (lt_of_block ho) (by simp)).trans ho⟩
theorem belowK_s {w W : World} (l : Nat) (o o' : Obj) (hl : w.heap.size ≤ l) (h : W.heap[l]? = some o) (_ : o.isCells = false) (_ : o.isWalk = false) : Below w.heap.size W (W.putObj l o') :=
  (Below.refl _ W).grown (grownBy_putObj' W l o') (by have := lt_of_block h; omega) (fun k e => by cases e; exact hl)
set_option maxRecDepth 100000 in
set_option maxHeartbeats 8000000 in
theorem sameSt_any {Ha Hb : Hd} {B1 B2 : Nat} {w : World} {p b1 m1 q b2 m2 : Nat} {F1 F2 : List Nat} {P1 P2 : PM} {L1 L2 : List One} (h1 : @Sr Ha B1 w p b1 F1 m1 P1 L1) (h2 : @Sr Hb B2 w q b2 F2 m2 P2 L2) (hl1 : L1.length ≤ 90000) (hl2 : L2.length ≤ 90000) :
    Calls Try.prog 34 #[ptr p, ptr q] w (SameQ w (decide (m1 = m2 ∧ L1 = L2))) := by
  obtain ⟨v, hv⟩ : ∃ v, v = decide (m1 = m2 ∧ L1 = L2) := ⟨_, rfl⟩
  rw [← hv]
  have HV := Lib.hid hv
  clear hv
  refine (callsIn_wide (n := 6)).1 ?_
  refine callsIn_of_wp_marks Try.func34 rfl trivial ?_ rfl
  simp only [Try.ntmps34, List.size_toArray, List.length_cons, List.length_nil, Nat.reduceAdd, Nat.reduceSub, Array.replicate_succ, Array.replicate_zero, List.push_toArray, List.append_toArray, List.nil_append, List.cons_append]
  refine wpIn_wide.2 ?_
  have H1 := Lib.hid h1
  have H2 := Lib.hid h2
  have HL1 := Lib.hid hl1
  have HL2 := Lib.hid hl2
  clear h1 h2 hl1 hl2
  go_upto_region 1 with fail
  obtain ⟨W0, hW0⟩ : ∃ W0, (w.alloc (.cells #[ptr q] 36)).alloc (.cells #[.bool false] 4) = W0 := ⟨_, rfl⟩
  have hs0 : W0.heap.size = w.heap.size + 2 := by rw [← hW0]; simp
  have hT0 : Turns [] w W0 := by rw [← hW0]; exact (Turns.alloc (F := []) w _).then (Turns.alloc (F := []) _ _)
  have b3 : Boxed W0 w.heap.size 36 (ptr q) := by rw [← hW0]; exact (Boxed.new w _ _).alloc _
  have b4 : Boxed W0 (w.heap.size + 1) 4 (.bool false) := by
    rw [← hW0]
    have := Boxed.new (w.alloc (.cells #[ptr q] 36)) 4 (.bool false)
    rw [World.size_alloc] at this
    exact this
  have HT0 := Lib.hid hT0
  have HS0 := Lib.hid hs0
  have HB3 : Hid (∀ W, Turns [] W0 W → W.cell? ⟨w.heap.size, 0, none⟩ = some (ptr q)) := Lib.hid (fun W hW => (World.cell?_of_block (hW.block w.heap.size (by omega) (by simp))).trans b3.cell)
  have HB4 : Hid (∀ W, Turns [] W0 W → Boxed W (w.heap.size + 1) 4 (.bool false)) := Lib.hid (fun W hW => (hW.block _ (by omega) (by simp)).trans b4)
  have HA1 : Hid (∀ W, Turns [] W0 W → @Sr Ha B1 W p b1 F1 m1 P1 L1) := Lib.hid fun W hW => H1.out.pre (hT0.then hW)
  have HA2 : Hid (∀ W, Turns [] W0 W → @Sr Hb B2 W q b2 F2 m2 P2 L2) := Lib.hid fun W hW => H2.out.pre (hT0.then hW)
  rw [hW0]
  clear hW0 hs0 hT0 b3 b4
  have a3 := HB3.out W0 (Turns.refl _ _)
  have HRF : Hid (∀ W, Turns [] W0 W → W.cell? ⟨w.heap.size + 1, 0, none⟩ = some (.bool false) ∧ W.frozen? ⟨w.heap.size + 1, 0, none⟩ = false) := Lib.hid fun W hW => ⟨(HB4.out W hW).cell, (HB4.out W hW).frozen⟩
  go_upto_region 3 with fail
  have c1 := (HA1.out W0 (Turns.refl _ _)).sm.c0
  have c2 := (HA2.out W0 (Turns.refl _ _)).sm.c0
  have HLN : Hid (∀ (r : Nat) (W : World) (z : Nat), ((r = p ∧ z = L1.length) ∨ (r = q ∧ z = L2.length)) → (∃ k, W = W0.drewN k) → Calls Try.prog 15 #[ptr r] W fun e w' => e = .returned (.int .i64 (z : Int)) ∧ w' = W) := Lib.hid (by
    rintro r W z (⟨rfl, rfl⟩ | ⟨rfl, rfl⟩) ⟨k, rfl⟩
    · exact lenQ_any (HA1.out _ ((Turns.refl [] W0).drewN k)).sm
    · exact lenQ_any (HA2.out _ ((Turns.refl [] W0).drewN k)).sm)
  have HFALSE : Hid (∀ W, Turns [] W0 W → v = false → ∀ tmps : Array Value, tmps.getD 4 undef = .pointer (some ⟨w.heap.size + 1, 0, none⟩) → ∃ u, (results Try.f34 tmps).run Try.prog (W.setCell ⟨w.heap.size + 1, 0, none⟩ (.bool false)) = .ok u (W.setCell ⟨w.heap.size + 1, 0, none⟩ (.bool false)) ∧ SameQ w v (.returned u) (W.setCell ⟨w.heap.size + 1, 0, none⟩ (.bool false))) := Lib.hid fun W hW hvf tmps ht => by
    have hc5 := World.cell?_setCell_same' W ⟨w.heap.size + 1, 0, none⟩ (.bool false) (by rw [(HRF.out W hW).1]; rfl)
    have ht' : tmps[4]?.getD undef = .pointer (some ⟨w.heap.size + 1, 0, none⟩) := by simpa using ht
    refine ⟨.bool false, ?_, ⟨by rw [hvf], (HT0.out.then hW).trans (Turns.setCell (F := [w.heap.size + 1]) _ _ _ (by simp)) fun i hi => .inr (by simp at hi; omega)⟩⟩
    simp [results, Try.f34, go_sem, hc5, ht', asAddr]
  by_cases hm : m1 = m2
  · have hb : ((m1 : Int) != (m2 : Int)) = false := by rw [hm]; exact bne_self_eq_false _
    by_cases hle : L1.length = L2.length
    · have hb2 : ((L1.length : Int) != (L2.length : Int)) = false := by rw [hle]; exact bne_self_eq_false _
      have HGI : Hid ((∀ x ∈ L1, goodB P2 x) ↔ v = true) := Lib.hid (by rw [HV.out, decide_eq_true_iff, good_iff H1.out.tel.rise H2.out.tel hle]; exact ⟨fun h => ⟨hm, h⟩, fun h => h.2⟩)
      clear hm hle
      go_quiet ((first | (go_at_call_of 15 (ptr p); exact Calls.quiet_of_same (HLN.out _ _ _ (.inl ⟨rfl, rfl⟩) ⟨_, rfl⟩)) | (go_at_call 15; exact Calls.quiet_of_same (HLN.out _ _ _ (.inr ⟨rfl, rfl⟩) ⟨_, rfl⟩))))
      have hTq : Turns [] W0 (W0.drewN nq) := (Turns.refl [] W0).drewN nq
      obtain ⟨W1, hW1⟩ : ∃ W1, W0.drewN nq = W1 := ⟨_, rfl⟩
      rw [hW1] at hTq ⊢
      have HTQ := Lib.hid hTq
      clear hW1 c1 c2 a3 hb hb2 hTq HLN
      have HAL := Lib.hid (allSt_any (HA1.out W1 HTQ.out) HL1.out)
      go_wp2_with fail
      refine HAL.out.mono ?_
      rintro e w3 ⟨gf, caps, bs, rfl, heg, hbs, ht3, hsq⟩
      have HEG := Lib.hid heg
      have HBS := Lib.hid hbs
      have HSQ := Lib.hid hsq
      have HT3 := Lib.hid (HTQ.out.then ht3)
      have HTW3 := Lib.hid (HT0.out.then HT3.out)
      clear HAL heg hbs ht3 hsq HTQ
      go_wp2_with fail
      refine (wpIn_wide (n := 6)).1 ?_
      refine' wpIn_rangeFunc_box (F := Fence.wide) (n := 6) rfl (by omega) (gf := gf) (lb := caps) rfl trivial HEG.out (HSQ.out {x : One // x ∈ L1} (fun x => x.1) L1.attach (List.attach_map_subtype_val L1) w3 (Turns.refl _ _))
        KeepL.t (KeepL.put HBS.out) (fun W o hs => KeepL.of (F := []) (Turns.alloc W o) (fun b hb => ⟨Nat.lt_of_lt_of_le (HBS.out b hb) hs, by simp⟩)) (Below.refl _ _) (fun _ => rfl)
        (fun pre W => (∀ x ∈ pre, goodB P2 x.1) ∧ Below w3.heap.size w3 W)
        (fun c pre W => c = .ret ∧ (∃ x ∈ pre, ¬ goodB P2 x.1) ∧ (W.cell? ⟨w.heap.size + 1, 0, none⟩ = some (.bool false) ∧ W.frozen? ⟨w.heap.size + 1, 0, none⟩ = false) ∧ Below w.heap.size w W)
        (OwnFrom.and (fun s A B row hs _ _ => hs) (ownFrom_below (Nat.le_refl _) (Nat.le_refl _)))
        (fun c => OwnFrom.and (fun s A B row hs _ _ => hs) (OwnFrom.and (fun s A B row hs _ _ => hs) (OwnFrom.and (fun s A B row hs hg hr => ⟨cell_kept hs.1 hg (fun r e => (hr r e).2), (frozen_kept hs.1 hg (fun r e => (hr r e).2)).trans hs.2⟩) (ownFrom_below (Nat.le_refl _) HTW3.out.size))))
        ⟨by simp, Below.refl _ _⟩ (fun pre W h => h.2.size)
        _ (fun x => .cells #[.string x.1.l.s.name, .int .i64 x.1.l.s.val, .int .i64 x.1.l.s.tm, .bool x.1.l.s.cnt, .bool x.1.l.live, .int .i64 x.1.l.own] 88 (0, 0)) (fun _ => rfl) ?assign ?body ?done ?stop
      case assign =>
        intro l x W K hK
        obtain ⟨b, hb⟩ : ∃ b, b = W.heap.size := ⟨_, rfl⟩
        unfold encOne Lst.val'
        gi_wp2
        rw [← hb]
        exact hK b _ hb rfl
      case body =>
        rintro l pre x b W hbw hbx ⟨hpre, hB⟩ hlt
        have HTW := Lib.hid (HT3.out.then (Turns.of_below hB (Nat.le_refl _)))
        have HBB := Lib.hid hB
        have HPRE := Lib.hid hpre
        have HNX := Lib.hid (H1.out.names x.1 x.2).2
        have HG : Hid (∀ W', Turns [] W W' → Calls Try.prog 37 #[ptr q, .string x.1.name] W' fun e w' => e = .returned (.tuple #[(getM (P2 x.1.name)).1.val', .bool (getM (P2 x.1.name)).2]) ∧ Turns [] W' w') := Lib.hid fun W' hW' => getM_any (HA2.out W' (HTW.out.then hW')).sm HNX.out
        have HE1 : Hid (∀ w4, Turns [] W w4 → goodB P2 x.1 → (KeepsOthers W w4) ∧ KeepL bs W w4 ∧ (∀ z ∈ pre ++ [x], goodB P2 z.1) ∧ Below w3.heap.size w3 w4) := Lib.hid fun w4 ht hg => ⟨Turns.others ht, KeepL.of ht (fun i hi => ⟨Nat.lt_of_lt_of_le (HBS.out i hi) HBB.out.size, by simp⟩), fun z hz => by
          rcases List.mem_append.1 hz with h | h
          · exact HPRE.out z h
          · rw [List.mem_singleton] at h
            rw [h]
            exact hg, HBB.out.trans (ht.below (by simp) HBB.out.size)⟩
        have HE2 : Hid (∀ w4, Turns [] W w4 → ¬ goodB P2 x.1 → (KeepsOthers W (w4.setCell ⟨w.heap.size + 1, 0, none⟩ (.bool false))) ∧ (∃ z ∈ pre ++ [x], ¬ goodB P2 z.1) ∧ ((w4.setCell ⟨w.heap.size + 1, 0, none⟩ (.bool false)).cell? ⟨w.heap.size + 1, 0, none⟩ = some (.bool false) ∧ (w4.setCell ⟨w.heap.size + 1, 0, none⟩ (.bool false)).frozen? ⟨w.heap.size + 1, 0, none⟩ = false) ∧ Below w.heap.size w (w4.setCell ⟨w.heap.size + 1, 0, none⟩ (.bool false))) := Lib.hid fun w4 ht hg => by
          obtain ⟨r1, r2⟩ := HRF.out w4 (HTW.out.then ht)
          exact ⟨(Turns.others ht).trans (KeepsOthers.setCell _ _ _), ⟨x, by simp, hg⟩, ⟨World.cell?_setCell_same' _ _ _ (by rw [r1]; rfl), by rw [World.frozen?_setCell]; exact r2⟩, (((HT0.out.then (HTW.out.then ht)).below (by simp) (Nat.le_refl _))).setCell (p := ⟨w.heap.size + 1, 0, none⟩) (by simp) _⟩
        have HCB : Hid (∀ W', Turns [] W W' → W'.heap[b]? = some (.cells #[.string x.1.l.s.name, .int .i64 x.1.l.s.val, .int .i64 x.1.l.s.tm, .bool x.1.l.s.cnt, .bool x.1.l.live, .int .i64 x.1.l.own] 88 (0, 0))) := Lib.hid fun W' hW' => (hW'.block b (lt_of_block hbx) (by simp)).trans hbx
        have HRW : Hid (∀ W', Turns [] W W' → W'.cell? ⟨w.heap.size + 1, 0, none⟩ = some (.bool false) ∧ W'.frozen? ⟨w.heap.size + 1, 0, none⟩ = false) := Lib.hid fun W' hW' => HRF.out W' (HTW.out.then hW')
        have a3 := HB3.out W HTW.out
        have hgd := lst_guard
        clear hB hpre hbx hlt
        show Code.wpIn _ _ _ _ _ _ _
        cases hp : P2 x.1.name with
        | none =>
          have hng : ¬ goodB P2 x.1 := fun ⟨g, hg⟩ => by rw [hp] at hg; cases hg
          have HNG := Lib.hid hng
          rw [hp] at HG
          unfold getM Lst.val' at HG
          simp only at HG
          clear hp hng
          gi_wp2_with (gi_at_call 37; with_reducible refine (CallsIn.inRound l (callsIn_wide.2 (HG.out _ (Turns.refl [] W)))).mono ?_; rintro e w2 ⟨rfl, ht2⟩; have HT2 := Lib.hid ht2; have HT4 := Lib.hid (fun C => ht2.then (Turns.alloc w2 C)); have hrw := fun C => HRW.out _ (HT4.out C); have hr1 := fun C => (hrw C).1; have hr2 := fun C => (hrw C).2; clear ht2 hrw)
          obtain ⟨k1, k2, k3, k4⟩ := HE2.out _ (HT4.out _) HNG.out
          exact ⟨k1.from _, rfl, k2, k3, k4⟩
        | some u =>
          obtain ⟨g, l'⟩ := u
          rw [hp] at HG
          unfold getM Lst.val' at HG
          simp only at HG
          have hnq := fun W => lst_neq x.1.l l' W
          by_cases hll : x.1.l = l'
          · have HNG : Hid (goodB P2 x.1) := Lib.hid ⟨g, by rw [hp, hll]⟩
            rw [lstE_iff.2 hll] at hnq
            clear hp hll
            gi_wp2_with (gi_at_call 37; with_reducible refine (CallsIn.inRound l (callsIn_wide.2 (HG.out _ (Turns.refl [] W)))).mono ?_; rintro e w2 ⟨rfl, ht2⟩; have HT2 := Lib.hid ht2; have HT4 := Lib.hid (fun C => ht2.then (Turns.alloc w2 C)); have hcb := fun C => last_cells (HCB.out _ (HT4.out C)); have q0 := fun C => (hcb C).1; have q1 := fun C => (hcb C).2.1; have q2 := fun C => (hcb C).2.2.1; have q3 := fun C => (hcb C).2.2.2.1; have q4 := fun C => (hcb C).2.2.2.2.1; have q5 := fun C => (hcb C).2.2.2.2.2.1; clear ht2 hcb)
            obtain ⟨k1, k2, k3, k4⟩ := HE1.out _ (HT4.out _) HNG.out
            exact ⟨k1.from _, k2, k3, k4⟩
          · have HNG : Hid (¬ goodB P2 x.1) := Lib.hid fun ⟨g', hg'⟩ => by rw [hp] at hg'; cases hg'; exact hll rfl
            have hfl : lstE x.1.l l' = false := by
              cases h : lstE x.1.l l' with
              | false => rfl
              | true => exact absurd (lstE_iff.1 h) hll
            rw [hfl] at hnq
            clear hp hll hfl
            gi_wp2_with (gi_at_call 37; with_reducible refine (CallsIn.inRound l (callsIn_wide.2 (HG.out _ (Turns.refl [] W)))).mono ?_; rintro e w2 ⟨rfl, ht2⟩; have HT2 := Lib.hid ht2; have HT4 := Lib.hid (fun C => ht2.then (Turns.alloc w2 C)); have hcb := fun C => last_cells (HCB.out _ (HT4.out C)); have q0 := fun C => (hcb C).1; have q1 := fun C => (hcb C).2.1; have q2 := fun C => (hcb C).2.2.1; have q3 := fun C => (hcb C).2.2.2.1; have q4 := fun C => (hcb C).2.2.2.2.1; have q5 := fun C => (hcb C).2.2.2.2.2.1; have hrw := fun C => HRW.out _ (HT4.out C); have hr1 := fun C => (hrw C).1; have hr2 := fun C => (hrw C).2; clear ht2 hcb hrw)
            obtain ⟨k1, k2, k3, k4⟩ := HE2.out _ (HT4.out _) HNG.out
            exact ⟨k1.from _, rfl, k2, k3, k4⟩
      case done =>
        rintro D ys W hD hys ⟨hgood, hB⟩ hK
        have hys : ys = L1.attach := hys
        have hcr := HRF.out W (HT3.out.then (Turns.of_below hB (Nat.le_refl _)))
        obtain ⟨hcr1, hfr1⟩ := hcr
        have hvt : v = true := HGI.out.1 fun z hz => hgood ⟨z, hz⟩ (by rw [hys]; exact List.mem_attach _ _)
        gi_wp2
        go_wp2
        have hK' := (KeepsOthers.setCell W ⟨w.heap.size + 1, 0, none⟩ (.bool true)).same D _ hK rfl
        refine ⟨by simp, .inl ⟨_, _, rfl, run_takeDeferred hK', ?_⟩⟩
        have hc5 := cell_kept (World.cell?_setCell_same' W ⟨w.heap.size + 1, 0, none⟩ (.bool true) (by rw [hcr1]; rfl)) (grownBy_putObj' _ D (.deferred none)) (fun r e => by cases e; exact ⟨_, hK', rfl⟩)
        have hbw : Below w.heap.size w ((W.setCell ⟨w.heap.size + 1, 0, none⟩ (.bool true)).putObj D (.deferred none)) := (((HTW3.out.below (by simp) (Nat.le_refl _)).trans (hB.mono HTW3.out.size)).setCell (p := ⟨w.heap.size + 1, 0, none⟩) (by simp) _).trans (belowK_s (w := w) D _ _ (by have := HTW3.out.size; omega) hK' rfl rfl)
        refine ⟨.bool true, ?_, ⟨by rw [hvt], Turns.of_below hbw (Nat.le_refl _)⟩⟩
        simp [results, Try.f34, go_sem, hc5]
      case stop =>
        rintro D c pre W hD hSp ⟨rfl, ⟨x, hx, hnt⟩, ⟨hcr, hfr⟩, hB⟩ hK
        have hvf : v = false := by
          cases hv : v with
          | false => rfl
          | true => exact absurd (HGI.out.2 hv x.1 x.2) hnt
        gi_wp2
        refine ⟨by simp, .inl ⟨_, _, rfl, run_takeDeferred hK, ?_⟩⟩
        have hc5 := cell_kept hcr (grownBy_putObj' W D (.deferred none)) (fun r e => by cases e; exact ⟨_, hK, rfl⟩)
        have hbw : Below w.heap.size w (W.putObj D (.deferred none)) := hB.trans (belowK_s (w := w) D _ _ (by have := HTW3.out.size; omega) hK rfl rfl)
        refine ⟨.bool false, ?_, ⟨by rw [hvf], Turns.of_below hbw (Nat.le_refl _)⟩⟩
        simp [results, Try.f34, go_sem, hc5]
    · have hb2 : ((L1.length : Int) != (L2.length : Int)) = true := by rw [bne_iff_ne]; omega
      have HVF : Hid (v = false) := Lib.hid (by rw [HV.out, decide_eq_false_iff_not]; rintro ⟨_, h⟩; exact hle (by rw [h]))
      clear hm hle
      go_quiet ((first | (go_at_call_of 15 (ptr p); exact Calls.quiet_of_same (HLN.out _ _ _ (.inl ⟨rfl, rfl⟩) ⟨_, rfl⟩)) | (go_at_call 15; exact Calls.quiet_of_same (HLN.out _ _ _ (.inr ⟨rfl, rfl⟩) ⟨_, rfl⟩))))
      have hTq : Turns [] W0 (W0.drewN nq) := (Turns.refl [] W0).drewN nq
      obtain ⟨W1, hW1⟩ : ∃ W1, W0.drewN nq = W1 := ⟨_, rfl⟩
      rw [hW1] at hTq ⊢
      have HTQ := Lib.hid hTq
      obtain ⟨r4, f4⟩ := HRF.out W1 hTq
      clear hW1 c1 c2 a3 hb hb2 hTq
      go_wp2
      refine HFALSE.out W1 HTQ.out HVF.out _ ?_
      rfl
  · have hb : ((m1 : Int) != (m2 : Int)) = true := by rw [bne_iff_ne]; omega
    have HVF : Hid (v = false) := Lib.hid (by rw [HV.out, decide_eq_false_iff_not]; rintro ⟨h, _⟩; exact hm h)
    clear hm
    go_quiet (fail)
    have hTq : Turns [] W0 (W0.drewN nq) := (Turns.refl [] W0).drewN nq
    obtain ⟨W1, hW1⟩ : ∃ W1, W0.drewN nq = W1 := ⟨_, rfl⟩
    rw [hW1] at hTq ⊢
    have HTQ := Lib.hid hTq
    obtain ⟨r4, f4⟩ := HRF.out W1 hTq
    clear hW1 c1 c2 a3 hb hTq
    go_wp2
    refine HFALSE.out W1 HTQ.out HVF.out _ ?_
    rfl
end Go.Proofs.Ytcjmieofmogeiaa
