/- Copy: a net of its own with the same contents. -/
import Derived.Test.YtlelemjmknbnaaaSameQ
import Derived.OrdersHeld
import Derived.OrdersIn
import Derived.RangeFuncCalls
import Derived.Test.YtlelemjmknbnaaaNetEq
import Derived.Test.YtlelemjmknbnaaaNetGo
import Derived.Test.YtlelemjmknbnaaaNetDial
import Derived.RangeFuncWrites
import Derived.Test.YtlelemjmknbnaaaNetOps
import Derived.Deep.RegionHeld
namespace Go.Proofs.Ytlelemjmknbnaaa
open Go.RowKit

/-- What is left behind a region: nothing but the way on. -/
def OnlyN (K : Act → World → Prop) : Exit → Act → World → Prop
  | .normal, a, w => K a w
  | _, _, _ => False
theorem onlyN_lets (K : Act → World → Prop) : ¬ LetsOut (OnlyN K) := fun ⟨_, _, h⟩ => h
theorem upon_round (l n : Nat) {P : Program} {o : Oper} {a : Act} {next : Act → World → Prop} {Q : Exit → Act → World → Prop} {r : Result Next} (h : o.upon P a next Q r) : o.uponIn (Fence.wide.inRound l) n P a next Q r := by
  cases r with
  | ok x w' =>
    cases x <;> simp only [Oper.upon] at h <;> simp only [Oper.uponIn]
    case value u => exact h
    case skip => exact h
    case defer d => exact h
    case enter f args => exact ⟨fun hd => (by cases hd), CallsIn.inRound l (callsIn_wide.2 (Calls.mono h fun e w'' he => by cases e <;> exact he))⟩
    case row row args => exact ⟨fun hd => (by cases hd), fun c cs _ => let ⟨v, w', r, s⟩ := h c cs; ⟨v, w', r, stepsIn_wide.2 s⟩⟩
  | halt x w' => cases x <;> simp only [Oper.upon] at h <;> simp only [Oper.uponIn] <;> exact h
theorem wpOp_round (l n : Nat) {P : Program} {ops : Array Oper} {Q : Exit → Act → World → Prop} {i : Nat} {K K' : Act → World → Prop} {a : Act} {w : World} (hnd : noDefer ops = true) (hQ : ¬ LetsOut Q) (hK : ∀ a w, K a w → K' a w)
    (h : wpOp P ops Q i K a w) : wpOpIn (Fence.wide.inRound l) n P ops Q i K' a w := by
  unfold wpOp at h
  unfold wpOpIn
  split at h
  · rename_i ho
    rw [ho]
    exact hK _ _ h
  · rename_i o ho
    rw [ho]
    simp only []
    split at h
    · rename_i hw
      rw [if_pos hw]
      rcases h with h | ⟨_, h⟩
      · refine ⟨fun _ _ => trivial, ?_⟩
        rw [Oper.semAt_eq _ _ _ (noDefer_at hnd ho)]
        have h2 : o.upon P a K' Q ((execOp a.eval o).run P w) := by
          unfold Oper.wp at h
          generalize (execOp a.eval o).run P w = r at h ⊢
          cases r with
          | ok x w' =>
            cases x <;> simp only [Oper.upon] at h ⊢
            case value u => exact hK _ _ h
            case skip => exact hK _ _ h
            case defer d => exact hK _ _ h
            case enter f args => exact Calls.mono h fun e w'' he => by cases e <;> first | exact hK _ _ he | exact he
            case row row args => exact Rows.mono h fun _ _ he => hK _ _ he
          | halt x w' => cases x <;> simp only [Oper.upon] at h ⊢ <;> exact h
        exact upon_round l n h2
      · exact absurd h hQ
    · rename_i hw
      rw [if_neg hw]
      exact ⟨fun _ _ => trivial, hK _ _ h⟩
theorem wpAny_round (l n : Nat) {P : Program} {md : Region.Mode} {ops : Array Oper} {Q : Exit → Act → World → Prop} (hnd : noDefer ops = true) (hQ : ¬ LetsOut Q) :
    ∀ (fuel : Nat) (listed : Array Bool) (a : Act) (w : World), wpAny P md ops Q fuel listed a w → wpAnyIn (Fence.wide.inRound l) n P md ops Q fuel listed a w
  | 0, _, _, _, h => h
  | fuel + 1, _, _, _, h => ⟨h.1, fun i hi => wpOp_round l n hnd hQ (fun a w => wpAny_round l n hnd hQ fuel _ a w) (h.2 i hi)⟩
/-- A region that draws its order, in a round. -/
theorem wpIn_region_round (l n : Nat) {P : Program} {id : Nat} {ops : Array Oper} {K : Act → World → Prop} {Q : Exit → Act → World → Prop} {S : World → Prop} {a : Act} {w : World} (hm : P.follows .mixedOrders = true) (hnd : noDefer ops = true)
    (h : wpAnyH P .any ops (OnlyN K) S ops.size (Array.replicate ops.size false) a w.drew) (hQ : ∀ a w, K a w → Q .normal a w) : (Code.region id ops true).wpIn (Fence.wide.inRound l) n P Q a w :=
  wpIn_mono (wpIn_region_any hm (wpAny_round l n hnd (onlyN_lets K) _ _ _ _ (wpAny_of_held _ _ _ _ h))) fun e a w he => by
    cases e <;> first | exact hQ a w he | exact he.elim
end Go.Proofs.Ytlelemjmknbnaaa

namespace Go.Proofs.Ytlelemjmknbnaaa
open Go.RowKit Go.Maps

/-- Connections of a copy: their contents, their places. -/
structure Cont (B : Nat) (W : World) (D : DataW Unit) (L2 : List NE) (cs : List Cn) : Prop where
  keys : Keys D L2
  same : L2.map Prod.fst = cs
  conns : ∀ x ∈ L2, W.heap[x.2.b]? = some (.cells (cellsC x) 60 (0, 0)) ∧ Owned B W x.2.va x.1.inn ∧ Owned B W x.2.vs x.1.out
  low : ∀ x ∈ L2, B ≤ x.2.b
  nodup : (footL L2).Nodup
theorem Cont.none (B : Nat) (W : World) : Cont B W (.map []) [] [] := ⟨keys_empty, rfl, fun x hx => (by cases hx), fun x hx => (by cases hx), List.nodup_nil⟩
theorem Cont.foot {B : Nat} {W : World} {D : DataW Unit} {L2 : List NE} {cs : List Cn} (h : Cont B W D L2 cs) : ∀ i ∈ footL L2, B ≤ i ∧ ∃ C t f, W.heap[i]? = some (.cells C t f) := by
  intro i hi
  obtain ⟨x, hx, hi⟩ := mem_footL.1 hi
  obtain ⟨c1, c2, c3⟩ := h.conns x hx
  rcases Pl.mem_foot.1 hi with rfl | hi | hi
  · exact ⟨h.low x hx, _, _, _, c1⟩
  · refine ⟨(c2.foot i hi).1, ?_⟩
    unfold ownB at hi
    rw [Option.mem_toList] at hi
    rcases c2.2 with ⟨h1, -⟩ | ⟨g, cap, cur, h1, -, hg, -⟩
    · rw [h1] at hi; simp [Value.ownBlock] at hi
    · rw [h1] at hi
      have : g = i := by simpa [Value.ownBlock] using hi
      subst this
      exact ⟨_, _, _, hg⟩
  · refine ⟨(c3.foot i hi).1, ?_⟩
    unfold ownB at hi
    rw [Option.mem_toList] at hi
    rcases c3.2 with ⟨h1, -⟩ | ⟨g, cap, cur, h1, -, hg, -⟩
    · rw [h1] at hi; simp [Value.ownBlock] at hi
    · rw [h1] at hi
      have : g = i := by simpa [Value.ownBlock] using hi
      subst this
      exact ⟨_, _, _, hg⟩
theorem Owned.keep {B : Nat} {w w' : World} {v : Value} {l : List UInt8} (h : Owned B w v l) (hk : ∀ i ∈ ownB v, w'.heap[i]? = w.heap[i]?) : Owned B w' v l := by
  refine ⟨h.1, ?_⟩
  rcases h.2 with hn | ⟨g, cap, cur, rfl, hB, hg, rest⟩
  · exact .inl hn
  · exact .inr ⟨g, cap, cur, rfl, hB, (hk g (by simp [ownB, Value.ownBlock])).trans hg, rest⟩
theorem Cont.keep {B : Nat} {W W' : World} {D : DataW Unit} {L2 : List NE} {cs : List Cn} (h : Cont B W D L2 cs) (hk : ∀ i ∈ footL L2, W'.heap[i]? = W.heap[i]?) : Cont B W' D L2 cs where
  keys := h.keys
  same := h.same
  conns := fun x hx => by
    obtain ⟨c1, c2, c3⟩ := h.conns x hx
    have hf : ∀ i ∈ x.2.foot, W'.heap[i]? = W.heap[i]? := fun i hi => hk i (mem_footL.2 ⟨x, hx, hi⟩)
    exact ⟨(hf _ (Pl.mem_foot.2 (.inl rfl))).trans c1, c2.keep fun i hi => hf i (Pl.mem_foot.2 (.inr (.inl hi))), c3.keep fun i hi => hf i (Pl.mem_foot.2 (.inr (.inr hi)))⟩
  low := h.low
  nodup := h.nodup
/-- One connection more. -/
theorem Cont.snoc {B : Nat} {W W' : World} {D : DataW Unit} {L2 : List NE} {cs : List Cn} (h : Cont B W D L2 cs) (hB : B ≤ W.heap.size) (ht : Maps.Tidy D) {bcm : Nat} (hbc : bcm < B) (hT : Turns [bcm] W W') (y : Cn) (hid : ∀ c ∈ cs, c.id ≠ y.id) (hw : (Lit.int .i64 (y.id : Int)).wf = true)
    {nb : Nat} {va vs : Value} (hc : W'.heap[nb]? = some (.cells #[.string ⟨y.host.toArray⟩, .int .i64 y.st, va, vs] 60 (0, 0))) {B1 B2 : Nat} (h1 : W.heap.size ≤ B1) (ha : Owned B1 W' va y.inn) (h2 : ∀ i ∈ ownB va, i < B2) (h12 : B1 ≤ B2) (hs : Owned B2 W' vs y.out) (h3 : ∀ i ∈ ownB vs, i < nb) (h4 : B2 ≤ nb) :
    Cont B W' (D.put (.int .i64 (y.id : Int)) (.lit (.int .i64 (nb : Int)))) (L2 ++ [(y, ⟨nb, va, vs⟩)]) (cs ++ [y]) := by
  have hfoot := h.foot
  have hltF : ∀ i ∈ footL L2, i < W.heap.size := fun i hi => by
    obtain ⟨-, C, t, f, h5⟩ := hfoot i hi
    exact lt_of_block h5
  have hk := h.keep (W' := W') (fun i hi => hT.block i (hltF i hi) (fun hm => by
    rw [List.mem_singleton] at hm
    have := (hfoot i hi).1
    omega))
  have hfl : footL (L2 ++ [(y, ⟨nb, va, vs⟩)]) = footL L2 ++ (nb :: (ownB va ++ ownB vs)) := by simp [footL, Pl.foot]
  have hma : ∀ i ∈ ownB va, B1 ≤ i := fun i hi => (ha.foot i hi).1
  have hms : ∀ i ∈ ownB vs, B2 ≤ i := fun i hi => (hs.foot i hi).1
  have hna : (ownB va).Nodup := by unfold ownB; cases va.ownBlock <;> simp
  have hns : (ownB vs).Nodup := by unfold ownB; cases vs.ownBlock <;> simp
  refine ⟨?_, by rw [List.map_append, h.same]; rfl, fun x hx => ?_, fun x hx => ?_, ?_⟩
  · exact h.keys.snoc (y := (y, ⟨nb, va, vs⟩)) ht (fun x hx => hid x.1 (by rw [← h.same]; exact List.mem_map_of_mem hx)) hw
  · rcases List.mem_append.1 hx with hx | hx
    · exact hk.conns x hx
    · rw [List.mem_singleton] at hx
      subst hx
      exact ⟨hc, ha.low (by omega), hs.low (by omega)⟩
  · rcases List.mem_append.1 hx with hx | hx
    · exact h.low x hx
    · rw [List.mem_singleton] at hx
      subst hx
      show B ≤ nb
      omega
  · rw [hfl, List.nodup_append]
    refine ⟨h.nodup, ?_, fun i hi j hj => ?_⟩
    · rw [List.nodup_cons, List.nodup_append]
      refine ⟨fun hm => ?_, hna, hns, fun i hi j hj e => ?_⟩
      · rcases List.mem_append.1 hm with hm | hm
        · have := h2 nb hm; omega
        · have := h3 nb hm; omega
      · have := h2 i hi
        have := hms j hj
        omega
    · have h5 := hltF i hi
      rcases List.mem_cons.1 hj with rfl | hj
      · omega
      · rcases List.mem_append.1 hj with hj | hj
        · have := hma j hj; omega
        · have := hms j hj; omega
/-- A copy so far, in a going over these. -/
def CpJ (wL : World) (bcm : Nat) (L : List NE) (pre : List (EntIn (entsOf L))) (W : World) : Prop :=
  Turns [bcm] wL W ∧ ∃ D, W.ownsMap Try.prog 3 pelem bcm pre.length D ∧ (pre <+: (entsOf L).attach → ∃ L2, Cont wL.heap.size W D L2 ((L.take pre.length).map Prod.fst))
theorem cpJ_from (wL : World) (bcm : Nat) (L : List NE) (hb : bcm < wL.heap.size) : OwnFrom wL.heap.size (CpJ wL bcm L) := by
  rintro pre W W' row ⟨hT, D, ho, hc⟩ hg hr
  have hne : ∀ i, i < wL.heap.size → some i ≠ row := fun i hi e => by have := (hr i e.symm).1; omega
  refine ⟨⟨hg.os.trans hT.os, hg.tape.trans hT.tape, hg.output.trans hT.output, Nat.le_trans hT.size hg.size, fun i hi hn => (hg.block i (Nat.lt_of_lt_of_le hi hT.size) (hne i hi)).trans (hT.block i hi hn)⟩, D, ?_, fun hp => ?_⟩
  · obtain ⟨es, clock, h1, r⟩ := ho
    exact ⟨es, clock, (hg.block bcm (Nat.lt_of_lt_of_le hb hT.size) (hne bcm hb)).trans h1, r⟩
  · obtain ⟨L2, h2⟩ := hc hp
    refine ⟨L2, h2.keep fun i hi => ?_⟩
    obtain ⟨-, C, t, f, h3⟩ := h2.foot i hi
    refine hg.block i (lt_of_block h3) fun e => ?_
    obtain ⟨-, o, ho, hoc⟩ := hr i e.symm
    rw [h3] at ho
    cases ho
    cases hoc
theorem Turns.keepsFrom {B bcm : Nat} {W W' : World} (h : Turns [bcm] W W') (hb : bcm < B) : KeepsFrom B W W' :=
  ⟨h.size, fun k o hB hk _ => (h.block k (lt_of_block hk) (fun hm => by rw [List.mem_singleton] at hm; omega)).trans hk⟩
theorem rise_lenC : ∀ {L : List NE} {a : Nat}, (L.Pairwise fun x y => x.1.id < y.1.id) → (∀ x ∈ L, a < x.1.id) → ∀ {b : Int}, (∀ x ∈ L, (x.1.id : Int) ≤ b) → (a : Int) ≤ b → (a : Int) + L.length ≤ b
  | [], a, _, _, b, _, h => by simpa using h
  | x :: L, a, hr, ha, b, hb, h => by
    rw [List.pairwise_cons] at hr
    have h1 := rise_lenC (a := x.1.id) hr.2 hr.1 (fun y hy => hb y (List.mem_cons_of_mem _ hy)) (hb x (List.mem_cons_self ..))
    have h2 := ha x (List.mem_cons_self ..)
    simp only [List.length_cons]
    omega
theorem ents_at {L : List NE} {k : Nat} {x : EntIn (entsOf L)} {pre : List (EntIn (entsOf L))} (hk : k = pre.length) (hp : pre ++ [x] <+: (entsOf L).attach) : pre <+: (entsOf L).attach ∧ ∃ y, L[k]? = some y ∧ x.1 = (y.1.id, y.1.host) := by
  subst hk
  refine ⟨(List.prefix_append _ _).trans hp, ?_⟩
  have h1 : (entsOf L).attach[pre.length]? = some x := by
    obtain ⟨q, hq⟩ := hp
    rw [← hq, List.append_assoc, List.getElem?_append_right (Nat.le_refl _)]
    simp
  have h2 := attach_at h1
  unfold entsOf at h2
  rw [List.getElem?_map] at h2
  obtain ⟨y, hy, he⟩ := Option.map_eq_some_iff.1 h2
  exact ⟨y, hy, he.symm⟩
theorem Owned.slN {B : Nat} {w : World} {v : Value} {l : List UInt8} (h : Owned B w v l) : ∃ A c, v = .slice A l.length c ∧ BReads w w.heap.size A l ∧ (A = none → c = 0) := by
  rcases h.form with ⟨rfl, rfl⟩ | ⟨g, cap, hv, -⟩
  · exact ⟨Option.none, 0, rfl, .inl rfl, fun _ => rfl⟩
  · obtain ⟨A, c, hv2, hr, -⟩ := h.reads
    rw [hv] at hv2
    cases hv2
    exact ⟨_, _, hv, hr, fun h => by cases h⟩
theorem take_lt {L : List NE} (hr : L.Pairwise fun x y => x.1.id < y.1.id) {k : Nat} {y : NE} (hy : L[k]? = some y) : ∀ c ∈ (L.take k).map Prod.fst, c.id ≠ y.1.id := by
  intro c hc
  obtain ⟨z, hz, rfl⟩ := List.mem_map.1 hc
  obtain ⟨j, hj, hjz⟩ := List.mem_take_iff_getElem.1 hz
  obtain ⟨hk, hky⟩ := List.getElem?_eq_some_iff.1 hy
  have hjl : j < L.length := by omega
  have := List.pairwise_iff_getElem.1 hr j k hjl hk (by omega)
  rw [hky, hjz] at this
  omega
/-- What a round leaves. -/
theorem cpJ_step {wL W W8 : World} {bcm : Nat} {L : List NE} {pre : List (EntIn (entsOf L))} {x : EntIn (entsOf L)} {D : DataW Unit} (hr : L.Pairwise fun x y => x.1.id < y.1.id) (hb : bcm < wL.heap.size) (hT : Turns [bcm] wL W) (ho : W.ownsMap Try.prog 3 pelem bcm pre.length D)
    (hc : pre <+: (entsOf L).attach → ∃ L2, Cont wL.heap.size W D L2 ((L.take pre.length).map Prod.fst)) {idv : Nat} {hov hst inn outl : List UInt8} {stv : Int} (hx1 : x.1.1 = idv) (hx2 : x.1.2 = hov) (hw : (Lit.int .i64 (idv : Int)).wf = true)
    (heq : ∀ y ∈ L, y.1.id = idv → hst = y.1.host ∧ stv = y.1.st ∧ inn = y.1.inn ∧ outl = y.1.out) {nb : Nat} {va vs : Value} (hT8 : Turns [bcm] W W8) (hm8 : W8.ownsMap Try.prog 3 pelem bcm (pre.length + 1) (D.put (.int .i64 (idv : Int)) (.lit (.int .i64 (nb : Int)))))
    (hcc : W8.heap[nb]? = some (.cells #[.string ⟨hov.toArray⟩, .int .i64 stv, va, vs] 60 (0, 0))) {B1 B2 : Nat} (h1 : W.heap.size ≤ B1) (ha : Owned B1 W8 va inn) (h2 : ∀ i ∈ ownB va, i < B2) (h12 : B1 ≤ B2) (hs : Owned B2 W8 vs outl) (h3 : ∀ i ∈ ownB vs, i < nb) (h4 : B2 ≤ nb) :
    CpJ wL bcm L (pre ++ [x]) W8 := by
  refine ⟨hT.trans hT8 (fun i hi => .inl hi), D.put (.int .i64 (idv : Int)) (.lit (.int .i64 (nb : Int))), by rw [List.length_append]; exact hm8, fun hp => ?_⟩
  obtain ⟨hpre, y, hy, hxy⟩ := ents_at rfl hp
  obtain ⟨L2, hL2⟩ := hc hpre
  have hym : y ∈ L := List.mem_of_getElem? hy
  have e1 : y.1.id = idv := by rw [← hx1, hxy]
  have e2 : y.1.host = hov := by rw [← hx2, hxy]
  obtain ⟨-, e4, e5, e6⟩ := heq y hym e1
  rw [← e1] at hm8 hw
  rw [← e2, e4] at hcc
  rw [e5] at ha
  rw [e6] at hs
  have h9 := hL2.snoc hT.size (ho.tidy keyed) hb hT8 y.1 (take_lt hr hy) hw hcc h1 ha h2 h12 hs h3 h4
  have ecs : (L.take (pre ++ [x]).length).map Prod.fst = (L.take pre.length).map Prod.fst ++ [y.1] := by
    rw [List.length_append, List.length_singleton, List.take_add_one, hy, List.map_append]
    rfl
  rw [ecs, ← e1]
  exact ⟨_, h9⟩
end Go.Proofs.Ytlelemjmknbnaaa

namespace Go.Proofs.Ytlelemjmknbnaaa
open Go.RowKit Go.Maps Go.Sort Go.Shelf
attribute [local go_sem] Oper.semAt_some
theorem wide_fnC (f : FuncId) : Fence.wide.fn f = True := rfl
attribute [local go_sem] wide_fnC

/-- What New made, with its last number set. -/
theorem NetAt.last {B : Nat} {w w' : World} {bc bcm : Nat} {most last : Int} (h : NetAt B w bc bcm most 0 []) (hl : 0 ≤ last) (ht : Turns [bc] w w') (hh : w'.heap[bc]? = some (.cells #[.int .i64 most, .int .i64 last, .map (some bcm)] 47 (0, 0))) :
    w'.ownsMap Try.prog 3 pelem bcm 0 (.map []) ∨ True := .inr trivial
set_option maxRecDepth 100000 in
set_option maxHeartbeats 4000000 in
theorem copy_any {B : Nat} {w : World} {bn bm : Nat} {most last : Int} {L : List NE} (h : NetAt B w bn bm most last L) (hB : B ≤ w.heap.size) (hmost : 0 ≤ most) (hl : L.length ≤ 1000) (hh : ∀ x ∈ L, x.1.host.length ≤ 1000000) (hx : ∀ x ∈ L, x.1.inn.length ≤ 1000000 ∧ x.1.out.length ≤ 1000000) (hlast : last ≤ 1000000000) :
    Calls Try.prog 9 #[.pointer (some ⟨bn, 0, none⟩)] w fun e w' => ∃ bc bcm L2, e = .returned (.pointer (some ⟨bc, 0, none⟩)) ∧ NetAt w.heap.size w' bc bcm most last L2 ∧ L2.map Prod.fst = L.map Prod.fst ∧ Below w.heap.size w w' := by
  refine (callsIn_wide (n := 6)).1 ?_
  refine callsIn_of_wp_marks Try.func9 rfl trivial ?_ rfl
  simp only [Try.ntmps9, List.size_toArray, List.length_cons, List.length_nil, Nat.reduceAdd, Nat.reduceSub, Array.replicate_succ, Array.replicate_zero, List.push_toArray, List.append_toArray, List.nil_append, List.cons_append]
  refine wpIn_wide.2 ?_
  have hT0 : Turns [] w (w.alloc (.cells #[.pointer (some ⟨bn, 0, none⟩)] 25)) := Turns.alloc w _
  have o0 := h.kept hT0 (by simp)
  have c0 := o0.c0
  have hs0 : (w.alloc (.cells #[.pointer (some ⟨bn, 0, none⟩)] 25)).heap.size = w.heap.size + 1 := by simp
  have HN0 := new_any w.heap.size most (w.alloc (.cells #[.pointer (some ⟨bn, 0, none⟩)] 25)) (by simp)
  rw [hs0, show max most 0 = most by omega] at HN0
  have HN := Lib.hid HN0
  have H := Lib.hid h
  have b1 := Boxed.new w 25 (.pointer (some ⟨bn, 0, none⟩))
  have p1 := b1.cell
  clear HN0
  go_wp2_with fail
  refine HN.out.mono ?_
  rintro e w1 ⟨rfl, hn1, ht1⟩
  obtain ⟨bc, hbc⟩ : ∃ bc, bc = w.heap.size + 1 + 1 := ⟨_, rfl⟩
  obtain ⟨bcm, hbcm⟩ : ∃ bcm, bcm = w.heap.size + 1 := ⟨_, rfl⟩
  rw [← hbc, ← hbcm] at hn1
  have HBC := Lib.hid hbc
  have HBCM := Lib.hid hbcm
  clear hbc hbcm
  have b1' : Boxed w1 w.heap.size 25 (.pointer (some ⟨bn, 0, none⟩)) := (ht1.block _ (by omega) (by simp)).trans b1
  have o1 := o0.kept ht1 (by simp)
  have hsz1 := ht1.size
  have HN1 := Lib.hid hn1
  clear p1 b1 c0 HN o0
  go_upto_region 4 with fail
  have hbc := HBC.out
  have hbcm := HBCM.out
  rw [← hbc]
  obtain ⟨W2, hW2⟩ : ∃ W2, w1.alloc (.cells #[.pointer (some ⟨bc, 0, none⟩)] 25) = W2 := ⟨_, rfl⟩
  have hT2 : Turns [] w1 W2 := by rw [← hW2]; exact Turns.alloc w1 _
  have b3 : Boxed W2 w1.heap.size 25 (.pointer (some ⟨bc, 0, none⟩)) := by rw [← hW2]; exact Boxed.new w1 _ _
  have hs2 : W2.heap.size = w1.heap.size + 1 := by rw [← hW2]; simp
  have b1'' : Boxed W2 w.heap.size 25 (.pointer (some ⟨bn, 0, none⟩)) := (hT2.block _ (by omega) (by simp)).trans b1'
  have o2 := o1.kept hT2 (by simp)
  have n2 := hn1.kept hT2 (by simp)
  have p1 := b1''.cell
  have p3 := b3.cell
  have c1 := o2.c1
  have e1 := n2.c1
  have f1 := n2.free 1
  have HB1 := Lib.hid b1''
  have HB3 := Lib.hid b3
  have HO := Lib.hid o2
  have HN2 := Lib.hid n2
  have HT0 := Lib.hid hT0
  have HT1 := Lib.hid ht1
  have HT2 := Lib.hid hT2
  have HNE := Lib.hid (show bc ≠ w1.heap.size from by have := lt_of_block (HN1.out.head); omega)
  have HSZ := Lib.hid (And.intro hs0 (And.intro hsz1 (And.intro hs2 (And.intro hbc hbcm))))
  have HLL := Lib.hid (And.intro hB (And.intro hmost (And.intro hl (And.intro hh (And.intro hx hlast)))))
  rw [hW2]
  generalize hs3 : w1.heap.size = s3 at *
  clear b1' b1'' b3 o1 o2 n2 hn1 ht1 hT2 hs2 hsz1 hs0 hT0 hW2 hbc hbcm hB hmost hl hh hx hlast HN1 h
  go_region
  all_goals
    obtain ⟨W3, hW3⟩ : ∃ W3, W3 = (W2.setCell ⟨bc, 1, none⟩ (.int .i64 last)).drew := ⟨_, rfl⟩
    have hT3 : Turns [bc] W2 W3 := by rw [hW3]; exact (Turns.setCell (F := [bc]) W2 _ _ (by simp)).drew
    have hd3 : W3.heap[bc]? = some (.cells #[.int .i64 most, .int .i64 last, .map (some bcm)] 47 (0, 0)) := by
      rw [hW3]
      change (W2.setCell ⟨bc, 1, none⟩ (.int .i64 last)).heap[bc]? = _
      have := heap_cell (w := W2) (j := 1) (.int .i64 last) HN2.out.head
      simpa using this
    have hbn : ∀ i ∈ bn :: bm :: footL L, i < w.heap.size := fun i hi => (H.out.lt i hi).2
    have HBN := Lib.hid hbn
    have o3 := HO.out.kept hT3 (fun i hi hm => by rw [List.mem_singleton] at hm; have := hbn i hi; have := HBC.out; omega)
    have hm3 : ∃ D, W3.ownsMap Try.prog 3 pelem bcm 0 D ∧ Keys D [] := by
      obtain ⟨n, D, h1, h2, h3⟩ := HN2.out.hmap
      obtain rfl : n = 0 := by omega
      exact ⟨D, ownsMap_turns h1 hT3 (fun hm => by rw [List.mem_singleton] at hm; have := HBC.out; have := HBCM.out; omega), h3⟩
    have p1 : W3.cell? ⟨w.heap.size, 0, none⟩ = some (.pointer (some ⟨bn, 0, none⟩)) := (World.cell?_of_block (hT3.block w.heap.size (lt_of_block HB1.out) (fun hm => by rw [List.mem_singleton] at hm; have := HBC.out; omega))).trans HB1.out.cell
    have HB13 : Hid (Boxed W3 w.heap.size 25 (.pointer (some ⟨bn, 0, none⟩))) := Lib.hid ((hT3.block w.heap.size (lt_of_block HB1.out) (fun hm => by rw [List.mem_singleton] at hm; have := HBC.out; omega)).trans HB1.out)
    have HB33 : Hid (Boxed W3 s3 25 (.pointer (some ⟨bc, 0, none⟩))) := Lib.hid ((hT3.block s3 (lt_of_block HB3.out) (fun hm => by rw [List.mem_singleton] at hm; have := HBC.out; have := HSZ.out.1; have := HSZ.out.2.1; have := lt_of_block HN2.out.head; have := HSZ.out.2.2.1; have hne := HNE.out; omega)).trans HB3.out)
    have HO3 := Lib.hid o3
    have HD3 := Lib.hid hd3
    have HM3 := Lib.hid hm3
    have HT3 := Lib.hid hT3
    have HA := Lib.hid (all_any o3 HLL.out.2.2.1 HLL.out.2.2.2.1 HLL.out.2.2.2.2.2)
    rw [← hW3]
    clear hW3 hT3 hd3 hbn o3 hm3 c1 e1 f1 p3
    go_wp2_with fail
    refine HA.out.mono ?_
    rintro e wL ⟨⟨bs, va, rfl, hbs, hbs2, hca, hoa⟩, hb⟩
    have hTL : Turns [] W3 wL := Turns.of_below hb (Nat.le_refl _)
    have HTL := Lib.hid hTL
    have HOA := Lib.hid hoa
    obtain ⟨bl, hbl, hbl2, hbl3⟩ : ∃ bl, (∀ g, va.ownBlock = some g → g = bl) ∧ bl < wL.heap.size ∧ W3.heap.size ≤ bl := by
      rcases hoa.form with ⟨e1, _⟩ | ⟨g, cap, e1, hg0, hg, _⟩
      · exact ⟨bs, fun g hg => by rw [e1] at hg; simp [Value.ownBlock] at hg, hbs2, hbs⟩
      · exact ⟨g, fun g2 hg2 => by rw [e1] at hg2; simpa [Value.ownBlock] using hg2.symm, hg, hg0⟩
    have hlE : (entsOf L).length ≤ 1000 := by rw [entsOf, List.length_map]; exact HLL.out.2.2.1
    clear hb p1 HA hTL
    go_wp2_with fail
    have hbL : bcm < wL.heap.size := by
      obtain ⟨D, h1, -⟩ := HM3.out
      exact Nat.lt_of_lt_of_le h1.lt HTL.out.size
    have hblm : bl ≠ bcm := by
      obtain ⟨D, h1, -⟩ := HM3.out
      have := h1.lt
      omega
    have HHB := Lib.hid (And.intro hbL hblm)
    refine (wpIn_wide (n := 6)).1 ?_
    refine' wpIn_rangeFunc_ownG (F := Fence.wide) (n := 6) (α := EntIn (entsOf L)) rfl (by omega) (gf := 51) (lb := #[.pointer (some ⟨bs, 0, none⟩)]) rfl trivial (enters_of Try.func51 (by kernel_rfl) rfl)
      (entin_stops Fence.wide 5 trivial rfl (by omega) bs bl _ va (entsOf L) hlE wL hbs2 hca hoa hbl)
      KeepB.t (KeepB.b hbl2) (Below.refl _ _) (fun _ => rfl)
      (CpJ wL bcm L)
      (fun c pre W => False)
      (cpJ_from wL bcm L hbL)
      (fun c s A B row hs _ _ => hs)
      (by
        obtain ⟨D, h1, h2⟩ := HM3.out
        exact ⟨Turns.refl _ _, D, ownsMap_turns h1 HTL.out (by simp), fun _ => ⟨[], ⟨h2, rfl, fun x hx => (by cases hx), fun x hx => (by cases hx), List.nodup_nil⟩⟩⟩)
      _ ?assign ?body ?done ?stop
    case assign =>
      intro l x W K hK
      unfold encEnt
      gi_wp2
      exact hK
    case body =>
      rintro l pre x W ⟨hT, D, ho, hc⟩ hlt
      have hk : (Lit.int .i64 (x.1.1 : Int)).wf = true := by
        obtain ⟨y, hy, hye⟩ := List.mem_map.1 x.2
        have h1 := H.out.ids y hy
        have h3 := HLL.out.2.2.2.2.2
        have h4 : y.1.id = x.1.1 := congrArg Prod.fst hye
        simp [Lit.wf, IntKind.min, IntKind.max, IntKind.signed, IntKind.bits]
        omega
      have hTW : Turns [bcm] W3 W := (HTL.out.mono (by simp)).trans hT (fun i hi => .inl hi)
      have oW := HO3.out.kept hTW (fun i hi hm => by rw [List.mem_singleton] at hm; have := HBN.out i hi; have := HBCM.out; omega)
      have hbx : ∀ g v, g ≠ bcm → Boxed W3 g 25 v → Boxed W g 25 v := fun g v hg hb => (hTW.block g (lt_of_block hb) (fun hm => hg (by rw [List.mem_singleton] at hm; exact hm))).trans hb
      have B1 := hbx _ _ (by have := HBCM.out; omega) HB13.out
      have B3 := hbx _ _ (by have := HBCM.out; have := HSZ.out.1; have := HSZ.out.2.1; have := HNE.out; have := lt_of_block HN2.out.head; have h9 := (HN2.out.hmap); obtain ⟨n, D9, h9, -, -⟩ := h9; have := h9.lt; have := HSZ.out.2.2.1; have := HSZ.out.2.2.2.1; omega) HB33.out
      have HDW : Hid (W.heap[bc]? = some (.cells #[.int .i64 most, .int .i64 last, .map (some bcm)] 47 (0, 0))) := Lib.hid ((hTW.block bc (lt_of_block HD3.out) (fun hm => by rw [List.mem_singleton] at hm; have := HBC.out; have := HBCM.out; omega)).trans HD3.out)
      have HK1 := Lib.hid (look_host oW (x.1.1 : Int) hk)
      have p1 := B1.cell
      have HB1W := Lib.hid B1
      have HB3W := Lib.hid B3
      have HS3 : Hid (s3 ≠ bcm) := Lib.hid (by have := HBCM.out; have := HSZ.out.1; have := HSZ.out.2.1; have := HNE.out; obtain ⟨n, D9, h9, -, -⟩ := HN2.out.hmap; have := h9.lt; have := HSZ.out.2.2.1; have := HSZ.out.2.2.2.1; have := lt_of_block HN2.out.head; omega)
      have HTW := Lib.hid hTW
      have HTLW := Lib.hid hT
      have HOW := Lib.hid ho
      have HCW := Lib.hid hc
      have HLT := Lib.hid hlt
      have HKW := Lib.hid hk
      clear hT ho hc hlt hk hTW oW hbx B1 B3
      have HEQ : Hid (∀ y ∈ L, y.1.id = x.1.1 → hostC (getE L (x.1.1 : Int)) = y.1.host ∧ stC (getE L (x.1.1 : Int)) = y.1.st ∧ innC (getE L (x.1.1 : Int)) = y.1.inn ∧ outC (getE L (x.1.1 : Int)) = y.1.out) := Lib.hid (fun y hy he => by
        rw [← he, getE_of_mem H.out.rise hy]
        exact ⟨rfl, rfl, rfl, rfl⟩)
      obtain ⟨y0, hy0, hye0⟩ := List.mem_map.1 x.2
      have hid0 : y0.1.id = x.1.1 := congrArg Prod.fst hye0
      have HL1 : Hid ((innC (getE L (x.1.1 : Int))).length ≤ 1000000 ∧ (outC (getE L (x.1.1 : Int))).length ≤ 1000000) := Lib.hid (by
        obtain ⟨-, -, h3, h4⟩ := HEQ.out y0 hy0 hid0
        rw [h3, h4]
        exact HLL.out.2.2.2.2.1 y0 hy0)
      generalize hostC (getE L (x.1.1 : Int)) = hst at HK1 HEQ
      generalize stC (getE L (x.1.1 : Int)) = stv at HK1 HEQ
      generalize innC (getE L (x.1.1 : Int)) = inn at HK1 HEQ HL1
      generalize outC (getE L (x.1.1 : Int)) = outl at HK1 HEQ HL1
      generalize hidv : x.1.1 = idv at HK1 HEQ HKW
      generalize hhov : x.1.2 = hov
      have HIV := Lib.hid (And.intro hidv hhov)
      have HY0 := Lib.hid (show ∃ y ∈ L, y.1.id = idv from ⟨y0, hy0, hid0.trans hidv⟩)
      clear hy0 hye0 hid0 y0
      have hx1 : (x.1.1 : Nat) = idv := hidv
      have hx2 : x.1.2 = hov := hhov
      clear hidv hhov
      gi_wp2_with (gi_at_call 33; with_reducible refine (CallsIn.inRound l (callsIn_wide.2 HK1.out)).mono ?_; rintro e w2 ⟨⟨va1, vs1, rfl, oa1, os1⟩, ht2⟩; obtain ⟨A1, c1, rfl, hr1, hn1⟩ := oa1.slN; obtain ⟨A2, c2, rfl, hr2, hn2⟩ := os1.slN)
      have hbcm2 : bcm < w2.heap.size := Nat.lt_of_lt_of_le HHB.out.1 (Nat.le_trans HTLW.out.size ht2.size)
      have hh4 := heap_alloc_new w2 (.cells #[.string ⟨hst.toArray⟩, .int .i64 stv, .slice A1 inn.length c1, .slice A2 outl.length c2] 60)
      have hT4 : Turns [] W (w2.alloc (.cells #[.string ⟨hst.toArray⟩, .int .i64 stv, .slice A1 inn.length c1, .slice A2 outl.length c2] 60)) := ht2.trans (Turns.alloc (F := []) w2 _) (by simp)
      have HH4 := Lib.hid hh4
      have HT4 := Lib.hid hT4
      have HB6 := Lib.hid (And.intro hbcm2 (show w2.heap.size < (w2.alloc (.cells #[.string ⟨hst.toArray⟩, .int .i64 stv, .slice A1 inn.length c1, .slice A2 outl.length c2] 60)).heap.size by simp))
      have HR1 := Lib.hid (And.intro hr1 hn1)
      have HR2 := Lib.hid (And.intro hr2 hn2)
      have HOA1 := Lib.hid (And.intro oa1 os1)
      clear hh4 hT4 hbcm2 ht2 hr1 hn1 hr2 hn2 oa1 os1 HK1
      generalize w2.alloc (.cells #[.string ⟨hst.toArray⟩, .int .i64 stv, .slice A1 inn.length c1, .slice A2 outl.length c2] 60) = W4 at *
      generalize w2.heap.size = b6 at *
      have HF : Hid (∀ w', Turns [bcm] W4 w' → w'.cell? ⟨s3, 0, none⟩ = some (.pointer (some ⟨bc, 0, none⟩)) ∧ w'.cell? ⟨bc, 2, none⟩ = some (.map (some bcm)) ∧ w'.cell? ⟨b6, 1, none⟩ = some (.int .i64 stv) ∧ w'.cell? ⟨b6, 2, none⟩ = some (.slice A1 inn.length c1) ∧ w'.cell? ⟨b6, 3, none⟩ = some (.slice A2 outl.length c2)) := Lib.hid (fun w' ht => by
        have h3 : w'.heap[s3]? = W.heap[s3]? := (ht.block s3 (Nat.lt_of_lt_of_le (lt_of_block HB3W.out) HT4.out.size) (fun hm => by rw [List.mem_singleton] at hm; exact HS3.out hm)).trans (HT4.out.block s3 (lt_of_block HB3W.out) (by simp))
        have h4 : w'.heap[bc]? = W.heap[bc]? := (ht.block bc (Nat.lt_of_lt_of_le (lt_of_block HDW.out) HT4.out.size) (fun hm => by rw [List.mem_singleton] at hm; have := HBC.out; have := HBCM.out; omega)).trans (HT4.out.block bc (lt_of_block HDW.out) (by simp))
        have h6 : w'.heap[b6]? = W4.heap[b6]? := ht.block b6 HB6.out.2 (fun hm => by rw [List.mem_singleton] at hm; have := HB6.out.1; omega)
        have h3' := h3.trans HB3W.out
        have h4' := h4.trans HDW.out
        have h6' := h6.trans HH4.out
        unfold Boxed at HB3W
        exact ⟨by simp [World.cell?, h3'], by simp [World.cell?, h4'], by simp [World.cell?, h6'], by simp [World.cell?, h6'], by simp [World.cell?, h6']⟩)
      have HR1W : Hid (∀ w', Turns [] W4 w' → BReads w' w'.heap.size A1 inn) := Lib.hid (fun w' ht => (HR1.out.1.below ((HT4.out.trans ht (by simp)).below (B := W.heap.size) (by simp) (Nat.le_refl _))).more (HT4.out.trans ht (by simp)).size)
      have HR2W : Hid (∀ w', Turns [] W4 w' → BReads w' w'.heap.size A2 outl) := Lib.hid (fun w' ht => (HR2.out.1.below ((HT4.out.trans ht (by simp)).below (B := W.heap.size) (by simp) (Nat.le_refl _))).more (HT4.out.trans ht (by simp)).size)
      have HC1 := Lib.hid (clone_any A1 inn c1 W4.drew (HR1W.out _ (Turns.refl [] _).drew) HR1.out.2 HL1.out.1)
      have hHeld : Turns [bcm] W4 W4.drew := (Turns.refl _ _).drew
      refine wpIn_region_round l _ (K := fun _ W' => KeepsFrom wL.heap.size W W' ∧ KeepB bl W W' ∧ CpJ wL bcm L (pre ++ [x]) W') (S := fun w' => Turns [bcm] W4 w') (by kernel_rfl) (by kernel_rfl) ?_ (fun a w h => h)
      refine wpAnyH_take (i := 0) (v := ?v0) rfl (by kernel_rfl) (by kernel_rfl) (by kernel_rfl) (fun _ _ _ h => h) (Or.inl ⟨by rfl, ?hy0⟩) (by assumption) ?rest0
      case hy0 => intro w' hSw; obtain ⟨q1, q2, q3, q4, q5⟩ := HF.out w' hSw; go_simp; all_goals with_reducible rfl
      try simp only [Act.put, List.setIfInBounds_toArray, List.set_cons_zero, List.set_cons_succ]
      refine wpAnyH_take (i := 1) (v := ?v1) rfl (by kernel_rfl) (by kernel_rfl) (by kernel_rfl) (fun _ _ _ h => h) (Or.inl ⟨by rfl, ?hy1⟩) (by assumption) ?rest1
      case hy1 => intro w' hSw; obtain ⟨q1, q2, q3, q4, q5⟩ := HF.out w' hSw; go_simp; all_goals with_reducible rfl
      try simp only [Act.put, List.setIfInBounds_toArray, List.set_cons_zero, List.set_cons_succ]
      refine wpAnyH_take (i := 2) (v := ?v2) rfl (by kernel_rfl) (by kernel_rfl) (by kernel_rfl) (fun _ _ _ h => h) (Or.inl ⟨by rfl, ?hy2⟩) (by assumption) ?rest2
      case hy2 => intro w' hSw; obtain ⟨q1, q2, q3, q4, q5⟩ := HF.out w' hSw; go_simp; all_goals with_reducible rfl
      try simp only [Act.put, List.setIfInBounds_toArray, List.set_cons_zero, List.set_cons_succ]
      refine wpAnyH_take (i := 3) (v := ?v3) rfl (by kernel_rfl) (by kernel_rfl) (by kernel_rfl) (fun _ _ _ h => h) (Or.inl ⟨by rfl, ?hy3⟩) (by assumption) ?rest3
      case hy3 => intro w' hSw; obtain ⟨q1, q2, q3, q4, q5⟩ := HF.out w' hSw; go_simp; all_goals with_reducible rfl
      try simp only [Act.put, List.setIfInBounds_toArray, List.set_cons_zero, List.set_cons_succ]
      refine wpAnyH_take (i := 4) (v := ?v4) rfl (by kernel_rfl) (by kernel_rfl) (by kernel_rfl) (fun _ _ _ h => h) (Or.inl ⟨by rfl, ?hy4⟩) (by assumption) ?rest4
      case hy4 => intro w' hSw; obtain ⟨q1, q2, q3, q4, q5⟩ := HF.out w' hSw; go_simp; all_goals with_reducible rfl
      try simp only [Act.put, List.setIfInBounds_toArray, List.set_cons_zero, List.set_cons_succ]
      refine wpAnyH_take (i := 5) (v := ?v5) rfl (by kernel_rfl) (by kernel_rfl) (by kernel_rfl) (fun _ _ _ h => h) (Or.inl ⟨by rfl, ?hy5⟩) (by assumption) ?rest5
      case hy5 => intro w' hSw; obtain ⟨q1, q2, q3, q4, q5⟩ := HF.out w' hSw; go_simp; all_goals with_reducible rfl
      try simp only [Act.put, List.setIfInBounds_toArray, List.set_cons_zero, List.set_cons_succ]
      refine wpAnyH_take (i := 6) (v := ?v6) rfl (by kernel_rfl) (by kernel_rfl) (by kernel_rfl) (fun _ _ _ h => h) (Or.inl ⟨by rfl, ?hy6⟩) (by assumption) ?rest6
      case hy6 => intro w' hSw; obtain ⟨q1, q2, q3, q4, q5⟩ := HF.out w' hSw; go_simp; all_goals with_reducible rfl
      try simp only [Act.put, List.setIfInBounds_toArray, List.set_cons_zero, List.set_cons_succ]
      refine wpAnyH_take (i := 7) (v := ?v7) rfl (by kernel_rfl) (by kernel_rfl) (by kernel_rfl) (fun _ _ _ h => h) (Or.inl ⟨by rfl, ?hy7⟩) (by assumption) ?rest7
      case hy7 => intro w' hSw; obtain ⟨q1, q2, q3, q4, q5⟩ := HF.out w' hSw; go_simp; all_goals with_reducible rfl
      try simp only [Act.put, List.setIfInBounds_toArray, List.set_cons_zero, List.set_cons_succ]
      refine wpAnyH_take (i := 8) (v := ?v8) rfl (by kernel_rfl) (by kernel_rfl) (by kernel_rfl) (fun _ _ _ h => h) (Or.inl ⟨by rfl, ?hy8⟩) (by assumption) ?rest8
      case hy8 => intro w' hSw; obtain ⟨q1, q2, q3, q4, q5⟩ := HF.out w' hSw; go_simp; all_goals with_reducible rfl
      try simp only [Act.put, List.setIfInBounds_toArray, List.set_cons_zero, List.set_cons_succ]
      refine wpAnyH_take (i := 9) (v := ?v9) rfl (by kernel_rfl) (by kernel_rfl) (by kernel_rfl) (fun _ _ _ h => h) (Or.inl ⟨by rfl, ?hy9⟩) (by assumption) ?rest9
      case hy9 => intro w' hSw; obtain ⟨q1, q2, q3, q4, q5⟩ := HF.out w' hSw; go_simp; all_goals with_reducible rfl
      try simp only [Act.put, List.setIfInBounds_toArray, List.set_cons_zero, List.set_cons_succ]
      refine wpAnyH_take (i := 11) (v := ?v11) rfl (by kernel_rfl) (by kernel_rfl) (by kernel_rfl) (fun _ _ _ h => h) (Or.inl ⟨by rfl, ?hy11⟩) (by assumption) ?rest11
      case hy11 => intro w' hSw; obtain ⟨q1, q2, q3, q4, q5⟩ := HF.out w' hSw; go_simp; all_goals with_reducible rfl
      try simp only [Act.put, List.setIfInBounds_toArray, List.set_cons_zero, List.set_cons_succ]
      refine wpAnyH_take (i := 12) (v := ?v12) rfl (by kernel_rfl) (by kernel_rfl) (by kernel_rfl) (fun _ _ _ h => h) (Or.inl ⟨by rfl, ?hy12⟩) (by assumption) ?rest12
      case hy12 => intro w' hSw; obtain ⟨q1, q2, q3, q4, q5⟩ := HF.out w' hSw; go_simp; all_goals with_reducible rfl
      try simp only [Act.put, List.setIfInBounds_toArray, List.set_cons_zero, List.set_cons_succ]
      clear hHeld
      refine wpAnyH_ready (rs := [10]) (by kernel_rfl) (by simp) ?_
      refine AllReadyH.cons rfl (fun K1 hK1 => ?_) AllReadyH.nil
      go_simp
      go_wp2_with (go_at_call 34; refine (HC1.out).mono ?_; rintro e w5 ⟨⟨v5, rfl, ho5⟩, ht5⟩; obtain ⟨A5, c5, rfl, -⟩ := ho5.reads)
      have HT5 := Lib.hid (show Turns [] W4 w5 from (Turns.refl [] W4).drew.trans ht5 (by simp))
      have HO5 := Lib.hid ho5
      have HC2 := Lib.hid (clone_any A2 outl c2 w5 ((HR2W.out w5 HT5.out)) HR2.out.2 HL1.out.2)
      clear ho5 ht5 HC1
      refine hK1.out _ _ (HT5.out.mono (by simp)) (fun hHeld => ?_)
      clear hK1 K1
      try simp only [Act.put, List.setIfInBounds_toArray, List.set_cons_zero, List.set_cons_succ]
      clear hHeld
      refine wpAnyH_ready (rs := [13]) (by kernel_rfl) (by simp) ?_
      refine AllReadyH.cons rfl (fun K1 hK1 => ?_) AllReadyH.nil
      go_simp
      go_wp2_with (go_at_call 34; refine (HC2.out).mono ?_; rintro e w6 ⟨⟨v6, rfl, ho6⟩, ht6⟩; obtain ⟨A6, c6, rfl, -⟩ := ho6.reads)
      have HT6 := Lib.hid (show Turns [] W4 w6 from HT5.out.trans ht6 (by simp))
      have HT56 := Lib.hid ht6
      have HO6 := Lib.hid ho6
      clear ho6 ht6 HC2
      refine hK1.out _ _ (HT6.out.mono (by simp)) (fun hHeld => ?_)
      clear hK1 K1
      try simp only [Act.put, List.setIfInBounds_toArray, List.set_cons_zero, List.set_cons_succ]
      refine wpAnyH_take (i := 14) (v := ?v14) rfl (by kernel_rfl) (by kernel_rfl) (by kernel_rfl) (fun _ _ _ h => h) (Or.inl ⟨by rfl, ?hy14⟩) (by assumption) ?rest14
      case hy14 => intro w' hSw; go_simp; all_goals with_reducible rfl
      try simp only [Act.put, List.setIfInBounds_toArray, List.set_cons_zero, List.set_cons_succ]
      clear hHeld
      refine wpAnyH_ready (rs := [15]) (by kernel_rfl) (by simp) ?_
      refine AllReadyH.cons rfl (fun K1 hK1 => ?_) AllReadyH.nil
      go_simp
      have hT7 : Turns [] W4 (w6.alloc (.cells #[.string ⟨hov.toArray⟩, .int .i64 stv, .slice A5 inn.length c5, .slice A6 outl.length c6] 60)) := HT6.out.trans (Turns.alloc (F := []) w6 _) (by simp)
      refine hK1.out _ _ (hT7.mono (by simp)) (fun hHeld => ?_)
      clear hK1 K1
      try simp only [Act.put, List.setIfInBounds_toArray, List.set_cons_zero, List.set_cons_succ]
      have hWT7 : Turns [] W (w6.alloc (.cells #[.string ⟨hov.toArray⟩, .int .i64 stv, .slice A5 inn.length c5, .slice A6 outl.length c6] 60)) := HT4.out.trans hT7 (by simp)
      have hm7 := ownsMap_turns HOW.out hWT7 (by simp)
      obtain ⟨W8, hrun8, hm8, hmt8⟩ := hm7.store keyed Try.underlying45 (show pre.length < maxLen by unfold maxLen; have := HLT.out; omega) (Go.Maps.keyOf_int_mk Try.underlying3 HKW.out : Go.keyOf Try.prog 3 (.int .i64 (idv : Int)) = some (.int .i64 (idv : Int))) (val := .pointer (some ⟨w6.heap.size, 0, none⟩)) (d := .lit (.int .i64 (w6.heap.size : Int))) (ps := []) rfl
      have HM8 := Lib.hid hm8
      have HMT8 := Lib.hid hmt8
      have HT7 := Lib.hid hT7
      have HWT7 := Lib.hid hWT7
      clear hm7 hm8 hmt8 hT7 hWT7 hHeld
      refine wpAnyH_ready (rs := [16]) (by kernel_rfl) (by simp) ?_
      refine AllReadyH.cons rfl (fun K1 hK1 => ?_) AllReadyH.nil
      go_simp
      have hg8 : Turns [bcm] (w6.alloc (.cells #[.string ⟨hov.toArray⟩, .int .i64 stv, .slice A5 inn.length c5, .slice A6 outl.length c6] 60)) W8 := Turns.of_grown HMT8.out.grown
      refine hK1.out _ _ ((HT7.out.mono (by simp)).trans hg8 (fun i hi => .inl hi)) (fun hHeld => ?_)
      clear hK1 K1 hHeld
      refine wpAnyH_done (by kernel_rfl) ?_ _
      have hT8 : Turns [bcm] W W8 := (HWT7.out.mono (by simp)).trans hg8 (fun i hi => .inl hi)
      have hnb : w6.heap.size ≠ bcm := by have := HB6.out.1; have := HB6.out.2; have := HT6.out.size; omega
      have hcc : W8.heap[w6.heap.size]? = some (.cells #[.string ⟨hov.toArray⟩, .int .i64 stv, .slice A5 inn.length c5, .slice A6 outl.length c6] 60 (0, 0)) := (hg8.block w6.heap.size (by simp) (fun hm => by rw [List.mem_singleton] at hm; exact hnb hm)).trans (heap_alloc_new w6 _)
      have hbw : bcm < W4.heap.size := by have := HB6.out.1; have := HB6.out.2; omega
      have ho5 : Owned W4.drew.heap.size W8 (.slice A5 inn.length c5) inn := HO5.out.turns (((HT56.out.trans (Turns.alloc (F := []) w6 (.cells #[.string ⟨hov.toArray⟩, .int .i64 stv, .slice A5 inn.length c5, .slice A6 outl.length c6] 60)) (by simp)).mono (by simp)).trans hg8 (fun i hi => .inl hi)) (fun g hg hm => by
        have h1 := (World.ownsRow.lt HO5.out g hg).1
        rw [List.mem_singleton] at hm
        change W4.heap.size ≤ g at h1
        omega)
      have ho6 : Owned w5.heap.size W8 (.slice A6 outl.length c6) outl := HO6.out.turns (((Turns.alloc (F := []) w6 (.cells #[.string ⟨hov.toArray⟩, .int .i64 stv, .slice A5 inn.length c5, .slice A6 outl.length c6] 60)).mono (by simp)).trans hg8 (fun i hi => .inl hi)) (fun g hg hm => by
        have h1 := (World.ownsRow.lt HO6.out g hg).1
        have := HT5.out.size
        rw [List.mem_singleton] at hm
        omega)
      refine ⟨hT8.keepsFrom HHB.out.1, hT8.block bl (Nat.lt_of_lt_of_le hbl2 HTLW.out.size) (fun hm => by rw [List.mem_singleton] at hm; exact HHB.out.2 hm), ?_⟩
      exact cpJ_step H.out.rise HHB.out.1 HTLW.out HOW.out HCW.out hx1 hx2 HKW.out HEQ.out hT8 HM8.out hcc (B1 := W4.drew.heap.size) (B2 := w5.heap.size) HT4.out.size ho5 (fun i hi => (HO5.out.foot i hi).2) HT5.out.size ho6 (fun i hi => (HO6.out.foot i hi).2) HT56.out.size
    case done =>
      rintro Dd ys W hDl rfl ⟨hT, D, ho, hc⟩ hK
      obtain ⟨L2, hL2⟩ := hc (List.prefix_refl _)
      have hTW : Turns [bcm] W3 W := (HTL.out.mono (by simp)).trans hT (fun i hi => .inl hi)
      have hs3b : s3 ≠ bcm := by have := HBCM.out; have := HSZ.out.1; have := HSZ.out.2.1; have := HNE.out; obtain ⟨n, D9, h9, -, -⟩ := HN2.out.hmap; have := h9.lt; have := HSZ.out.2.2.1; have := HSZ.out.2.2.2.1; have := lt_of_block HN2.out.head; omega
      have bR : Boxed W s3 25 (.pointer (some ⟨bc, 0, none⟩)) := (hTW.block s3 (lt_of_block HB33.out) (fun hm => hs3b (by rw [List.mem_singleton] at hm; exact hm))).trans HB33.out
      have hcr := bR.cell
      have hlen : (entsOf L).attach.length = L.length := by rw [List.length_attach, entsOf, List.length_map]
      have HDONE : Hid (NetAt w.heap.size W bc bcm most last L2 ∧ L2.map Prod.fst = L.map Prod.fst) := Lib.hid (by
        have hd := (hTW.block bc (lt_of_block HD3.out) (fun hm => by rw [List.mem_singleton] at hm; have := HBC.out; have := HBCM.out; omega)).trans HD3.out
        have hsame := hL2.same
        rw [hlen, List.take_of_length_le (Nat.le_refl _)] at hsame
        have hmem : ∀ x ∈ L2, ∃ y ∈ L, y.1 = x.1 := fun x hx => by
          have h1 : x.1 ∈ L.map Prod.fst := by rw [← hsame]; exact List.mem_map_of_mem hx
          obtain ⟨y, hy, he⟩ := List.mem_map.1 h1
          exact ⟨y, hy, he⟩
        have hwL : w.heap.size ≤ wL.heap.size := by have := HTL.out.size; have := HT3.out.size; have := HSZ.out.2.2.1; have := HSZ.out.1; have := HSZ.out.2.1; omega
        have hbcL : bc < wL.heap.size := Nat.lt_of_lt_of_le (lt_of_block HD3.out) HTL.out.size
        have hfoot := hL2.foot
        refine ⟨⟨hd, ⟨_, D, ho, ?_, hL2.keys⟩, fun x hx => ?_, ⟨by have := HBC.out; omega, by have := HBCM.out; omega, fun x hx => Nat.le_trans hwL (hL2.low x hx)⟩, ?_, fun x hx => ?_, ?_⟩, hsame⟩
        · rw [hlen]
          have h0 : 0 ≤ last := by obtain ⟨n, D9, -, h8, -⟩ := H.out.hmap; omega
          have := rise_lenC (a := 0) H.out.rise (fun x hx => (H.out.ids x hx).1) (b := last) (fun x hx => (H.out.ids x hx).2) (by simpa using h0)
          simpa using this
        · obtain ⟨c1, c2, c3⟩ := hL2.conns x hx
          exact ⟨c1, c2.low hwL, c3.low hwL⟩
        · rw [List.nodup_cons, List.nodup_cons]
          refine ⟨fun hm => ?_, fun hm => ?_, hL2.nodup⟩
          · rcases List.mem_cons.1 hm with h1 | h1
            · have := HBC.out; have := HBCM.out; omega
            · have := (hfoot bc h1).1; omega
          · have := (hfoot bcm hm).1; have := HHB.out.1; omega
        · obtain ⟨y, hy, he⟩ := hmem x hx
          rw [← he]
          exact H.out.ids y hy
        · have h1 := H.out.rise
          rw [← List.pairwise_map (f := Prod.fst) (R := fun x y : Cn => x.id < y.id)] at h1 ⊢
          rw [hsame]
          exact h1)
      have HBW : Hid (Below w.heap.size w W) := Lib.hid (by
        have h1 : Below w.heap.size w w1 := (HT0.out.trans HT1.out (by simp)).below (by simp) (Nat.le_refl _)
        have h2 : Below w.heap.size w W2 := h1.trans (HT2.out.below (by simp) h1.size)
        have h3 : Below w.heap.size w W3 := h2.trans (HT3.out.below (fun i hi => by rw [List.mem_singleton] at hi; have := HBC.out; omega) h2.size)
        exact h3.trans (hTW.below (fun i hi => by rw [List.mem_singleton] at hi; have := HBCM.out; omega) h3.size))
      have HFT := Lib.hid hL2.foot
      clear hT ho hc hL2
      gi_wp2
      go_wp2
      refine ⟨by simp, .inl ⟨_, _, rfl, run_takeDeferred hK, ?_⟩⟩
      have hTD : Turns [Dd] W (W.putObj Dd (.deferred none)) := Turns.of_grown (grownBy_putObj' W Dd (.deferred none))
      refine ⟨.pointer (some ⟨bc, 0, none⟩), ?_, bc, bcm, L2, rfl, HDONE.out.1.kept hTD (fun i hi hm => ?_), HDONE.out.2, HBW.out.trans (belowK_b (w := w) (Nat.le_refl _) _ Dd _ _ (by have := HTL.out.size; have := HT3.out.size; have := HSZ.out.2.2.1; have := HSZ.out.1; have := HSZ.out.2.1; omega) hK rfl rfl)⟩
      · simp [results, Try.f9, go_sem]
      · rw [List.mem_singleton] at hm
        rw [List.mem_cons, List.mem_cons] at hi
        rcases hi with hi | hi | hi
        · have := Nat.lt_of_lt_of_le (lt_of_block HD3.out) HTL.out.size
          omega
        · have := HHB.out.1
          omega
        · obtain ⟨-, C, t, f, h9⟩ := HFT.out i hi
          rw [hm, hK] at h9
          cases h9
    case stop =>
      rintro Dd c pre W hDl hSp hf hK
      exact hf.elim
end Go.Proofs.Ytlelemjmknbnaaa
