/- The document's one: a sample of a series that is there. -/
import Derived.Test.YtcjmieofmogeiaaStRef
import Derived.Deep.RegionLaw
namespace Go.Proofs.Ytcjmieofmogeiaa
open Go.RowKit

def OneR (B : Nat) (w : World) (rv : Nat) (v : Value) (most : Nat) (r : Sn × List One) (e : Ending) (w' : World) : Prop :=
  e = .returned r.1.val' ∧ ∃ v', RefS B w' rv v' most r.2 ∧ Turns (rv :: ownB v) w w' ∧ ∀ i ∈ ownB v', i ∈ ownB v ∨ w.heap.size ≤ i
theorem OneR.drew {B : Nat} {w : World} {rv : Nat} {v : Value} {most : Nat} {r : Sn × List One} {e : Ending} {W : World} (h : OneR B w rv v most r e W) : OneR B w rv v most r e W.drew := by
  obtain ⟨h1, v', h2, h3, h4⟩ := h
  exact ⟨h1, v', ⟨h2.head, h2.own.drew, h2.low, h2.ne⟩, ⟨h3.os, h3.tape, h3.output, h3.size, h3.block⟩, h4⟩
def zSnO : Obj := .cells #[.string ⟨#[]⟩, .int .i64 0, .int .i64 0, .bool false, .int .i64 0, .bool false, .int .i64 0] 71
def putN (W : World) (b : Nat) (s : Sn) : World := (((((((W.setCell ⟨b, 0, none⟩ (.string s.s.name)).setCell ⟨b, 1, none⟩ (.int .i64 s.s.val)).setCell ⟨b, 2, none⟩ (.int .i64 s.s.tm)).setCell ⟨b, 3, none⟩ (.bool s.s.cnt)).setCell ⟨b, 4, none⟩ (.int .i64 s.v)).setCell ⟨b, 5, none⟩ (.bool s.chain)).setCell ⟨b, 6, none⟩ (.int .i64 s.ahead))
def putL (W : World) (g k : Nat) (l : Lst) : World := ((((((W.setCell ⟨g, k * 7 + 1, none⟩ (.string l.s.name)).setCell ⟨g, k * 7 + 1 + 1, none⟩ (.int .i64 l.s.val)).setCell ⟨g, k * 7 + 1 + 2, none⟩ (.int .i64 l.s.tm)).setCell ⟨g, k * 7 + 1 + 3, none⟩ (.bool l.s.cnt)).setCell ⟨g, k * 7 + 1 + 4, none⟩ (.bool l.live)).setCell ⟨g, k * 7 + 1 + 5, none⟩ (.int .i64 l.own))
theorem turns_cell {F : List Nat} {W W1 : World} {b j : Nat} {u : Value} (h : Turns F W W1) (hb : b ∈ F) : Turns F W (W1.setCell ⟨b, j, none⟩ u) := h.trans (Turns.setCell (F := F) W1 _ _ hb) (fun _ hi => .inl hi)
theorem putN_turns (W : World) (b : Nat) (s : Sn) : Turns [b] W (putN W b s) := by
  unfold putN
  exact turns_cell (turns_cell (turns_cell (turns_cell (turns_cell (turns_cell (turns_cell (Turns.refl _ _) (by simp)) (by simp)) (by simp)) (by simp)) (by simp)) (by simp)) (by simp)
theorem putL_turns (W : World) (g k : Nat) (l : Lst) : Turns [g] W (putL W g k l) := by
  unfold putL
  exact turns_cell (turns_cell (turns_cell (turns_cell (turns_cell (turns_cell (Turns.refl _ _) (by simp)) (by simp)) (by simp)) (by simp)) (by simp)) (by simp)
theorem putN_full {W : World} {b : Nat} (s : Sn) (h : W.heap[b]? = some zSnO) : (putN W b s).heap[b]? = some (.cells #[.string s.s.name, .int .i64 s.s.val, .int .i64 s.s.tm, .bool s.s.cnt, .int .i64 s.v, .bool s.chain, .int .i64 s.ahead] 71 (0, 0)) := by
  unfold putN
  have h0 := heap_setCell_same W b 0 _ _ (.string s.s.name) h
  have h1 := heap_setCell_same _ b 1 _ _ (.int .i64 s.s.val) h0
  have h2 := heap_setCell_same _ b 2 _ _ (.int .i64 s.s.tm) h1
  have h3 := heap_setCell_same _ b 3 _ _ (.bool s.s.cnt) h2
  have h4 := heap_setCell_same _ b 4 _ _ (.int .i64 s.v) h3
  have h5 := heap_setCell_same _ b 5 _ _ (.bool s.chain) h4
  have h6 := heap_setCell_same _ b 6 _ _ (.int .i64 s.ahead) h5
  rw [h6]
  simp
section
variable {B : Nat} {w W : World} {rv : Nat} {v : Value} {most : Nat} {L : List One}
theorem RefS.putL (h : RefS B W rv v most L) {g k c : Nat} {y : One} (hv : v = .slice (some ⟨g, 0, none⟩) L.length c) (hy : L[k]? = some y) (l : Lst) : RefS B (putL W g k l) rv v most (L.set k ⟨y.name, l⟩) := by
  have ht := putL_turns W g k l
  have hg : rv ∉ [g] := fun hm => h.ne (by rw [hv]; simpa [ownB, Value.ownBlock] using hm)
  refine ⟨(ht.block rv h.lt hg).trans h.head, ?_, h.low, h.ne⟩
  have h3 := h.own
  rw [hv] at h3 ⊢
  unfold EK.Own at h3 ⊢
  rw [List.length_set, flatO_set L k y ⟨y.name, l⟩ hy rfl]
  unfold Go.Proofs.Ytcjmieofmogeiaa.putL
  exact own_cell (own_cell (own_cell (own_cell (own_cell (own_cell h3 _ _) _ _) _ _) _ _) _ _) _ _
theorem seen_struct : Try.prog.underlying 71 = some (.struct (Try.prog.fieldsOf 71)) := by kernel_rfl
/-- The walk's boxes: the sample's, the verdict's. -/
structure OneB (w : World) (x : Smp) (W : World) : Prop where
  xb : W.heap[w.heap.size]? = some (.cells #[.string x.name, .int .i64 x.val, .int .i64 x.tm, .bool x.cnt] 52)
  rb : W.heap[w.heap.size + 1]? = some zSnO
  old : Turns [] w W
  more : w.heap.size + 2 ≤ W.heap.size
theorem OneB.new (w : World) (x : Smp) : OneB w x ((w.alloc (.cells #[.string x.name, .int .i64 x.val, .int .i64 x.tm, .bool x.cnt] 52)).alloc (.cells #[.string ⟨#[]⟩, .int .i64 0, .int .i64 0, .bool false, .int .i64 0, .bool false, .int .i64 0] 71)) := by
  have t1 := Turns.alloc (F := []) w (.cells #[.string x.name, .int .i64 x.val, .int .i64 x.tm, .bool x.cnt] 52)
  have t2 := Turns.alloc (F := []) (w.alloc (.cells #[.string x.name, .int .i64 x.val, .int .i64 x.tm, .bool x.cnt] 52)) (.cells #[.string ⟨#[]⟩, .int .i64 0, .int .i64 0, .bool false, .int .i64 0, .bool false, .int .i64 0] 71)
  refine ⟨(t2.block _ (by simp) (by simp)).trans (heap_alloc_new w _), ?_, t1.trans t2 (by simp), by simp⟩
  have h := heap_alloc_new (w.alloc (.cells #[.string x.name, .int .i64 x.val, .int .i64 x.tm, .bool x.cnt] 52)) (.cells #[.string ⟨#[]⟩, .int .i64 0, .int .i64 0, .bool false, .int .i64 0, .bool false, .int .i64 0] 71)
  rwa [show (w.alloc (.cells #[.string x.name, .int .i64 x.val, .int .i64 x.tm, .bool x.cnt] 52)).heap.size = w.heap.size + 1 by simp] at h
theorem OneB.next {x : Smp} {W' : World} {F : List Nat} (h : OneB w x W) (ht : Turns F W W') (hF : ∀ i ∈ F, w.heap.size + 2 ≤ i) : OneB w x W' :=
  ⟨(ht.block _ (by have := h.more; omega) (fun hm => by have := hF _ hm; omega)).trans h.xb, (ht.block _ (by have := h.more; omega) (fun hm => by have := hF _ hm; omega)).trans h.rb, h.old.trans ht (fun i hi => .inr (by have := hF i hi; omega)), Nat.le_trans h.more ht.size⟩
theorem OneB.facts {x : Smp} (h : OneB w x W) : W.cell? ⟨w.heap.size, 0, none⟩ = some (.string x.name) ∧ W.cell? ⟨w.heap.size, 1, none⟩ = some (.int .i64 x.val) ∧ W.cell? ⟨w.heap.size, 2, none⟩ = some (.int .i64 x.tm) ∧ W.cell? ⟨w.heap.size, 3, none⟩ = some (.bool x.cnt) ∧ W.cell? ⟨w.heap.size + 1, 0, none⟩ = some (.string ⟨#[]⟩) ∧ W.cell? ⟨w.heap.size + 1, 1, none⟩ = some (.int .i64 0) ∧ W.cell? ⟨w.heap.size + 1, 2, none⟩ = some (.int .i64 0) ∧ W.cell? ⟨w.heap.size + 1, 3, none⟩ = some (.bool false) ∧ W.cell? ⟨w.heap.size + 1, 4, none⟩ = some (.int .i64 0) ∧ W.cell? ⟨w.heap.size + 1, 5, none⟩ = some (.bool false) ∧ W.cell? ⟨w.heap.size + 1, 6, none⟩ = some (.int .i64 0) ∧ ∀ j, W.frozen? ⟨w.heap.size + 1, j, none⟩ = false := by
  have h1 := h.xb
  have h2 := h.rb
  unfold zSnO at h2
  refine ⟨?_, ?_, ?_, ?_, ?_, ?_, ?_, ?_, ?_, ?_, ?_, ?_⟩
  all_goals first | (unfold World.cell?; simp only [h1, h2]; rfl) | (intro j; unfold World.frozen?; simp [h2])
/-- What is answered: the verdict's box is filled. -/
theorem one_fin (s : Sn) {v' : Value} {L' : List One} {F : List Nat} (hr : RefS B W rv v' most L') (hB : B ≤ w.heap.size) (hw : Turns F w W) (hF : ∀ i ∈ F, i = rv ∨ i ∈ ownB v) (hv : ∀ i ∈ ownB v', i ∈ ownB v ∨ w.heap.size + 2 ≤ i) (hlow : rv < w.heap.size) (hov : ∀ i ∈ ownB v, i < w.heap.size) :
    OneR B w rv v most (s, L') (.returned s.val') (putN W (w.heap.size + 1) s) := by
  have ht := putN_turns W (w.heap.size + 1) s
  have hne : ∀ i ∈ ownB v', i ∉ [w.heap.size + 1] := fun i hi hm => by
    rw [List.mem_singleton] at hm
    rcases hv i hi with h1 | h1
    · have := hov i h1; omega
    · omega
  refine ⟨rfl, v', hr.turns ht (by rw [List.mem_singleton]; omega) hne, ?_, fun i hi => (hv i hi).imp id fun h => by omega⟩
  exact (hw.mono (G := rv :: ownB v) (fun i hi => by rcases hF i hi with rfl | h; exact List.mem_cons_self .. ; exact List.mem_cons_of_mem _ h)).trans ht (fun i hi => .inr (by rw [List.mem_singleton] at hi; omega))
end
end Go.Proofs.Ytcjmieofmogeiaa

namespace Go.Proofs.Ytcjmieofmogeiaa
open Go.RowKit

section
variable {B : Nat} {w : World} {rv : Nat} {v : Value} {most : Nat} {L : List One}
theorem heap_drew {W : World} {b : Nat} {o : Option Obj} (h : W.heap[b]? = o) : W.drew.heap[b]? = o := h
theorem oneP_old {owner : Int} {x : Smp} {i : Nat} {y : One} (hi : ofN x.name L = some i) (hy : L[i]? = some y) : oneP most owner x L = if x.tm < y.l.s.tm then (⟨x, 2, false, 0⟩, L) else if x.tm = y.l.s.tm then (⟨x, 3, false, 0⟩, L) else (if y.l.live then ⟨x, 1, true, y.l.s.val⟩ else ⟨x, 1, false, 0⟩, L.set i ⟨y.name, nowL owner x⟩) := by
  unfold oneP
  rw [hi]
  simp only [hy]
set_option maxRecDepth 100000 in
set_option maxHeartbeats 4000000 in
theorem rone_old (h : RefS B w rv v most L) (hB : B ≤ w.heap.size) (hL : L.length ≤ 1000000) (owner : Int) (x : Smp) {i : Nat} (hi : ofN x.name L = some i) :
    Calls Try.prog 43 #[.pointer (some ⟨rv, 0, none⟩), .int .i64 owner, x.val'] w (OneR B w rv v most (oneP most owner x L)) := by
  obtain ⟨y, hy, hyn, hyb⟩ := ofN_some hi
  obtain ⟨g, c, hv, hg1, hg2, hg3, hc⟩ := h.at_ hy
  have H := Lib.hid h
  have HO : Hid (∀ W, Turns [] w W → Calls Try.prog 49 #[.pointer (some ⟨rv, 0, none⟩), .string x.name] W fun e w' => e = .returned (.int .i64 (i : Int)) ∧ W = w') := Lib.hid (fun W ht => by
    have := rofS_any (H.out.pre ht) hL x.name
    rw [hi] at this
    exact this)
  have HE := Lib.hid (oneP_old (most := most) (owner := owner) hi hy)
  have HV := Lib.hid hv
  have HY := Lib.hid hy
  have HBW := Lib.hid hB
  have HLW := Lib.hid (show rv < w.heap.size ∧ g < w.heap.size from ⟨h.lt, hg2⟩)
  have HOV := Lib.hid (show ∀ j ∈ ownB v, j < w.heap.size from fun j hj => (h.own.foot j hj).2)
  have HGO := Lib.hid (show g ∈ ownB v by rw [hv]; simp [ownB, Value.ownBlock])
  have HN := Lib.hid (OneB.new w x)
  have f2 : (i : Int) < (L.length : Int) := by have := (List.getElem?_eq_some_iff.1 hy).1; omega
  have f3 : (0 : Int) ≤ (i : Int) := by omega
  have f4 : decide ((i : Int) < 0) = false := by rw [decide_eq_false_iff_not]; omega
  have f5 : (L.length : Int) ≤ 1000000 := by omega
  obtain ⟨lv, hlv⟩ : ∃ b, b = y.l.live := ⟨_, rfl⟩
  rw [← hlv] at HE
  have HLV := Lib.hid hlv
  clear hlv
  have HF : Hid (∀ W, OneB w x W → W.cell? ⟨w.heap.size, 0, none⟩ = some (.string x.name) ∧ W.cell? ⟨w.heap.size, 1, none⟩ = some (.int .i64 x.val) ∧ W.cell? ⟨w.heap.size, 2, none⟩ = some (.int .i64 x.tm) ∧ W.cell? ⟨w.heap.size, 3, none⟩ = some (.bool x.cnt) ∧ W.cell? ⟨w.heap.size + 1, 0, none⟩ = some (.string ⟨#[]⟩) ∧ W.cell? ⟨w.heap.size + 1, 1, none⟩ = some (.int .i64 0) ∧ W.cell? ⟨w.heap.size + 1, 2, none⟩ = some (.int .i64 0) ∧ W.cell? ⟨w.heap.size + 1, 3, none⟩ = some (.bool false) ∧ W.cell? ⟨w.heap.size + 1, 4, none⟩ = some (.int .i64 0) ∧ W.cell? ⟨w.heap.size + 1, 5, none⟩ = some (.bool false) ∧ W.cell? ⟨w.heap.size + 1, 6, none⟩ = some (.int .i64 0) ∧ (∀ j, W.frozen? ⟨w.heap.size + 1, j, none⟩ = false) ∧ W.cell? ⟨rv, 0, none⟩ = some (.slice (some ⟨g, 0, none⟩) L.length c) ∧ W.cell? ⟨rv, 1, none⟩ = some (.int .i64 most) ∧ W.cell? ⟨g, i * 7 + 0, none⟩ = some (.string y.name) ∧ W.cell? ⟨g, i * 7 + 1, none⟩ = some (.string y.l.s.name) ∧ W.cell? ⟨g, i * 7 + 2, none⟩ = some (.int .i64 y.l.s.val) ∧ W.cell? ⟨g, i * 7 + 3, none⟩ = some (.int .i64 y.l.s.tm) ∧ W.cell? ⟨g, i * 7 + 4, none⟩ = some (.bool y.l.s.cnt) ∧ W.cell? ⟨g, i * 7 + 5, none⟩ = some (.bool lv) ∧ W.cell? ⟨g, i * 7 + 6, none⟩ = some (.int .i64 y.l.own) ∧ ∀ j, W.frozen? ⟨g, j, none⟩ = false) := Lib.hid (fun W hW => by
    have hr := H.out.pre hW.old
    obtain ⟨p0, p1, _⟩ := hr.cells
    obtain ⟨g', c', e, _, _, _, hc'⟩ := hr.at_ HY.out
    rw [HV.out] at e
    injection e with e1 _ e3
    injection e1 with e1
    injection e1 with e1
    subst e1 e3
    have ho := hr.own
    rw [HV.out] at p0 ho
    obtain ⟨x0, x1, x2, x3, z0, z1, z2, z3, z4, z5, z6, zf⟩ := hW.facts
    exact ⟨x0, x1, x2, x3, z0, z1, z2, z3, z4, z5, z6, zf, p0, p1, hc' 0 _ rfl, hc' 1 _ rfl, hc' 2 _ rfl, hc' 3 _ rfl, hc' 4 _ rfl, HLV.out ▸ hc' 5 _ rfl, hc' 6 _ rfl, own_frozen ho⟩)
  have HNW : Hid (∀ W, OneB w x W → OneB w x (W.alloc (.cells #[.string x.name, .int .i64 x.val, .int .i64 x.tm, .bool x.cnt, .bool true, .int .i64 owner] 88)) ∧ OneB w x ((W.alloc (.cells #[.string x.name, .int .i64 x.val, .int .i64 x.tm, .bool x.cnt, .bool true, .int .i64 owner] 88)).alloc (.cells #[.string y.l.s.name, .int .i64 y.l.s.val, .int .i64 y.l.s.tm, .bool y.l.s.cnt, .bool lv, .int .i64 y.l.own] 88))) := Lib.hid (fun W hW => ⟨hW.next (Turns.alloc (F := []) _ _) (by simp), (hW.next (Turns.alloc (F := []) _ _) (by simp)).next (Turns.alloc (F := []) _ _) (by simp)⟩)
  clear h hL hi hy hyn hyb hv hg1 hg2 hg3 hc hB
  unfold Smp.val'
  obtain ⟨q, hq⟩ : ∃ q, q = oneP most owner x L := ⟨_, rfl⟩
  rw [← hq] at HE ⊢
  clear hq
  go_enter Try.func43, Try.ntmps43
  go_upto_region 1 with fail
  generalize (w.alloc (.cells #[.string x.name, .int .i64 x.val, .int .i64 x.tm, .bool x.cnt] 52)).alloc (.cells #[.string ⟨#[]⟩, .int .i64 0, .int .i64 0, .bool false, .int .i64 0, .bool false, .int .i64 0] 71) = W0 at HN ⊢
  obtain ⟨x0, x1, x2, x3, z0, z1, z2, z3, z4, z5, z6, zf, r0, r1, y0, y1, y2, y3, y4, y5, y6, yf⟩ := HF.out _ HN.out
  go_wp2_with fail
  refine (HO.out _ HN.out.old).mono ?_
  rintro e w1 ⟨rfl, rfl⟩
  have HN1 := Lib.hid (HNW.out _ HN.out).1
  have HN2 := Lib.hid (HNW.out _ HN.out).2
  have HS0 := Lib.hid HN.out.more
  simp only [Nat.add_zero] at y0
  obtain ⟨a0, a1, a2, a3, u0, u1, u2, u3, u4, u5, u6, uf, s0, s1, b0, b1, b2, b3, b4, b5, b6, bf⟩ := HF.out _ HN1.out
  obtain ⟨d0, d1, d2, d3, t0, t1, t2, t3, t4, t5, t6, tf, k0, k1, m0, m1, m2, m3, m4, m5, m6, mf⟩ := HF.out _ HN2.out
  simp only [Nat.add_zero] at b0 m0
  rcases (show x.tm < y.l.s.tm ∨ x.tm = y.l.s.tm ∨ y.l.s.tm < x.tm by omega) with hlt | heq | hgt
  · have HQ := Lib.hid (show q = (⟨x, 2, false, 0⟩, L) by rw [HE.out, if_pos hlt])
    have hlt' : decide (x.tm < y.l.s.tm) = true := decide_eq_true hlt
    go_wp2
    refine bodyPost_ret (results_cell_row (P := Try.prog) rfl _ _ (w.heap.size + 1) 71 #[.string x.name, .int .i64 x.val, .int .i64 x.tm, .bool x.cnt, .int .i64 2, .bool false, .int .i64 0] (0, 0) _ rfl (putN_full ⟨x, 2, false, 0⟩ HN2.out.rb) seen_struct rfl (by kernel_rfl)) rfl ?_
    rw [HQ.out]
    exact one_fin (w := w) ⟨x, 2, false, 0⟩ (H.out.pre HN2.out.old) HBW.out HN2.out.old (by simp) (fun j hj => .inl hj) HLW.out.1 HOV.out
  · have HQ := Lib.hid (show q = (⟨x, 3, false, 0⟩, L) by rw [HE.out, if_neg (by omega), if_pos heq])
    have h1 : decide (x.tm < y.l.s.tm) = false := decide_eq_false (by omega)
    have h2 : (x.tm == y.l.s.tm) = true := by rw [beq_iff_eq]; exact heq
    clear heq
    go_wp2
    refine bodyPost_ret (results_cell_row (P := Try.prog) rfl _ _ (w.heap.size + 1) 71 #[.string x.name, .int .i64 x.val, .int .i64 x.tm, .bool x.cnt, .int .i64 3, .bool false, .int .i64 0] (0, 0) _ rfl (putN_full ⟨x, 3, false, 0⟩ HN2.out.rb) seen_struct rfl (by kernel_rfl)) rfl ?_
    rw [HQ.out]
    exact one_fin (w := w) ⟨x, 3, false, 0⟩ (H.out.pre HN2.out.old) HBW.out HN2.out.old (by simp) (fun j hj => .inl hj) HLW.out.1 HOV.out
  · have HQ := Lib.hid (show q = (if lv then ⟨x, 1, true, y.l.s.val⟩ else ⟨x, 1, false, 0⟩, L.set i ⟨y.name, nowL owner x⟩) by rw [HE.out, if_neg (by omega), if_neg (by omega)])
    have h1 : decide (x.tm < y.l.s.tm) = false := decide_eq_false (by omega)
    have h2 : (x.tm == y.l.s.tm) = false := by rw [beq_eq_false_iff_ne]; omega
    have e1 : ¬ g = w.heap.size := by have := HLW.out.2; omega
    have e2 : ¬ g = w.heap.size + 1 := by have := HLW.out.2; omega
    have e3 : ¬ w.heap.size = g := by have := HLW.out.2; omega
    have e4 : ¬ w.heap.size + 1 = g := by have := HLW.out.2; omega
    have e5 : ¬ g = W0.heap.size := by have := HLW.out.2; have := HS0.out; omega
    have e6 : ¬ g = W0.heap.size + 1 := by have := HLW.out.2; have := HS0.out; omega
    have e7 : ¬ W0.heap.size = g := by have := HLW.out.2; have := HS0.out; omega
    have e8 : ¬ W0.heap.size + 1 = g := by have := HLW.out.2; have := HS0.out; omega
    clear hgt
    cases lv with
    | true =>
      have HR3 := Lib.hid ((H.out.pre HN2.out.old).putL HV.out HY.out (nowL owner x))
      have HT3 := Lib.hid ((HN2.out.old.mono (G := [g]) (by simp)).trans (putL_turns _ g i (nowL owner x)) (fun j hj => .inl hj))
      have HB3 := Lib.hid (((putL_turns _ g i (nowL owner x)).block (w.heap.size + 1) (by have := HN2.out.more; omega) (by rw [List.mem_singleton]; exact e4)).trans HN2.out.rb)
      have HX := Lib.hid (OneR.drew (one_fin (w := w) ⟨x, 1, true, y.l.s.val⟩ HR3.out HBW.out HT3.out (fun j hj => by rw [List.mem_singleton] at hj; subst hj; exact .inr HGO.out) (fun j hj => .inl hj) HLW.out.1 HOV.out))
      have HFU := Lib.hid (heap_drew (putN_full ⟨x, 1, true, y.l.s.val⟩ HB3.out))
      unfold putN putL nowL at HX HFU
      simp only at HX HFU
      go_wp2_with fail
      go_region
      go_wp2
      refine bodyPost_ret (results_cell_row (P := Try.prog) rfl _ _ (w.heap.size + 1) 71 #[.string x.name, .int .i64 x.val, .int .i64 x.tm, .bool x.cnt, .int .i64 1, .bool true, .int .i64 y.l.s.val] (0, 0) _ rfl HFU.out seen_struct rfl (by kernel_rfl)) rfl ?_
      rw [HQ.out]
      exact HX.out
    | false =>
      have HR3 := Lib.hid ((H.out.pre HN2.out.old).putL HV.out HY.out (nowL owner x))
      have HT3 := Lib.hid ((HN2.out.old.mono (G := [g]) (by simp)).trans (putL_turns _ g i (nowL owner x)) (fun j hj => .inl hj))
      have HB3 := Lib.hid (((putL_turns _ g i (nowL owner x)).block (w.heap.size + 1) (by have := HN2.out.more; omega) (by rw [List.mem_singleton]; exact e4)).trans HN2.out.rb)
      have HX := Lib.hid (OneR.drew (one_fin (w := w) ⟨x, 1, false, 0⟩ HR3.out HBW.out HT3.out (fun j hj => by rw [List.mem_singleton] at hj; subst hj; exact .inr HGO.out) (fun j hj => .inl hj) HLW.out.1 HOV.out))
      have HFU := Lib.hid (heap_drew (putN_full ⟨x, 1, false, 0⟩ HB3.out))
      unfold putN putL nowL at HX HFU
      simp only at HX HFU
      go_wp2_with fail
      go_region
      go_wp2
      refine bodyPost_ret (results_cell_row (P := Try.prog) rfl _ _ (w.heap.size + 1) 71 #[.string x.name, .int .i64 x.val, .int .i64 x.tm, .bool x.cnt, .int .i64 1, .bool false, .int .i64 0] (0, 0) _ rfl HFU.out seen_struct rfl (by kernel_rfl)) rfl ?_
      rw [HQ.out]
      exact HX.out
end
end Go.Proofs.Ytcjmieofmogeiaa
