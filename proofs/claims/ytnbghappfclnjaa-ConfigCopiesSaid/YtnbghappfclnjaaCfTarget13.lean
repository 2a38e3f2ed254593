/- The program's copyTarget. -/
import Derived.Test.YtnbghappfclnjaaCfMem
import Derived.Laws.OwnMore
import Derived.Test.YtnbghappfclnjaaCloneStr
import Derived.Test.YtnbghappfclnjaaCfBox
import Derived.Deep.RegionLaw
namespace Go.Proofs.Ytnbghappfclnjaa
open Go.RowKit

/-- Block g holds just l. -/
def FlatAt {α : Type} (K : EK α) (W : World) (g : Nat) (l : List α) : Prop := W.heap[g]? = some (.cells ⟨K.flat l⟩ K.te (0, 0))
section
variable {α : Type} {K : EK α} {P : Program} {W W' : World} {g : Nat} {l : List α}
theorem FlatAt.lt (h : FlatAt K W g l) : g < W.heap.size := lt_of_block h
theorem FlatAt.turns {F : List Nat} (h : FlatAt K W g l) (ht : Turns F W W') (hg : g ∉ F) : FlatAt K W' g l := (ht.block g h.lt hg).trans h
theorem FlatAt.below (h : FlatAt K W g l) (hb : Below W.heap.size W W') : FlatAt K W' g l := (hb.block g h.lt).trans h
theorem FlatAt.cell (h : FlatAt K W g l) {j : Nat} {u : Value} (hu : (K.flat l)[j]? = some u) : W.cell? ⟨g, j, none⟩ = some u := by
  unfold World.cell?
  simp only [show W.heap[g]? = _ from h]
  simpa using hu
theorem FlatAt.frozen (h : FlatAt K W g l) (j : Nat) : W.frozen? ⟨g, j, none⟩ = false := by
  unfold World.frozen?
  rw [show W.heap[g]? = _ from h]
  simp
theorem FlatAt.own (ok : K.Ok P) {B : Nat} (h : FlatAt K W g l) (hB : B ≤ g) (hl : l.length ≤ maxLen) : K.Own B W (.slice (some ⟨g, 0, none⟩) l.length l.length) l := by
  have hf := EK.flat_len ok l
  refine ⟨hf, .inr ⟨g, l.length, ⟨K.flat l⟩, rfl, hB, h, Nat.le_refl _, hl, hf, ?_⟩⟩
  show (K.flat l).take _ = _
  rw [← hf]
  exact List.take_length
theorem FlatAt.reads (h : FlatAt K W g l) {n : Nat} (hn : g < n) : K.Reads W n (some ⟨g, 0, none⟩) l :=
  .inr ⟨g, 0, rfl, hn, fun j u hu => by rw [Nat.zero_add]; exact h.cell hu⟩
/-- A row of the call's own that has no room behind holds just its list. -/
theorem FlatAt.of_own {B n : Nat} {xs : List Value} (h : W.ownsRow B K.te K.sz (.slice (some ⟨g, 0, none⟩) n n) n xs) (hx : xs = K.flat l) : FlatAt K W g l := by
  obtain ⟨hl, h2⟩ := h
  rcases h2 with ⟨e, _⟩ | ⟨g', cap, cur, e, _, hg, _, _, hc, ht⟩
  · cases e
  · cases e
    have e1 : cur.toList = xs := by rw [← ht]; exact (List.take_of_length_le (by simp [hc])).symm
    unfold FlatAt
    rw [hg, ← hx, ← e1]
end
theorem flatT_set : ∀ (l : List Tg) (k : Nat) (t : Tg), tK.flat (l.set k t) = (((((tK.flat l).set (k * 5) (.string t.job)).set (k * 5 + 1) (.string t.host)).set (k * 5 + 2) (.string t.path)).set (k * 5 + 3) (.int .i64 t.iv)).set (k * 5 + 4) (.int .i64 t.tm)
  | [], k, t => by simp [EK.flat]
  | y :: l, 0, t => by simp [EK.flat, tK]
  | y :: l, k + 1, t => by
    have ih := flatT_set l k t
    rw [List.set_cons_succ, EK.flat_cons, EK.flat_cons, ih]
    have e : (tK.enc y).length = 5 := rfl
    have a : ∀ (j : Nat) (m : List Value) (v : Value), (tK.enc y ++ m).set ((k + 1) * 5 + j) v = tK.enc y ++ m.set (k * 5 + j) v := fun j m v => by
      rw [List.set_append_right _ _ (by rw [e]; omega), e]
      congr 1
      rw [show (k + 1) * 5 + j - 5 = k * 5 + j by omega]
    have a0 := fun m v => a 0 m v
    simp only [Nat.add_zero] at a0
    rw [a0, a, a, a, a]
theorem flatB_set : ∀ (l : List ByteArray) (k : Nat) (s : ByteArray), bK.flat (l.set k s) = (bK.flat l).set k (.string s)
  | [], k, s => by simp [EK.flat]
  | y :: l, 0, s => by simp [EK.flat, bK]
  | y :: l, k + 1, s => by
    rw [List.set_cons_succ, EK.flat_cons, EK.flat_cons, flatB_set l k s]
    simp [bK]
def putT (W : World) (g k : Nat) (t : Tg) : World :=
  ((((W.setCell ⟨g, k * 5, none⟩ (.string t.job)).setCell ⟨g, k * 5 + 1, none⟩ (.string t.host)).setCell ⟨g, k * 5 + 2, none⟩ (.string t.path)).setCell ⟨g, k * 5 + 3, none⟩ (.int .i64 t.iv)).setCell ⟨g, k * 5 + 4, none⟩ (.int .i64 t.tm)
theorem FlatAt.putT {W : World} {g : Nat} {l : List Tg} (h : FlatAt tK W g l) (k : Nat) (t : Tg) : FlatAt tK (putT W g k t) g (l.set k t) := by
  unfold Go.Proofs.Ytnbghappfclnjaa.putT
  have h0 := heap_setCell_same W g (k * 5) _ _ (.string t.job) h
  have h1 := heap_setCell_same _ g (k * 5 + 1) _ _ (.string t.host) h0
  have h2 := heap_setCell_same _ g (k * 5 + 2) _ _ (.string t.path) h1
  have h3 := heap_setCell_same _ g (k * 5 + 3) _ _ (.int .i64 t.iv) h2
  have h4 := heap_setCell_same _ g (k * 5 + 4) _ _ (.int .i64 t.tm) h3
  unfold FlatAt
  rw [h4, flatT_set]
  simp
theorem FlatAt.putB {W : World} {g : Nat} {l : List ByteArray} (h : FlatAt bK W g l) (k : Nat) (s : ByteArray) : FlatAt bK (W.setCell ⟨g, k, none⟩ (.string s)) g (l.set k s) := by
  have h0 := heap_setCell_same W g k _ _ (.string s) h
  unfold FlatAt
  rw [h0, flatB_set]
  simp
theorem putT_turns (W : World) (g k : Nat) (t : Tg) : Turns [g] W (putT W g k t) := by
  unfold putT
  exact ((((Turns.setCell W _ _ (by simp)).trans (Turns.setCell _ _ _ (by simp)) (fun i hi => .inl hi)).trans (Turns.setCell _ _ _ (by simp)) (fun i hi => .inl hi)).trans (Turns.setCell _ _ _ (by simp)) (fun i hi => .inl hi)).trans (Turns.setCell (F := [g]) _ _ _ (by simp)) (fun i hi => .inl hi)
def tg00 : Tg := ⟨⟨#[]⟩, ⟨#[]⟩, ⟨#[]⟩, 0, 0⟩
theorem zeroT_flat (n : Nat) : (madeCells tK.z.cells (n * 5)).toList = tK.flat (List.replicate n tg00) := by
  apply List.ext_getElem?
  intro i
  have hl : (tK.flat (List.replicate n tg00)).length = n * 5 := by rw [EK.flat_len tOk]; simp [tK]
  have hm : (madeCells tK.z.cells (n * 5)).toList.length = n * 5 := by simp [size_madeCells]
  rcases Nat.lt_or_ge i (n * 5) with h | h
  · have hq : i / 5 < n := by omega
    have hd : i / 5 * 5 + i % 5 = i := by omega
    have hr : i % 5 < 5 := Nat.mod_lt _ (by omega)
    have hx : (List.replicate n tg00)[i / 5]? = some tg00 := by simp [hq]
    obtain ⟨u, hu⟩ : ∃ u, (tK.enc tg00)[i % 5]? = some u := ⟨_, List.getElem?_eq_getElem (by simpa [tK] using hr)⟩
    have h2 := EK.flat_at tOk hx (i % 5) u hu
    have e : tK.sz = 5 := rfl
    rw [e, hd] at h2
    rw [h2]
    unfold madeCells
    simp only [Array.toList_map, Array.toList_range, List.getElem?_map]
    rw [List.getElem?_range h]
    have z5 : tK.z.cells = #[.string ⟨#[]⟩, .string ⟨#[]⟩, .string ⟨#[]⟩, .int .i64 0, .int .i64 0] := rfl
    rw [z5]
    have en : tK.enc tg00 = [.string ⟨#[]⟩, .string ⟨#[]⟩, .string ⟨#[]⟩, .int .i64 0, .int .i64 0] := rfl
    rw [en] at hu
    simp only [Option.map_some, List.size_toArray, List.length_cons, List.length_nil]
    match hh : i % 5, hr with
    | 0, _ => rw [hh] at hu; simpa using hu
    | 1, _ => rw [hh] at hu; simpa using hu
    | 2, _ => rw [hh] at hu; simpa using hu
    | 3, _ => rw [hh] at hu; simpa using hu
    | 4, _ => rw [hh] at hu; simpa using hu
    | k + 5, h5 => omega
  · rw [List.getElem?_eq_none (by rw [hm]; exact h), List.getElem?_eq_none (by rw [hl]; exact h)]
theorem zeroB_flat (n : Nat) : (madeCells bK.z.cells (n * 1)).toList = bK.flat (List.replicate n ⟨#[]⟩) := by
  rw [show bK.z.cells = #[.string ⟨#[]⟩] from rfl, Nat.mul_one, toList_madeCells_one]
  induction n with
  | zero => rfl
  | succ n ih => rw [List.replicate_succ, List.replicate_succ, EK.flat_cons, ← ih]; rfl
theorem run_makeT (w : World) (n : Nat) (hn : n ≤ 1000) : ∃ w', (Instr.makeSlice 35 (.int .i64 (n : Int)) (.int .i64 (n : Int))).run Try.prog w = .ok (.slice (some ⟨w.heap.size, 0, none⟩) n n) w' ∧ FlatAt tK w' w.heap.size (List.replicate n tg00) ∧ Turns [] w w' := by
  obtain ⟨i0, hi, hz0, hz1, hz2⟩ := info_parts tOk.inf
  obtain ⟨w', hrun, hown, hg⟩ := run_make_full (P := Try.prog) w w.heap.size 35 23 i0 _ 5 Try.underlying35 hi hz0 hz1 .i64 .i64 n (by rw [hz2]; show 64 * n ≤ _; omega) (by unfold maxLen; omega) (Nat.le_refl _)
  exact ⟨w', hrun, FlatAt.of_own (K := tK) hown (zeroT_flat n), Turns.of_grown hg⟩
theorem run_makeB (w : World) (n : Nat) (hn : n ≤ 1000) : ∃ w', (Instr.makeSlice 36 (.int .i64 (n : Int)) (.int .i64 (n : Int))).run Try.prog w = .ok (.slice (some ⟨w.heap.size, 0, none⟩) n n) w' ∧ FlatAt bK w' w.heap.size (List.replicate n ⟨#[]⟩) ∧ Turns [] w w' := by
  obtain ⟨i0, hi, hz0, hz1, hz2⟩ := info_parts bOk.inf
  obtain ⟨w', hrun, hown, hg⟩ := run_make_full (P := Try.prog) w w.heap.size 36 9 i0 _ 1 Try.underlying36 hi hz0 hz1 .i64 .i64 n (by rw [hz2]; show 16 * n ≤ _; omega) (by unfold maxLen; omega) (Nat.le_refl _)
  exact ⟨w', hrun, FlatAt.of_own (K := bK) hown (zeroB_flat n), Turns.of_grown hg⟩
end Go.Proofs.Ytnbghappfclnjaa

namespace Go.Proofs.Ytnbghappfclnjaa
open Go.RowKit

/-- A target's box and a zero one behind it are there; all ahead of them is as it was. -/
structure TwoT (w : World) (t : Tg) (W : World) : Prop where
  at_ : W.heap[w.heap.size]? = some (.cells #[.string t.job, .string t.host, .string t.path, .int .i64 t.iv, .int .i64 t.tm] 23)
  res : W.heap[w.heap.size + 1]? = some (.cells #[.string ⟨#[]⟩, .string ⟨#[]⟩, .string ⟨#[]⟩, .int .i64 0, .int .i64 0] 23)
  below : Below w.heap.size w W
  more : w.heap.size + 1 < W.heap.size
theorem TwoT.next {w W W' : World} {t : Tg} (h : TwoT w t W) (hb : Below W.heap.size W W') : TwoT w t W' :=
  ⟨(hb.block _ (Nat.lt_of_succ_lt h.more)).trans h.at_, (hb.block _ h.more).trans h.res, h.below.trans (hb.mono (Nat.le_of_lt (Nat.lt_of_succ_lt h.more))), Nat.lt_of_lt_of_le h.more hb.size⟩
theorem TwoT.drew {w W : World} {t : Tg} (h : TwoT w t W) : TwoT w t W.drew := ⟨h.at_, h.res, h.below.drew, h.more⟩
theorem TwoT.new (w : World) (t : Tg) : TwoT w t ((w.alloc (.cells #[.string t.job, .string t.host, .string t.path, .int .i64 t.iv, .int .i64 t.tm] 23)).alloc (.cells #[.string ⟨#[]⟩, .string ⟨#[]⟩, .string ⟨#[]⟩, .int .i64 0, .int .i64 0] 23)) := by
  have hb := (Below.refl (w.alloc (.cells #[.string t.job, .string t.host, .string t.path, .int .i64 t.iv, .int .i64 t.tm] 23)).heap.size _).alloc (Nat.le_refl _) (.cells #[.string ⟨#[]⟩, .string ⟨#[]⟩, .string ⟨#[]⟩, .int .i64 0, .int .i64 0] 23)
  refine ⟨(hb.block _ (by simp)).trans (heap_alloc_new w _), ?_, Below.box hb, by simp⟩
  have := heap_alloc_new (w.alloc (.cells #[.string t.job, .string t.host, .string t.path, .int .i64 t.iv, .int .i64 t.tm] 23)) (.cells #[.string ⟨#[]⟩, .string ⟨#[]⟩, .string ⟨#[]⟩, .int .i64 0, .int .i64 0] 23)
  rwa [show (w.alloc (.cells #[.string t.job, .string t.host, .string t.path, .int .i64 t.iv, .int .i64 t.tm] 23)).heap.size = w.heap.size + 1 by simp] at this
theorem TwoT.facts {w W : World} {t : Tg} (h : TwoT w t W) : W.cell? ⟨w.heap.size, 0, none⟩ = some (.string t.job) ∧ W.cell? ⟨w.heap.size, 1, none⟩ = some (.string t.host) ∧ W.cell? ⟨w.heap.size, 2, none⟩ = some (.string t.path) ∧ W.cell? ⟨w.heap.size, 3, none⟩ = some (.int .i64 t.iv) ∧ W.cell? ⟨w.heap.size, 4, none⟩ = some (.int .i64 t.tm) ∧
    W.cell? ⟨w.heap.size + 1, 0, none⟩ = some (.string ⟨#[]⟩) ∧ W.cell? ⟨w.heap.size + 1, 1, none⟩ = some (.string ⟨#[]⟩) ∧ W.cell? ⟨w.heap.size + 1, 2, none⟩ = some (.string ⟨#[]⟩) ∧ W.cell? ⟨w.heap.size + 1, 3, none⟩ = some (.int .i64 0) ∧ W.cell? ⟨w.heap.size + 1, 4, none⟩ = some (.int .i64 0) ∧
    (∀ j, W.frozen? ⟨w.heap.size, j, none⟩ = false) ∧ ∀ j, W.frozen? ⟨w.heap.size + 1, j, none⟩ = false := by
  obtain ⟨h1, h2, _, _⟩ := h
  refine ⟨?_, ?_, ?_, ?_, ?_, ?_, ?_, ?_, ?_, ?_, ?_, ?_⟩
  all_goals first | (unfold World.cell?; simp only [h1, h2]; rfl) | (intro j; unfold World.frozen?; simp [h1, h2])
theorem TwoT.call {w : World} {t : Tg} {f : Nat} {args : Array Value} {v : Ending} (h : ∀ W, Calls Try.prog f args W fun e w' => e = v ∧ Below W.heap.size W w') (W : World) (hq : Hid (TwoT w t W)) : Calls Try.prog f args W fun e w' => e = v ∧ Hid (TwoT w t w') :=
  (h W).mono fun _ _ ⟨h1, h2⟩ => ⟨h1, hq.out.next h2⟩
def outT (W : World) (b : Nat) (t : Tg) : World :=
  (((((((W.setCell ⟨b, 0, none⟩ (.string t.job)).setCell ⟨b, 1, none⟩ (.string t.host)).setCell ⟨b, 2, none⟩ (.string t.path)).setCell ⟨b + 1, 0, none⟩ (.string t.job)).setCell ⟨b + 1, 1, none⟩ (.string t.host)).setCell ⟨b + 1, 2, none⟩ (.string t.path)).setCell ⟨b + 1, 3, none⟩ (.int .i64 t.iv)).setCell ⟨b + 1, 4, none⟩ (.int .i64 t.tm)
theorem TwoT.end_ {w W : World} {t : Tg} (h : TwoT w t W) : (outT W w.heap.size t).heap[w.heap.size + 1]? = some (.cells #[.string t.job, .string t.host, .string t.path, .int .i64 t.iv, .int .i64 t.tm] 23 (0, 0)) ∧ Below w.heap.size w (outT W w.heap.size t) := by
  unfold outT
  refine ⟨?_, (((((((h.below.setCell (Nat.le_refl _) _).setCell (Nat.le_refl _) _).setCell (Nat.le_refl _) _).setCell (Nat.le_succ _) _).setCell (Nat.le_succ _) _).setCell (Nat.le_succ _) _).setCell (Nat.le_succ _) _).setCell (Nat.le_succ _) _⟩
  have o : ∀ (V : World) (j : Nat) (v : Value), (V.setCell ⟨w.heap.size, j, none⟩ v).heap[w.heap.size + 1]? = V.heap[w.heap.size + 1]? := fun V j v => Below.heap_setCell V ⟨w.heap.size, j, none⟩ v _ (by simp)
  have h0 := (o _ 2 (.string t.path)).trans ((o _ 1 (.string t.host)).trans ((o W 0 (.string t.job)).trans h.res))
  have h1 := heap_setCell_same _ _ 0 _ _ (.string t.job) h0
  have h2 := heap_setCell_same _ _ 1 _ _ (.string t.host) h1
  have h3 := heap_setCell_same _ _ 2 _ _ (.string t.path) h2
  have h4 := heap_setCell_same _ _ 3 _ _ (.int .i64 t.iv) h3
  have h5 := heap_setCell_same _ _ 4 _ _ (.int .i64 t.tm) h4
  rw [h5]
  simp
theorem t_struct : Try.prog.underlying 23 = some (.struct (Try.prog.fieldsOf 23)) := by kernel_rfl
set_option maxRecDepth 100000 in
set_option maxHeartbeats 4000000 in
theorem copyT_any (t : Tg) (w : World) (hs : t.size ≤ 6000) :
    Calls Try.prog 29 #[t.val] w fun e w' => e = .returned t.val ∧ Below w.heap.size w w' := by
  unfold Tg.size at hs
  have HC1 := Lib.hid (TwoT.call (w := w) (t := t) (fun W => clone_str t.job W (by omega)))
  have HC2 := Lib.hid (TwoT.call (w := w) (t := t) (fun W => clone_str t.host W (by omega)))
  have HC3 := Lib.hid (TwoT.call (w := w) (t := t) (fun W => clone_str t.path W (by omega)))
  have HSK := Lib.hid (fun (W : World) (h : Hid (TwoT w t W)) => h.out.facts)
  have HQ0 := Lib.hid (TwoT.new w t)
  clear hs
  obtain ⟨j, h, p, iv, tm⟩ := t
  unfold Tg.val
  simp only at *
  go_enter Try.func29, Try.ntmps29
  go_upto_region 1 with fail
  generalize (w.alloc (.cells #[.string j, .string h, .string p, .int .i64 iv, .int .i64 tm] 23)).alloc (.cells #[.string ⟨#[]⟩, .string ⟨#[]⟩, .string ⟨#[]⟩, .int .i64 0, .int .i64 0] 23) = w0 at HQ0 ⊢
  have HQd : Hid (TwoT w ⟨j, h, p, iv, tm⟩ w0.drew) := Lib.hid HQ0.out.drew
  obtain ⟨a0, a1, a2, a3, a4, r0, r1, r2, r3, r4, f1, f2⟩ := HSK.out _ HQ0
  go_region_law ((first | (go_simp; go_at_call_of 23 (Value.string j); refine (HC1.out _ (by assumption)).mono ?_; rintro e w2 ⟨rfl, hq2⟩; obtain ⟨c0, c1, c2, c3, c4, s0, s1, s2, s3, s4, g1, g2⟩ := HSK.out _ hq2) | (go_simp; go_at_call_of 23 (Value.string h); refine (HC2.out _ (by assumption)).mono ?_; rintro e w3 ⟨rfl, hq3⟩; obtain ⟨d0, d1, d2, d3, d4, t0, t1, t2, t3, t4, k1, k2⟩ := HSK.out _ hq3) | (go_simp; go_at_call 23; refine (HC3.out _ (by assumption)).mono ?_; rintro e w4 ⟨rfl, HQ4⟩; obtain ⟨e0, e1, e2, e3, e4, u0, u1, u2, u3, u4, m1, m2⟩ := HSK.out _ HQ4)))
  all_goals
    go_wp2
    have HE := Lib.hid (TwoT.end_ (HQ4.out))
    refine bodyPost_ret (results_cell_row (P := Try.prog) rfl _ _ (w.heap.size + 1) 23 #[.string j, .string h, .string p, .int .i64 iv, .int .i64 tm] (0, 0) _ rfl HE.out.1 t_struct rfl (by kernel_rfl)) rfl ?_
    exact ⟨rfl, HE.out.2⟩
end Go.Proofs.Ytnbghappfclnjaa
