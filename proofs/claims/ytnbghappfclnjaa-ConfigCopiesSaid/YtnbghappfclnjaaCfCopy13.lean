/- The program's Copy of a config. -/
import Derived.Test.YtnbghappfclnjaaCfEachC13
import Derived.Test.YtnbghappfclnjaaCfCpP
namespace Go.Proofs.Ytnbghappfclnjaa
open Go.RowKit

/-- c is a's contents; its rows are its own, from block n on. -/
structure CopyR (n : Nat) (w : World) (a c : Cf) : Prop where
  same : SameC c a
  reads : c.Reads w w.heap.size
  rt : Row13 tK n w a.A c.A c.cap c.ts
  rb : Row13 bK n w a.B c.B c.cb c.by'
def CopyQ : Prop := ∀ (a : Cf) (W : World), a.Reads W W.heap.size → a.Few → Calls Try.prog 18 #[a.val] W fun e w' => (∃ c : Cf, e = .returned c.val ∧ CopyR W.heap.size w' a c) ∧ Below W.heap.size W w'
def Cf.withA (c : Cf) (A : Option Addr) (k : Nat) : Cf := { c with A := A, cap := k }
def Cf.withB (c : Cf) (B : Option Addr) (k : Nat) : Cf := { c with B := B, cb := k }
/-- A config's box and a zero one behind it are there; all ahead of them is as it was. -/
structure CopyB (w : World) (c : Cf) (W : World) : Prop where
  at_ : FullBox W w.heap.size c
  res : IsBox W (w.heap.size + 1)
  below : Below w.heap.size w W
  more : w.heap.size + 1 < W.heap.size
theorem CopyB.next {w W W' : World} {c : Cf} (h : CopyB w c W) (hb : Below W.heap.size W W') : CopyB w c W' :=
  ⟨(hb.block _ (Nat.lt_of_succ_lt h.more)).trans h.at_, (hb.block _ h.more).trans h.res, h.below.trans (hb.mono (Nat.le_of_lt (Nat.lt_of_succ_lt h.more))), Nat.lt_of_lt_of_le h.more hb.size⟩
theorem CopyB.new (w : World) (c : Cf) : CopyB w c ((w.alloc c.obj).alloc (.cells #[.slice none 0 0, .int .i64 0, .int .i64 0, .slice none 0 0, .int .i64 0, .int .i64 0, .int .i64 0, .int .i64 0, .int .i64 0, .int .i64 0, .int .i64 0] 38)) := by
  have hb := (Below.refl (w.alloc c.obj).heap.size _).alloc (Nat.le_refl _) (.cells #[.slice none 0 0, .int .i64 0, .int .i64 0, .slice none 0 0, .int .i64 0, .int .i64 0, .int .i64 0, .int .i64 0, .int .i64 0, .int .i64 0, .int .i64 0] 38)
  refine ⟨(hb.block _ (by simp)).trans (heap_alloc_new w _), ?_, Below.box hb, by simp⟩
  exact IsBox.new' (w.alloc c.obj) _ (by simp)
theorem CopyB.setA {w W : World} {c : Cf} (h : CopyB w c W) (A : Option Addr) (k : Nat) : CopyB w (c.withA A k) (W.setCell ⟨w.heap.size, 0, none⟩ (.slice A c.ts.length k)) := by
  refine ⟨?_, (Below.heap_setCell W ⟨w.heap.size, 0, none⟩ _ _ (by simp)).trans h.res, h.below.setCell (Nat.le_refl _) _, by simpa using h.more⟩
  have h0 := heap_setCell_same W w.heap.size 0 _ _ (.slice A c.ts.length k) h.at_
  unfold FullBox
  rw [h0]
  simp [Cf.withA]
theorem CopyB.setB {w W : World} {c : Cf} (h : CopyB w c W) (B : Option Addr) (k : Nat) : CopyB w (c.withB B k) (W.setCell ⟨w.heap.size, 3, none⟩ (.slice B c.by'.length k)) := by
  refine ⟨?_, (Below.heap_setCell W ⟨w.heap.size, 3, none⟩ _ _ (by simp)).trans h.res, h.below.setCell (Nat.le_refl _) _, by simpa using h.more⟩
  have h0 := heap_setCell_same W w.heap.size 3 _ _ (.slice B c.by'.length k) h.at_
  unfold FullBox
  rw [h0]
  simp [Cf.withB]
theorem CopyB.fro {w W : World} {c : Cf} (h : CopyB w c W) : (∀ j, W.frozen? ⟨w.heap.size, j, none⟩ = false) ∧ ∀ j, W.frozen? ⟨w.heap.size + 1, j, none⟩ = false := by
  refine ⟨fun j => ?_, fun j => ?_⟩
  · unfold World.frozen?
    rw [show W.heap[w.heap.size]? = _ from h.at_]
    simp
  · unfold World.frozen?
    rw [show W.heap[w.heap.size + 1]? = _ from h.res]
    simp
theorem CopyB.zero {w W : World} {c : Cf} (h : CopyB w c W) : W.cell? ⟨w.heap.size + 1, 0, none⟩ = some (.slice none 0 0) ∧ W.cell? ⟨w.heap.size + 1, 1, none⟩ = some (.int .i64 0) ∧ W.cell? ⟨w.heap.size + 1, 2, none⟩ = some (.int .i64 0) ∧ W.cell? ⟨w.heap.size + 1, 3, none⟩ = some (.slice none 0 0) ∧ W.cell? ⟨w.heap.size + 1, 4, none⟩ = some (.int .i64 0) ∧ W.cell? ⟨w.heap.size + 1, 5, none⟩ = some (.int .i64 0) ∧ W.cell? ⟨w.heap.size + 1, 6, none⟩ = some (.int .i64 0) ∧ W.cell? ⟨w.heap.size + 1, 7, none⟩ = some (.int .i64 0) ∧ W.cell? ⟨w.heap.size + 1, 8, none⟩ = some (.int .i64 0) ∧ W.cell? ⟨w.heap.size + 1, 9, none⟩ = some (.int .i64 0) ∧ W.cell? ⟨w.heap.size + 1, 10, none⟩ = some (.int .i64 0) := by
  have e := h.res
  unfold IsBox at e
  unfold World.cell?
  simp only [e]
  exact ⟨rfl, rfl, rfl, rfl, rfl, rfl, rfl, rfl, rfl, rfl, rfl⟩
theorem cf_struct' : Try.prog.underlying 38 = some (.struct (Try.prog.fieldsOf 38)) := by kernel_rfl
/-- Behind the copy: what is handed back. -/
theorem CopyB.out {w W : World} {c : Cf} (h : CopyB w c W) : FullBox (putBox W (w.heap.size + 1) c) (w.heap.size + 1) c ∧ Below w.heap.size w (putBox W (w.heap.size + 1) c) ∧ Turns [w.heap.size + 1] W (putBox W (w.heap.size + 1) c) :=
  ⟨put_full c h.res, h.below.trans (put_below W _ _ c (Nat.le_succ _)), ⟨(put_below W _ 0 c (Nat.zero_le _)).os, (put_below W _ 0 c (Nat.zero_le _)).tape, (put_below W _ 0 c (Nat.zero_le _)).output, by rw [put_size]; exact Nat.le_refl _, fun i _ hn => put_other W _ c i (fun e => hn (by simp [e]))⟩⟩
theorem row13_turns {α : Type} {K : EK α} {B : Nat} {W W' : World} {A A' : Option Addr} {k : Nat} {l : List α} {F : List Nat} (h : Row13 K B W A A' k l) (ht : Turns F W W') (hF : ∀ i ∈ F, i < B) : Row13 K B W' A A' k l :=
  ⟨h.nil, h.none_, h.le, h.few, h.full, fun a ha => by
    obtain ⟨g, e, h1, h2, h3⟩ := h.row a ha
    exact ⟨g, e, h1, Nat.lt_of_lt_of_le h2 ht.size, h3.turns ht (fun hm => by have := hF g hm; omega)⟩⟩
theorem row13_low {α : Type} {K : EK α} {B B' : Nat} {W : World} {A A' : Option Addr} {k : Nat} {l : List α} (h : Row13 K B W A A' k l) (hB : B' ≤ B) : Row13 K B' W A A' k l :=
  ⟨h.nil, h.none_, h.le, h.few, h.full, fun a ha => by
    obtain ⟨g, e, h1, h2, h3⟩ := h.row a ha
    exact ⟨g, e, by omega, h2, h3⟩⟩
theorem row13_own {α : Type} {K : EK α} {P : Program} (ok : K.Ok P) {B n : Nat} {W : World} {A A' : Option Addr} {k : Nat} {l : List α} (h : Row13 K B W A A' k l) (hn : n ≤ B) : (l = [] ∨ K.Own n W (.slice A' l.length k) l) ∧ K.Reads W W.heap.size A' l := by
  cases A' with
  | none => exact ⟨.inl (h.none_ rfl).1, .inl (h.none_ rfl).1⟩
  | some a =>
    obtain ⟨g, rfl, h1, h2, h3⟩ := h.row a rfl
    rcases h.full with hk | rfl
    · cases hk
    · exact ⟨.inr (h3.own ok (by omega) (by have := h.few; unfold maxLen; omega)), h3.reads h2⟩
set_option maxRecDepth 100000 in
set_option maxHeartbeats 8000000 in
theorem copy13_any : CopyQ := by
  intro a w hr hf
  have HT := Lib.hid (fun W (h : CopyB w a W) => eachT_any a.A a.ts a.cap W ((hr.ts.below h.below).more (Nat.le_of_lt (Nat.lt_of_succ_lt h.more))) (by have := hf.ts; omega) hf.sz)
  have HW := Lib.hid (fun W (h : Below w.heap.size w W) (hs : w.heap.size ≤ W.heap.size) => eachB_any a.B a.by' a.cb W ((hr.by'.below h).more hs) (by have := hf.by'; omega) hf.szb)
  have HQ0 := Lib.hid (CopyB.new w a)
  have HS0 := Lib.hid (show SameC a a from ⟨rfl, rfl, rfl, rfl, rfl, rfl, rfl, rfl, rfl, rfl, rfl, rfl⟩)
  clear hr hf
  unfold Cf.obj at HQ0
  unfold Cf.val
  go_enter Try.func18, Try.ntmps18
  go_upto_region 1 with fail
  generalize (w.alloc (.cells #[.slice a.A a.ts.length a.cap, .int .i64 a.win, .int .i64 a.lat, .slice a.B a.by'.length a.cb, .int .i64 a.ser, .int .i64 a.wins, .int .i64 a.que, .int .i64 a.con, .int .i64 a.bod, .int .i64 a.base, .int .i64 a.most] 38)).alloc (.cells #[.slice none 0 0, .int .i64 0, .int .i64 0, .slice none 0 0, .int .i64 0, .int .i64 0, .int .i64 0, .int .i64 0, .int .i64 0, .int .i64 0, .int .i64 0] 38) = w0 at HQ0 ⊢
  obtain ⟨a0, a1, a2, a3, a4, a5, a6, a7, a8, a9, a10⟩ := HQ0.out.at_.at'
  go_wp2_with fail
  refine (HT.out _ HQ0.out).mono ?_
  rintro e w1 ⟨⟨A', k1, rfl, hrow⟩, hb⟩
  have HQ1 := Lib.hid (HQ0.out.next hb)
  have HS1 := Lib.hid hb.size
  have HR1 := Lib.hid hrow
  have HM0 := Lib.hid HQ0.out.more
  clear hrow hb a0 a1 a2 a3 a4 a5 a6 a7 a8 a9 a10
  have HQ1s := Lib.hid (HQ1.out.setA A' k1)
  obtain ⟨a0, a1, a2, a3, a4, a5, a6, a7, a8, a9, a10⟩ := HQ1.out.at_.at'
  obtain ⟨f1, f2⟩ := HQ1.out.fro
  go_upto_region 2 with fail
  have HR1s := Lib.hid (row13_turns HR1.out (Turns.setCell (F := [w.heap.size]) w1 ⟨w.heap.size, 0, none⟩ (.slice A' a.ts.length k1) (by simp)) (fun i hi => by rw [List.mem_singleton] at hi; subst hi; have := HM0.out; omega))
  have HSz := Lib.hid (show (w1.setCell ⟨w.heap.size, 0, none⟩ (.slice A' a.ts.length k1)).heap.size = w1.heap.size by simp)
  generalize w1.setCell ⟨w.heap.size, 0, none⟩ (.slice A' a.ts.length k1) = w2 at HQ1s HR1s HSz ⊢
  clear a0 a1 a2 a3 a4 a5 a6 a7 a8 a9 a10 f1 f2
  obtain ⟨a0, a1, a2, a3, a4, a5, a6, a7, a8, a9, a10⟩ := HQ1s.out.at_.at'
  simp only [Cf.withA] at a0 a1 a2 a3 a4 a5 a6 a7 a8 a9 a10
  go_wp2_with fail
  refine (HW.out _ HQ1s.out.below (Nat.le_of_lt (Nat.lt_of_succ_lt HQ1s.out.more))).mono ?_
  rintro e w3 ⟨⟨B', k2, rfl, hrow⟩, hb⟩
  have HQ3 := Lib.hid (HQ1s.out.next hb)
  have HR2 := Lib.hid hrow
  have HR1t := Lib.hid (row13_turns HR1s.out (Turns.of_below hb (Nat.le_refl _)) (by simp))
  have HM2 := Lib.hid HQ1s.out.more
  clear hrow hb a0 a1 a2 a3 a4 a5 a6 a7 a8 a9 a10
  have HQ3s := Lib.hid (HQ3.out.setB B' k2)
  obtain ⟨a0, a1, a2, a3, a4, a5, a6, a7, a8, a9, a10⟩ := HQ3.out.at_.at'
  simp only [Cf.withA] at a0 a1 a2 a3 a4 a5 a6 a7 a8 a9 a10
  obtain ⟨f1, f2⟩ := HQ3.out.fro
  go_upto_region 3 with fail
  have HR1u := Lib.hid (row13_turns HR1t.out (Turns.setCell (F := [w.heap.size]) w3 ⟨w.heap.size, 3, none⟩ (.slice B' a.by'.length k2) (by simp)) (fun i hi => by rw [List.mem_singleton] at hi; subst hi; have := HM0.out; omega))
  have HR2u := Lib.hid (row13_turns HR2.out (Turns.setCell (F := [w.heap.size]) w3 ⟨w.heap.size, 3, none⟩ (.slice B' a.by'.length k2) (by simp)) (fun i hi => by rw [List.mem_singleton] at hi; subst hi; have := HM2.out; omega))
  change Hid (CopyB w _ (w3.setCell ⟨w.heap.size, 3, none⟩ (.slice B' a.by'.length k2))) at HQ3s
  generalize w3.setCell ⟨w.heap.size, 3, none⟩ (.slice B' a.by'.length k2) = w4 at HQ3s HR1u HR2u ⊢
  clear a0 a1 a2 a3 a4 a5 a6 a7 a8 a9 a10 f1 f2
  obtain ⟨a0, a1, a2, a3, a4, a5, a6, a7, a8, a9, a10⟩ := HQ3s.out.at_.at'
  simp only [Cf.withA, Cf.withB] at a0 a1 a2 a3 a4 a5 a6 a7 a8 a9 a10
  obtain ⟨z0, z1, z2, z3, z4, z5, z6, z7, z8, z9, z10⟩ := HQ3s.out.zero
  obtain ⟨f1, f2⟩ := HQ3s.out.fro
  go_wp2
  have HO := Lib.hid HQ3s.out.out
  unfold putBox at HO
  simp only [Cf.withA, Cf.withB] at HO
  refine bodyPost_ret (results_cell_row (P := Try.prog) rfl _ _ (w.heap.size + 1) 38 _ (0, 0) _ rfl HO.out.1 cf_struct' rfl (by kernel_rfl)) rfl ?_
  refine ⟨⟨(a.withA A' k1).withB B' k2, rfl, ?_⟩, HO.out.2.1⟩
  have r1 := row13_turns HR1u.out HO.out.2.2 (fun i hi => by rw [List.mem_singleton] at hi; subst hi; exact HM0.out)
  have r2 := row13_turns HR2u.out HO.out.2.2 (fun i hi => by rw [List.mem_singleton] at hi; subst hi; exact HM2.out)
  obtain ⟨_, d1⟩ := row13_own (n := w.heap.size) tOk r1 (by have := HM0.out; omega)
  obtain ⟨_, d2⟩ := row13_own (n := w.heap.size) bOk r2 (by have := HM2.out; omega)
  have e1 := HR1.out.le
  have e2 := HR1.out.few
  have e3 := HR2.out.le
  have e4 := HR2.out.few
  exact ⟨⟨rfl, rfl, HR2.out.nil, rfl, rfl, rfl, rfl, rfl, rfl, rfl, rfl, rfl⟩, ⟨d1, d2, HR2.out.none_, ⟨e1, by show k1 ≤ _; omega⟩, ⟨e3, by show k2 ≤ _; omega⟩⟩, row13_low r1 (by have := HM0.out; omega), row13_low r2 (by have := HM2.out; omega)⟩
end Go.Proofs.Ytnbghappfclnjaa
