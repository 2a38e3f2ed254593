/- ConfigCopies: both copies side by side, while the first one's rows are written. -/
import Derived.Test.YtnbghappfclnjaaCfReg5
namespace Go.Proofs.Ytnbghappfclnjaa
open Go.RowKit

theorem flatT_iv : ∀ (l : List Tg) (k : Nat) (t : Tg) (x : Int), l[k]? = some t → tK.flat (l.set k { t with iv := x }) = (tK.flat l).set (k * 5 + 3) (.int .i64 x)
  | [], k, t, x, h => by simp at h
  | y :: l, 0, t, x, h => by
    simp at h
    subst h
    simp [EK.flat, tK]
  | y :: l, k + 1, t, x, h => by
    rw [List.getElem?_cons_succ] at h
    have ih := flatT_iv l k t x h
    rw [List.set_cons_succ, EK.flat_cons, EK.flat_cons, ih]
    have e : (tK.enc y).length = 5 := rfl
    rw [List.set_append_right _ _ (by rw [e]; omega), e]
    congr 2
    omega
theorem FlatAt.putIv {W : World} {g : Nat} {l : List Tg} (h : FlatAt tK W g l) {k : Nat} {t : Tg} (ht : l[k]? = some t) (x : Int) : FlatAt tK (W.setCell ⟨g, k * 5 + 3, none⟩ (.int .i64 x)) g (l.set k { t with iv := x }) := by
  have h0 := heap_setCell_same W g (k * 5 + 3) _ _ (.int .i64 x) h
  unfold FlatAt
  rw [h0, flatT_iv l k t x ht]
  simp
structure Cst (w : World) (a b c d : Cf) (n1 m1 n2 m2 b5 b6 kB : Nat) (X : World) : Prop where
  box : DBox w a b X
  f5 : FullBox X b5 c
  f6 : FullBox X b6 d
  rd : RowsQ n2 m2 a d X
  ct : ∀ ad, c.A = some ad → ∃ g l', ad = ⟨g, 0, none⟩ ∧ n1 ≤ g ∧ g < m1 ∧ l'.length = c.ts.length ∧ FlatAt tK X g l'
  cb : ∀ ad, c.B = some ad → ∃ g l', ad = ⟨g, 0, none⟩ ∧ n1 ≤ g ∧ g < m1 ∧ l'.length = c.by'.length ∧ FlatAt bK X g l' ∧ ∀ i s, kB ≤ i → l'[i]? = some s → s.size ≤ 6000
  nA : c.A = none → c.ts = []
  nB : c.B = none → c.by' = []
  num : w.heap.size + 2 ≤ n1 ∧ m1 ≤ n2 ∧ m2 ≤ X.heap.size
  o5 : w.heap.size + 2 ≤ b5 ∧ (b5 < n1 ∨ m1 ≤ b5)
  o6 : w.heap.size + 2 ≤ b6 ∧ (b6 < n1 ∨ m1 ≤ b6)
  few : c.ts.length ≤ c.cap ∧ c.cap ≤ 1000 ∧ c.by'.length ≤ c.cb ∧ c.cb ≤ 1000
section
variable {w : World} {a b c d : Cf} {n1 m1 n2 m2 b5 b6 kB : Nat} {X X' : World}
theorem Cst.of {x5 x6 x32 x33 x34 x35 : Value} (h : R5 w a b true true true true true true true true x5 x6 x32 x33 x34 x35 c d n1 m1 n2 m2 b5 b6 X) (hf : a.Few) : Cst w a b c d n1 m1 n2 m2 b5 b6 0 X := by
  obtain ⟨r1, q1, q2, q3⟩ := h.r1 rfl
  obtain ⟨_, r3, q4, q5, q6⟩ := h.r3 rfl
  have h5 := h.b5q rfl
  have h6 := h.b6q rfl
  refine ⟨h.box, h5.full rfl, h6.full rfl, r3, fun ad e => ?_, fun ad e => ?_, r1.none_, fun e => (r1.nil e).1, ⟨q1, q4, q6⟩, ⟨h5.low, h5.out1 rfl⟩, ⟨h6.low, h6.out1 rfl⟩, ⟨r1.tlen.1, r1.tlen.2, r1.blen.1, r1.blen.2⟩⟩
  · obtain ⟨g, e1, g1, g2, g3⟩ := r1.ts ad e
    exact ⟨g, c.ts, e1, g1, g2, rfl, g3⟩
  · obtain ⟨g, e1, g1, g2, g3⟩ := r1.by' ad e
    exact ⟨g, c.by', e1, g1, g2, rfl, g3, fun i s _ hs => hf.szb s (by rw [← r1.same.2.1]; exact List.mem_of_getElem? hs)⟩
theorem Cst.next (h : Cst w a b c d n1 m1 n2 m2 b5 b6 kB X) (hb : Below X.heap.size X X') : Cst w a b c d n1 m1 n2 m2 b5 b6 kB X' := by
  have ht : Turns [] X X' := Turns.of_below hb (Nat.le_refl _)
  exact { h with
    box := h.box.next hb
    f5 := h.f5.turns ht (by simp)
    f6 := h.f6.turns ht (by simp)
    rd := h.rd.turns ht (by simp)
    ct := fun ad e => by
      obtain ⟨g, l', e1, g1, g2, g3, g4⟩ := h.ct ad e
      exact ⟨g, l', e1, g1, g2, g3, g4.turns ht (by simp)⟩
    cb := fun ad e => by
      obtain ⟨g, l', e1, g1, g2, g3, g4, g5⟩ := h.cb ad e
      exact ⟨g, l', e1, g1, g2, g3, g4.turns ht (by simp), g5⟩
    num := ⟨h.num.1, h.num.2.1, Nat.le_trans h.num.2.2 ht.size⟩ }
theorem DBox.turns {g : Nat} (h : DBox w a b X) (ht : Turns [g] X X') (hg : w.heap.size + 2 ≤ g) : DBox w a b X' :=
  ⟨h.fst.keep fun p hp => World.cell?_of_block (ht.block _ (by rw [hp]; have := h.more; omega) (by rw [hp, List.mem_singleton]; omega)), h.snd.keep fun p hp => World.cell?_of_block (ht.block _ (by rw [hp]; exact h.more) (by rw [hp, List.mem_singleton]; omega)), h.below.trans (ht.below (fun i hi => by rw [List.mem_singleton] at hi; omega) (by have := h.more; omega)), Nat.lt_of_lt_of_le h.more ht.size⟩
theorem flat_apart {α β : Type} {K : EK α} {K' : EK β} {g g' : Nat} {l : List α} {l' : List β} (h : FlatAt K X g l) (h' : FlatAt K' X g' l') (hne : K.te ≠ K'.te) : g ≠ g' := by
  rintro rfl
  have e := (show X.heap[g]? = _ from h).symm.trans h'
  injection e with e
  injection e with _ e _
  exact hne e
theorem tb_ne : tK.te ≠ bK.te := by rw [show tK.te = 23 from rfl, show bK.te = 9 from rfl]; decide
theorem Cst.setT (h : Cst w a b c d n1 m1 n2 m2 b5 b6 kB X) {g k : Nat} {l' : List Tg} {t : Tg} (hA : c.A = some ⟨g, 0, none⟩) (hg : n1 ≤ g ∧ g < m1) (hl : l'.length = c.ts.length) (hF : FlatAt tK X g l') (ht : l'[k]? = some t) (x : Int) :
    Cst w a b c d n1 m1 n2 m2 b5 b6 kB (X.setCell ⟨g, k * 5 + 3, none⟩ (.int .i64 x)) := by
  have tt : Turns [g] X (X.setCell ⟨g, k * 5 + 3, none⟩ (.int .i64 x)) := Turns.setCell X _ _ (by simp)
  have hn := h.num
  have h5 := h.o5
  have h6 := h.o6
  exact { h with
    box := h.box.turns tt (by omega)
    f5 := h.f5.turns tt (by rw [List.mem_singleton]; omega)
    f6 := h.f6.turns tt (by rw [List.mem_singleton]; omega)
    rd := h.rd.turns tt (fun i hi => by rw [List.mem_singleton] at hi; omega)
    ct := fun ad e => by
      rw [hA] at e
      cases e
      exact ⟨g, _, rfl, hg.1, hg.2, by rw [List.length_set]; exact hl, hF.putIv ht x⟩
    cb := fun ad e => by
      obtain ⟨g', l2, e1, g1, g2, g3, g4, g5⟩ := h.cb ad e
      exact ⟨g', l2, e1, g1, g2, g3, g4.turns tt (by rw [List.mem_singleton]; exact fun e => flat_apart hF g4 tb_ne e.symm), g5⟩
    num := ⟨hn.1, hn.2.1, by simpa using hn.2.2⟩ }
theorem Cst.setB (h : Cst w a b c d n1 m1 n2 m2 b5 b6 kB X) {g : Nat} {l' : List ByteArray} (hA : c.B = some ⟨g, 0, none⟩) (hg : n1 ≤ g ∧ g < m1) (hl : l'.length = c.by'.length) (hF : FlatAt bK X g l') (hs : ∀ i s, kB ≤ i → l'[i]? = some s → s.size ≤ 6000) (s : ByteArray) :
    Cst w a b c d n1 m1 n2 m2 b5 b6 (kB + 1) (X.setCell ⟨g, kB, none⟩ (.string s)) := by
  have tt : Turns [g] X (X.setCell ⟨g, kB, none⟩ (.string s)) := Turns.setCell X _ _ (by simp)
  have hn := h.num
  have h5 := h.o5
  have h6 := h.o6
  exact { h with
    box := h.box.turns tt (by omega)
    f5 := h.f5.turns tt (by rw [List.mem_singleton]; omega)
    f6 := h.f6.turns tt (by rw [List.mem_singleton]; omega)
    rd := h.rd.turns tt (fun i hi => by rw [List.mem_singleton] at hi; omega)
    ct := fun ad e => by
      obtain ⟨g', l2, e1, g1, g2, g3, g4⟩ := h.ct ad e
      exact ⟨g', l2, e1, g1, g2, g3, g4.turns tt (by rw [List.mem_singleton]; exact fun e => flat_apart g4 hF tb_ne e)⟩
    cb := fun ad e => by
      rw [hA] at e
      cases e
      refine ⟨g, _, rfl, hg.1, hg.2, by rw [List.length_set]; exact hl, hF.putB kB s, fun i u hi hu => ?_⟩
      rw [List.getElem?_set_ne (by omega)] at hu
      exact hs i u (by omega) hu
    num := ⟨hn.1, hn.2.1, by simpa using hn.2.2⟩ }
end
end Go.Proofs.Ytnbghappfclnjaa
