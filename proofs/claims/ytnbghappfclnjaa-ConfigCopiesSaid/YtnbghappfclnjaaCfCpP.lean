/- ConfigCopies: what the program's Same and Copy must answer; both boxes. -/
import Derived.Test.YtnbghappfclnjaaCfBx
import Derived.Test.YtnbghappfclnjaaCfMuch
namespace Go.Proofs.Ytnbghappfclnjaa
open Go.RowKit

structure Cf.Few (c : Cf) : Prop where
  ts : c.ts.length ≤ 20
  by' : c.by'.length ≤ 20
  sz : ∀ t ∈ c.ts, t.size ≤ 6000
  szb : ∀ s ∈ c.by', s.size ≤ 6000
theorem Cf.few' {c : Cf} (h : c.much = false) : c.Few := ⟨(Cf.few h).1, (Cf.few h).2.1, (Cf.few h).2.2.1, (Cf.few h).2.2.2⟩
/-- c is a's contents in memory of its own, from block n on. -/
structure CopyOf (n : Nat) (w : World) (a c : Cf) : Prop where
  same : SameC c a
  reads : c.Reads w w.heap.size
  ts : c.ts = [] ∨ tK.Own n w (.slice c.A c.ts.length c.cap) c.ts
  by' : c.by' = [] ∨ bK.Own n w (.slice c.B c.by'.length c.cb) c.by'
/-- c has a's contents; its rows are the call's own, from block n on, below m. -/
structure Rows (n m : Nat) (a c : Cf) (X : World) : Prop where
  same : SameC c a
  nil : c.B = none → c.by' = [] ∧ c.cb = 0
  tlen : c.ts.length ≤ c.cap ∧ c.cap ≤ 9223372036854775807
  blen : c.by'.length ≤ c.cb ∧ c.cb ≤ 9223372036854775807
  ts : c.ts = [] ∨ ∃ g, c.A = some ⟨g, 0, none⟩ ∧ n ≤ g ∧ g < m ∧ tK.Own n X (.slice c.A c.ts.length c.cap) c.ts
  by' : c.by' = [] ∨ ∃ g, c.B = some ⟨g, 0, none⟩ ∧ n ≤ g ∧ g < m ∧ bK.Own n X (.slice c.B c.by'.length c.cb) c.by'
theorem te_ne : tK.te ≠ 38 := by rw [show tK.te = 23 from rfl]; decide
theorem be_ne : bK.te ≠ 38 := by rw [show bK.te = 9 from rfl]; decide
theorem Rows.of {n : Nat} {V X : World} {a c : Cf} (h : CopyOf n V a c) (hk : Kp V X) : Rows n V.heap.size a c X := by
  refine ⟨h.same, h.reads.nil, h.reads.tlen, h.reads.blen, ?_, ?_⟩
  · rcases h.ts with h0 | h0
    · exact .inl h0
    · rcases h0.form with ⟨_, e⟩ | ⟨g, cap, e, h1, h2, _⟩
      · exact .inl e
      · injection e with eA _ _
        exact .inr ⟨g, eA, h1, h2, hk.own h0 te_ne⟩
  · rcases h.by' with h0 | h0
    · exact .inl h0
    · rcases h0.form with ⟨_, e⟩ | ⟨g, cap, e, h1, h2, _⟩
      · exact .inl e
      · injection e with eA _ _
        exact .inr ⟨g, eA, h1, h2, hk.own h0 be_ne⟩
def SameP : Prop := ∀ (a b : Cf) (W : World), a.Reads W W.heap.size → b.Reads W W.heap.size → a.Few → b.Few → Calls Try.prog 16 #[a.val, b.val] W fun e w' => e = .returned (.bool (sameB a b)) ∧ Below W.heap.size W w'
def CopyP : Prop := ∀ (a : Cf) (W : World), a.Reads W W.heap.size → a.Few → Calls Try.prog 18 #[a.val] W fun e w' => (∃ c : Cf, e = .returned c.val ∧ CopyOf W.heap.size w' a c) ∧ Below W.heap.size W w'
/-- Two configs' boxes are there, and all ahead of them is as it was. -/
structure DBox (w : World) (a b : Cf) (w' : World) : Prop where
  fst : CfAt w' w.heap.size a
  snd : CfAt w' (w.heap.size + 1) b
  below : Below w.heap.size w w'
  more : w.heap.size + 1 < w'.heap.size
theorem DBox.next {w W W' : World} {a b : Cf} (h : DBox w a b W) (hb : Below W.heap.size W W') : DBox w a b W' :=
  ⟨h.fst.below hb (by have := h.more; omega), h.snd.below hb h.more, h.below.trans (hb.mono (by have := h.more; omega)), Nat.lt_of_lt_of_le h.more hb.size⟩
theorem DBox.drew {w W : World} {a b : Cf} (h : DBox w a b W) : DBox w a b W.drew := ⟨h.fst, h.snd, h.below.drew, h.more⟩
theorem DBox.new (w : World) (a b : Cf) : DBox w a b ((w.alloc a.obj).alloc b.obj) := by
  have h1 := (CfAt.new w a).keep (w' := (w.alloc a.obj).alloc b.obj) (fun p hp => World.cell?_alloc_lt _ _ p (by rw [hp]; simp))
  have h2 := CfAt.new (w.alloc a.obj) b
  rw [show (w.alloc a.obj).heap.size = w.heap.size + 1 by simp] at h2
  exact ⟨h1, h2, ((Below.refl w.heap.size w).alloc (Nat.le_refl _) a.obj).alloc (by simp) b.obj, by simp⟩
theorem DBox.reads {w W : World} {a b c : Cf} (h : DBox w a b W) (hr : c.Reads w w.heap.size) : c.Reads W W.heap.size := (hr.below h.below).more (by have := h.more; omega)
theorem DBox.call {w : World} {a b : Cf} {f : Nat} {args : Array Value} {v : Ending} (h : ∀ W, DBox w a b W → Calls Try.prog f args W fun e w' => e = v ∧ Below W.heap.size W w') (W : World) (hq : Hid (DBox w a b W)) : Calls Try.prog f args W fun e w' => e = v ∧ Hid (DBox w a b w') :=
  (h W hq.out).mono fun _ _ ⟨h1, h2⟩ => ⟨h1, hq.out.next h2⟩
theorem DBox.alloc {w W : World} {a b : Cf} (h : DBox w a b W) (o : Obj) : DBox w a b (W.alloc o) := h.next ((Below.refl _ _).alloc (Nat.le_refl _) o)
theorem put_below (W : World) (k B : Nat) (c : Cf) (hB : B ≤ k) : Below B W (putBox W k c) := by
  unfold putBox
  exact ((((((((((Below.refl B W).setCell hB _).setCell hB _).setCell hB _).setCell hB _).setCell hB _).setCell hB _).setCell hB _).setCell hB _).setCell hB _).setCell hB _ |>.setCell hB _
theorem DBox.put {w W : World} {a b c : Cf} {k : Nat} (h : DBox w a b W) (hk : w.heap.size + 1 < k) : DBox w a b (putBox W k c) :=
  ⟨h.fst.put (by omega), h.snd.put (by omega), h.below.trans (put_below W k _ c (by omega)), by rw [put_size]; exact h.more⟩
/-- Behind both copies: their boxes, their rows, all apart. -/
def TwoC (w : World) (a b : Cf) (p q : Value) (X : World) : Prop := ∃ c d b5 b6 n1 m1 n2 m2, p = .pointer (some ⟨b5, 0, none⟩) ∧ q = .pointer (some ⟨b6, 0, none⟩) ∧ DBox w a b X ∧ FullBox X b5 c ∧ FullBox X b6 d ∧
  (w.heap.size + 1 < b5 ∧ w.heap.size + 1 < b6 ∧ b5 ≠ b6) ∧ Rows n1 m1 a c X ∧ Rows n2 m2 a d X ∧ w.heap.size + 2 ≤ n1 ∧ m1 ≤ n2
end Go.Proofs.Ytnbghappfclnjaa
