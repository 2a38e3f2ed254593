/- A target's box; what a law's walk ends with. -/
import Derived.Test.YtnbghappfclnjaaBytes
import Derived.Test.YtnbghappfclnjaaCfPlain
namespace Go.Proofs.Ytnbghappfclnjaa
open Go.RowKit

def Known13 : Prop := ∀ W : World, Calls Try.prog 6 #[] W fun e w' => e = .returned (.bool true) ∧ Below W.heap.size W w'
/-- A target's cells. -/
def TgAt (w : World) (b : Nat) (t : Tg) : Prop := w.cell? ⟨b, 0, none⟩ = some (.string t.job) ∧ w.cell? ⟨b, 1, none⟩ = some (.string t.host) ∧ w.cell? ⟨b, 2, none⟩ = some (.string t.path) ∧ w.cell? ⟨b, 3, none⟩ = some (.int .i64 t.iv) ∧ w.cell? ⟨b, 4, none⟩ = some (.int .i64 t.tm)
theorem TgAt.new (w : World) (t : Tg) : TgAt (w.alloc (.cells #[.string t.job, .string t.host, .string t.path, .int .i64 t.iv, .int .i64 t.tm] 23)) w.heap.size t := by
  unfold TgAt World.cell?
  simp only [heap_alloc_new]
  exact ⟨rfl, rfl, rfl, rfl, rfl⟩
theorem TgAt.keep {w w' : World} {B b : Nat} {t : Tg} (h : TgAt w b t) (hb : Below B w w') (hB : b < B) : TgAt w' b t :=
  ⟨(hb.cell hB).trans h.1, (hb.cell hB).trans h.2.1, (hb.cell hB).trans h.2.2.1, (hb.cell hB).trans h.2.2.2.1, (hb.cell hB).trans h.2.2.2.2⟩
theorem Below.box {w w1 : World} {o : Obj} (h : Below (w.alloc o).heap.size (w.alloc o) w1) : Below w.heap.size w w1 := ((Below.refl w.heap.size w).alloc (Nat.le_refl _) _).trans (h.mono (by simp))
/-- The box of a target is there, and all ahead of it is as it was. -/
structure Boxed (w : World) (t : Tg) (w' : World) : Prop where
  at_ : TgAt w' w.heap.size t
  below : Below w.heap.size w w'
  more : w.heap.size < w'.heap.size
theorem Boxed.next {w W W' : World} {t : Tg} (h : Boxed w t W) (hb : Below W.heap.size W W') : Boxed w t W' :=
  ⟨h.at_.keep hb h.more, h.below.trans (hb.mono (Nat.le_of_lt h.more)), Nat.lt_of_lt_of_le h.more hb.size⟩
theorem Boxed.call {w : World} {t : Tg} {f : Nat} {args : Array Value} {v : Ending} (h : ∀ W, Calls Try.prog f args W fun e w' => e = v ∧ Below W.heap.size W w') (W : World) (hq : Hid (Boxed w t W)) : Calls Try.prog f args W fun e w' => e = v ∧ Hid (Boxed w t w') :=
  (h W).mono fun _ _ ⟨h1, h2⟩ => ⟨h1, hq.out.next h2⟩
theorem Boxed.drew {w W : World} {t : Tg} (h : Boxed w t W) : Boxed w t W.drew := ⟨h.at_, h.below.drew, h.more⟩
def Fin (w : World) (e : Ending) (w' : World) : Prop := e = .returned (.bool true) ∧ Below w.heap.size w w'
end Go.Proofs.Ytnbghappfclnjaa
