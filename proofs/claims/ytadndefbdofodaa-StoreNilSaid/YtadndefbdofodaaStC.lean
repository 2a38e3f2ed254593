/- A program's store by what its calls do, apart from how it lies in memory. -/
import Derived.Test.YtadndefbdofodaaStAlike
import Derived.Test.YtadndefbdofodaaStPt
import Derived.RangeFuncKeeps
import Derived.Test.YtadndefbdofodaaBase
namespace Go.Proofs.Ytadndefbdofodaa
open Go.RowKit

/-- These blocks lie as they lay. -/
def KeepL (bs : List Nat) (W W' : World) : Prop := ∀ b ∈ bs, W'.heap[b]? = W.heap[b]?
theorem KeepL.t {bs : List Nat} {A B C : World} (h : KeepL bs A B) (k : KeepL bs B C) : KeepL bs A C := fun b hb => (k b hb).trans (h b hb)
theorem KeepL.put {bs : List Nat} {w : World} (hb : ∀ b ∈ bs, b < w.heap.size) (W : World) (l : Nat) (o o' : Obj) (hl : w.heap.size ≤ l) (_ : W.heap[l]? = some o) (_ : o.isCells = false) (_ : o.isWalk = false) : KeepL bs W (W.putObj l o') :=
  fun b hm => World.putObj_heap_other (by have := hb b hm; omega)
theorem KeepL.of {bs : List Nat} {F : List Nat} {A B : World} (h : Turns F A B) (hb : ∀ b ∈ bs, b < A.heap.size ∧ b ∉ F) : KeepL bs A B := fun b hm => h.block b (hb b hm).1 (hb b hm).2
def zLst : Lst := ⟨⟨⟨#[]⟩, 0, 0, false⟩, false, 0⟩
/-- What Get tells. -/
def getP (n : ByteArray) (L : List One) : Lst × Bool :=
  match ofN n L with
  | none => (zLst, false)
  | some i => match L[i]? with
    | none => (zLst, false)
    | some y => (y.l, true)
def liveP (L : List One) : Nat := (L.filter fun y => y.l.live).length
def encOne (y : One) : Array Value := #[.string y.name, y.l.val']
structure StC where
  At : Nat → World → Nat → List Nat → Nat → List One → Prop
  foot : ∀ {B w p F most L}, At B w p F most L → ∀ i ∈ F, B ≤ i ∧ i < w.heap.size
  low : ∀ {B B' w p F most L}, At B' w p F most L → B ≤ B' → At B w p F most L
  turns : ∀ {B w w' p F most L} {G : List Nat}, At B w p F most L → Turns G w w' → (∀ i ∈ F, i ∉ G) → At B w' p F most L
  only : ∀ {B w p F most L}, At B w p F most L → ∀ {i j : Nat} {y z : One}, L[i]? = some y → L[j]? = some z → y.name = z.name → i = j
  new : ∀ (most : Int) (w : World), -9223372036854775808 ≤ most → most ≤ 9223372036854775807 → Calls Try.prog 9 #[.int .i64 most] w fun e w' => ∃ p F, e = .returned (ptr p) ∧ At w.heap.size w' p F most.toNat [] ∧ Turns [] w w'
  put : ∀ {B w p F most L} {l : List Smp} {A : Option Addr} {c : Nat}, At B w p F most L → B ≤ w.heap.size → L.length + l.length ≤ 90000 → l.length ≤ c → c ≤ maxLen → sK.Reads w w.heap.size A l → (l = [] ∨ ∀ a, A = some a → a.block ∉ F) → ∀ (owner : Int), (-9223372036854775808 ≤ owner ∧ owner ≤ 9223372036854775807) → (∀ x ∈ l, x.Ok) →
    Calls Try.prog 12 #[ptr p, .int .i64 owner, .slice A l.length c] w fun e w' => ∃ o F', e = .returned o ∧ nK.Own w.heap.size w' o (putP most owner l L).1 ∧ At B w' p F' most (putP most owner l L).2 ∧ Turns F w w' ∧ (∀ i ∈ F', i ∈ F ∨ w.heap.size ≤ i) ∧ ∀ i ∈ ownB o, i ∉ F'
  names : ∀ {B w p F most L}, At B w p F most L → ∀ y ∈ L, y.name.size ≤ 140737488355328
  get : ∀ {B w p F most L}, At B w p F most L → L.length ≤ 90000 → ∀ n : ByteArray, n.size ≤ 140737488355328 → Calls Try.prog 20 #[ptr p, .string n] w fun e w' => e = .returned (.tuple #[(getP n L).1.val', .bool (getP n L).2]) ∧ Turns [] w w'
  len : ∀ {B w p F most L}, At B w p F most L → L.length ≤ 90000 → Calls Try.prog 15 #[ptr p] w fun e w' => e = .returned (.int .i64 (L.length : Nat)) ∧ Turns [] w w'
  live : ∀ {B w p F most L}, At B w p F most L → L.length ≤ 90000 → Calls Try.prog 22 #[ptr p] w fun e w' => e = .returned (.int .i64 (liveP L : Nat)) ∧ Turns [] w w'
  all : ∀ {B w p F most L}, At B w p F most L → L.length ≤ 900 → Calls Try.prog 21 #[ptr p] w fun e w' => ∃ gf caps bs, e = .returned (.func (.func gf) #[] caps) ∧ (∀ args W, (callFunc gf args).run Try.prog W = .ok (.enter gf args) W) ∧ (∀ b ∈ bs, b < w'.heap.size) ∧ Turns [] w w' ∧
    ∀ W, Turns [] w' W → SeqStopsK Fence.wide 5 Try.prog gf caps encOne (KeepL bs) (fun ys => ys = L) (fun pre => pre <+: L) L.length W
  copy : ∀ {B w p F most L}, At B w p F most L → L.length ≤ 90000 → Calls Try.prog 16 #[ptr p] w fun e w' => ∃ q G, e = .returned (ptr q) ∧ At w.heap.size w' q G most L ∧ Turns [] w w'
  same : ∀ {B1 B2 w p q F G m1 m2 L1 L2}, At B1 w p F m1 L1 → At B2 w q G m2 L2 → L1.length ≤ 90000 → L2.length ≤ 90000 → Calls Try.prog 18 #[ptr p, ptr q] w fun e w' => e = .returned (.bool (decide (m1 = m2 ∧ L1 = L2))) ∧ Turns [] w w'
theorem StC.pre (C : StC) {B w w' p F most L} (h : C.At B w p F most L) (ht : Turns [] w w') : C.At B w' p F most L := C.turns h ht (by simp)
theorem get_here {C : StC} {B w p F most L} (h : C.At B w p F most L) {i : Nat} {y : One} (hy : L[i]? = some y) : getP y.name L = (y.l, true) := by
  unfold getP
  rw [ofN_here hy rfl fun j z hj hz e => by have := C.only h hz hy e; omega]
  simp only [hy]
theorem get_is (n : ByteArray) (L : List One) : (getP n L).2 = (ofN n L).isSome := by
  unfold getP
  cases h : ofN n L with
  | none => rfl
  | some i =>
    obtain ⟨y, hy, _⟩ := ofN_some h
    simp only [hy]
    rfl
end Go.Proofs.Ytadndefbdofodaa
