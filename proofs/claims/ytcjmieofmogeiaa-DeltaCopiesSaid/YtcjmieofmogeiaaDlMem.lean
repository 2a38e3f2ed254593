/- Rows of gains; the document's meter in memory; its Gain, New. -/
import Derived.Test.YtcjmieofmogeiaaStPlain
import Derived.Test.YtcjmieofmogeiaaStPut
namespace Go.Proofs.Ytcjmieofmogeiaa

structure Gn where
  name : ByteArray
  tm : Int
  inc : Int
  reset : Bool
/-- Counts: parsed, accepted, out of order, twice, no room, gains, resets. -/
structure Tl where
  p : Nat
  a : Nat
  o : Nat
  t : Nat
  f : Nat
  g : Nat
  r : Nat
instance : Inhabited Gn := ⟨⟨⟨#[]⟩, 0, 0, false⟩⟩
def Gn.cells (x : Gn) : List Value := [.string x.name, .int .i64 x.tm, .int .i64 x.inc, .bool x.reset]
def Tl.cells (T : Tl) : List Value := [.int .i64 (T.p : Int), .int .i64 (T.a : Int), .int .i64 (T.o : Int), .int .i64 (T.t : Int), .int .i64 (T.f : Int), .int .i64 (T.g : Int), .int .i64 (T.r : Int)]
def Tl.val' (T : Tl) : Value := .agg #[.int .i64 (T.p : Int), .int .i64 (T.a : Int), .int .i64 (T.o : Int), .int .i64 (T.t : Int), .int .i64 (T.f : Int), .int .i64 (T.g : Int), .int .i64 (T.r : Int)]
def Tl.zero : Tl := ⟨0, 0, 0, 0, 0, 0, 0⟩
/-- The gain of a value behind another one; is it a reset? -/
def gainL (ahead value : Int) : Int × Bool :=
  if value < ahead then (if value < 0 then 0 else value, true)
  else (if 9223372036854775807 < value - ahead then 9223372036854775807 else value - ahead, false)
def hasG (x : Sn) : Bool := x.chain && x.s.cnt
def gainS (x : Sn) : Gn := ⟨x.s.name, x.s.tm, (gainL x.ahead x.s.val).1, (gainL x.ahead x.s.val).2⟩
def Tl.seen (T : Tl) (v : Int) : Tl :=
  if v = 1 then { T with p := T.p + 1, a := T.a + 1 } else if v = 2 then { T with p := T.p + 1, o := T.o + 1 } else if v = 3 then { T with p := T.p + 1, t := T.t + 1 } else { T with p := T.p + 1, f := T.f + 1 }
def Tl.gain (T : Tl) (r : Bool) : Tl := if r then { T with g := T.g + 1, r := T.r + 1 } else { T with g := T.g + 1 }
def Tl.one (T : Tl) (x : Sn) : Tl := if hasG x then (T.seen x.v).gain (gainL x.ahead x.s.val).2 else T.seen x.v
def tallyL (T : Tl) : List Sn → Tl
  | [] => T
  | x :: l => tallyL (T.one x) l
def gainsL : List Sn → List Gn
  | [] => []
  | x :: l => if hasG x then gainS x :: gainsL l else gainsL l
theorem tallyL_snoc (T : Tl) : ∀ (l : List Sn) (x : Sn), tallyL T (l ++ [x]) = (tallyL T l).one x
  | [], x => rfl
  | y :: l, x => tallyL_snoc (T.one y) l x
theorem gainsL_snoc : ∀ (l : List Sn) (x : Sn), gainsL (l ++ [x]) = gainsL l ++ (if hasG x then [gainS x] else [])
  | [], x => by simp [gainsL]
  | y :: l, x => by
    rw [List.cons_append]
    simp only [gainsL, gainsL_snoc l x]
    split <;> simp
theorem gainsL_len (l : List Sn) : (gainsL l).length ≤ l.length := by
  induction l with
  | nil => exact Nat.le_refl _
  | cons x l ih =>
    simp only [gainsL]
    split <;> simp <;> omega
/-- None is above N. -/
def Tl.Le (T : Tl) (N : Nat) : Prop := T.p ≤ N ∧ T.a ≤ N ∧ T.o ≤ N ∧ T.t ≤ N ∧ T.f ≤ N ∧ T.g ≤ N ∧ T.r ≤ N
theorem Tl.Le.one {T : Tl} {N : Nat} (h : T.Le N) (x : Sn) : (T.one x).Le (N + 1) := by
  obtain ⟨h1, h2, h3, h4, h5, h6, h7⟩ := h
  unfold Tl.one Tl.seen Tl.gain Tl.Le
  repeat' split
  all_goals (simp only; omega)
theorem Tl.Le.list {N : Nat} : ∀ {T : Tl} (l : List Sn), T.Le N → (tallyL T l).Le (N + l.length)
  | T, [], h => h
  | T, x :: l, h => by
    have := Tl.Le.list l (h.one x)
    rw [List.length_cons]
    rwa [show N + (l.length + 1) = N + 1 + l.length by omega]
theorem Tl.Le.zero : Tl.zero.Le 0 := by simp [Tl.Le, Tl.zero]
end Go.Proofs.Ytcjmieofmogeiaa

namespace Go.Proofs.Ytcjmieofmogeiaa
open Go.RowKit

def gK : EK Gn := ⟨48, 54, 4, 40, .agg #[.string ⟨#[]⟩, .int .i64 0, .int .i64 0, .bool false], Gn.cells⟩
theorem gOk : gK.Ok Try.prog := ⟨Try.underlying48, by kernel_rfl, rfl, by decide, by decide, fun _ => rfl, fun x u hu => by simp [gK, Gn.cells] at hu; rcases hu with rfl | rfl | rfl | rfl <;> rfl⟩
/-- The document's meter: its head in block rm, its store at rs. -/
structure RefM (B : Nat) (w : World) (rm : Nat) (T : Tl) (rs : Nat) (v : Value) (most : Nat) (L : List One) : Prop where
  head : w.heap[rm]? = some (.cells #[.pointer (some ⟨rs, 0, none⟩), .int .i64 (T.p : Int), .int .i64 (T.a : Int), .int .i64 (T.o : Int), .int .i64 (T.t : Int), .int .i64 (T.f : Int), .int .i64 (T.g : Int), .int .i64 (T.r : Int)] 44 (0, 0))
  store : RefS B w rs v most L
  low : B ≤ rm
  ne : rm ∉ rs :: ownB v
section
variable {B : Nat} {w w' : World} {rm rs : Nat} {T : Tl} {v : Value} {most : Nat} {L : List One}
theorem RefM.lt (h : RefM B w rm T rs v most L) : rm < w.heap.size := lt_of_block h.head
theorem RefS.foot' (a : RefS B w rs v most L) : ∀ i ∈ rs :: ownB v, B ≤ i ∧ i < w.heap.size := fun i hi => by
  rcases List.mem_cons.1 hi with rfl | h
  · exact ⟨a.low, a.lt⟩
  · exact a.own.foot i h
theorem RefM.foot (a : RefM B w rm T rs v most L) : ∀ i ∈ rm :: rs :: ownB v, B ≤ i ∧ i < w.heap.size := fun i hi => by
  rcases List.mem_cons.1 hi with rfl | h
  · exact ⟨a.low, a.lt⟩
  · exact a.store.foot' i h
theorem RefM.turns {F : List Nat} (h : RefM B w rm T rs v most L) (ht : Turns F w w') (hF : ∀ i ∈ rm :: rs :: ownB v, i ∉ F) : RefM B w' rm T rs v most L :=
  ⟨(ht.block rm h.lt (hF _ (List.mem_cons_self ..))).trans h.head, h.store.turns ht (hF _ (by simp)) fun i hi => hF i (by simp [hi]), h.low, h.ne⟩
theorem RefM.pre (h : RefM B w rm T rs v most L) (ht : Turns [] w w') : RefM B w' rm T rs v most L := h.turns ht (by simp)
theorem RefM.cells (h : RefM B w rm T rs v most L) : w.cell? ⟨rm, 0, none⟩ = some (.pointer (some ⟨rs, 0, none⟩)) ∧ w.cell? ⟨rm, 1, none⟩ = some (.int .i64 (T.p : Int)) ∧ w.cell? ⟨rm, 2, none⟩ = some (.int .i64 (T.a : Int)) ∧ w.cell? ⟨rm, 3, none⟩ = some (.int .i64 (T.o : Int)) ∧ w.cell? ⟨rm, 4, none⟩ = some (.int .i64 (T.t : Int)) ∧ w.cell? ⟨rm, 5, none⟩ = some (.int .i64 (T.f : Int)) ∧ w.cell? ⟨rm, 6, none⟩ = some (.int .i64 (T.g : Int)) ∧ w.cell? ⟨rm, 7, none⟩ = some (.int .i64 (T.r : Int)) ∧ ∀ j, w.frozen? ⟨rm, j, none⟩ = false := by
  have h1 := h.head
  refine ⟨?_, ?_, ?_, ?_, ?_, ?_, ?_, ?_, ?_⟩
  all_goals first | (simp [World.cell?, h1]) | (intro j; simp [World.frozen?, h1])
theorem tl_in {T : Tl} {N : Nat} (h : T.Le N) (hN : N ≤ 1000000) : (T.p : Int) ≤ 1000000 ∧ (T.a : Int) ≤ 1000000 ∧ (T.o : Int) ≤ 1000000 ∧ (T.t : Int) ≤ 1000000 ∧ (T.f : Int) ≤ 1000000 ∧ (T.g : Int) ≤ 1000000 ∧ (T.r : Int) ≤ 1000000 := by
  obtain ⟨h1, h2, h3, h4, h5, h6, h7⟩ := h
  omega
end
set_option maxRecDepth 100000 in
set_option maxHeartbeats 1000000 in
theorem rgain_any (ahead value : Int) (ha : -9223372036854775808 ≤ ahead ∧ ahead ≤ 9223372036854775807) (hv : -9223372036854775808 ≤ value ∧ value ≤ 9223372036854775807) (w : World) :
    Calls Try.prog 18 #[.int .i64 ahead, .int .i64 value] w fun e w' => e = .returned (.tuple #[.int .i64 (gainL ahead value).1, .bool (gainL ahead value).2]) ∧ w = w' := by
  by_cases h : value < ahead
  · by_cases h0 : value < 0
    · have HE : Hid (gainL ahead value = (0, true)) := Lib.hid (by unfold gainL; rw [if_pos h, if_pos h0])
      clear ha hv
      go_enter Try.func18, Try.ntmps18
      go_wp2
      go_ret2
      exact ⟨by rw [HE.out]; rfl, rfl⟩
    · have HE : Hid (gainL ahead value = (value, true)) := Lib.hid (by unfold gainL; rw [if_pos h, if_neg h0])
      clear ha hv
      go_enter Try.func18, Try.ntmps18
      go_wp2
      go_ret2
      exact ⟨by rw [HE.out]; rfl, rfl⟩
  · by_cases h1 : 9223372036854775807 < value - ahead
    · have HE : Hid (gainL ahead value = (9223372036854775807, false)) := Lib.hid (by unfold gainL; rw [if_neg h, if_pos h1])
      obtain ⟨d, hd⟩ : ∃ d, d = wrap64 (value - ahead) := ⟨_, rfl⟩
      have hd0 : d < 0 := by rw [hd]; unfold wrap64; omega
      have hw : wrap64 (value - ahead) = d := hd.symm
      have hw2 : IntKind.i64.wrap (value - ahead) = d := by rw [hd]; simp [wrap64, IntKind.wrap, IntKind.bits, IntKind.signed]; split <;> omega
      clear ha hv h1 hd
      go_enter Try.func18, Try.ntmps18
      go_wp2
      go_ret2
      exact ⟨by rw [HE.out]; rfl, rfl⟩
    · have HE : Hid (gainL ahead value = (value - ahead, false)) := Lib.hid (by unfold gainL; rw [if_neg h, if_neg h1])
      obtain ⟨d, hd⟩ : ∃ d, d = value - ahead := ⟨_, rfl⟩
      have hd0 : ¬ d < 0 := by omega
      have hw : wrap64 (value - ahead) = d := by rw [hd]; unfold wrap64; omega
      have hw2 : IntKind.i64.wrap (value - ahead) = d := by rw [← hw]; simp [wrap64, IntKind.wrap, IntKind.bits, IntKind.signed]; split <;> omega
      rw [← hd] at HE
      clear ha hv h1 hd
      go_enter Try.func18, Try.ntmps18
      go_wp2
      go_ret2
      exact ⟨by rw [HE.out]; rfl, rfl⟩
set_option maxRecDepth 100000 in
set_option maxHeartbeats 1000000 in
theorem rnewM_any (most : Int) (w : World) (hm : most ≤ 9223372036854775807) :
    Calls Try.prog 11 #[.int .i64 most] w fun e w' => ∃ rm rs, e = .returned (.pointer (some ⟨rm, 0, none⟩)) ∧ RefM w.heap.size w' rm .zero rs (.slice none 0 0) most.toNat [] ∧ Turns [] w w' := by
  have HN := Lib.hid (rnewS_any most w hm)
  go_enter Try.func11, Try.ntmps11
  go_wp2_with fail
  refine HN.out.mono ?_
  rintro e w1 ⟨rfl, h1, h2⟩
  have H1 := Lib.hid h1
  have HT := Lib.hid (Turns.of_below h2 (Nat.le_refl _))
  have HF := Lib.hid (heap_alloc_new w1 (.cells #[.pointer (some ⟨w.heap.size, 0, none⟩), .int .i64 0, .int .i64 0, .int .i64 0, .int .i64 0, .int .i64 0, .int .i64 0, .int .i64 0] 44))
  clear h1 h2
  go_wp2_with fail
  go_ret
  exact ⟨_, _, rfl, ⟨HF.out, H1.out.pre (Turns.alloc _ _), HT.out.size, fun hm => by have := (H1.out.foot' _ hm).2; omega⟩, HT.out.then (Turns.alloc _ _)⟩
end Go.Proofs.Ytcjmieofmogeiaa
