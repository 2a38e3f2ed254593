/- The program's store in memory: a map of pointers to series, key by key. -/
import Derived.Test.YtcjmieofmogeiaaStPt
import Derived.Test.YtcjmieofmogeiaaMapP
import Derived.Test.YtcjmieofmogeiaaVisit
import Derived.Test.YtcjmieofmogeiaaShelf
namespace Go.Proofs.Ytcjmieofmogeiaa
open Go.RowKit

def lK : EK Lst := ⟨0, 88, 6, 64, .agg #[], fun l => [.string l.s.name, .int .i64 l.s.val, .int .i64 l.s.tm, .bool l.s.cnt, .bool l.live, .int .i64 l.own]⟩
theorem sm_keyed : Maps.Keyed Try.prog 9 := Maps.string_keyed Try.underlying9
abbrev nameKD : KD 9 ByteArray := strKD Try.underlying9
abbrev PM := ByteArray → Option (Nat × Lst)
def NmOk (n : ByteArray) : Prop := n.size ≤ 140737488355328
theorem NmOk.key {n : ByteArray} (h : NmOk n) : nameKD.ok n := by
  show n.size ≤ maxLen
  unfold NmOk at h
  unfold maxLen
  omega
theorem zero_lastp (w : World) : (zeroValue 91).run Try.prog w = .ok (.pointer none) w := by kernel_rfl
/-- What a store's block holds besides the store: it may be a field of another struct, its first. -/
class Hd where
  rest : List Value
  ty : TypeId
  ne : ty ≠ nK.te
instance plainHd : Hd := ⟨[], 66, by show (66 : Nat) ≠ 71; decide⟩
variable {hd : Hd}
/-- A store's head, and its map. -/
structure Sm0 (hd : Hd) (B : Nat) (w : World) (p b most : Nat) (P : PM) (n : Nat) : Prop where
  head : w.heap[p]? = some (.cells (List.toArray (.int .i64 (most : Int) :: .map (some b) :: hd.rest)) hd.ty (0, 0))
  map : MapP nameKD lK B w b P n
  apart : p ≠ b ∧ ∀ x q, P x = some q → q.1 ≠ p
  low : B ≤ p
  nm : ∀ x q, P x = some q → q.2.s.name = x ∧ NmOk x
abbrev Sm [hd : Hd] (B : Nat) (w : World) (p b most : Nat) (P : PM) (n : Nat) : Prop := Sm0 hd B w p b most P n
section
variable {B : Nat} {w w' : World} {p b most n : Nat} {P : PM}
theorem Sm.lt (h : Sm B w p b most P n) : p < w.heap.size := lt_of_block h.head
theorem Sm.turns {F : List Nat} (h : Sm B w p b most P n) (ht : Turns F w w') (h1 : p ∉ F) (h2 : ∀ i ∈ F, ¬ MapP.In b P i) : Sm B w' p b most P n :=
  ⟨(ht.block p h.lt h1).trans h.head, h.map.turns ht h2, h.apart, h.low, h.nm⟩
theorem Sm.pre (h : Sm B w p b most P n) (ht : Turns [] w w') : Sm B w' p b most P n := h.turns ht (by simp) (by simp)
theorem Sm.lower {B' : Nat} (h : Sm B w p b most P n) (hB : B' ≤ B) : Sm B' w p b most P n :=
  ⟨h.head, ⟨h.map.map, fun x q hq => let ⟨a, c, d⟩ := h.map.blk x q hq; ⟨a, c, Nat.le_trans hB d⟩, h.map.inj, Nat.le_trans hB h.map.low⟩, h.apart, Nat.le_trans hB h.low, h.nm⟩
theorem Sm.c0 (h : Sm B w p b most P n) : w.cell? ⟨p, 0, none⟩ = some (.int .i64 (most : Int)) := by simp [World.cell?, h.head]
theorem Sm.c1 (h : Sm B w p b most P n) : w.cell? ⟨p, 1, none⟩ = some (.map (some b)) := by simp [World.cell?, h.head]
/-- What v, ok := m[name] tells. -/
def ptrM (o : Option (Nat × Lst)) : Value := match o with | none => .pointer none | some q => .pointer (some ⟨q.1, 0, none⟩)
theorem Sm.look (h : Sm B w p b most P n) {x : ByteArray} (hx : NmOk x) :
    (Instr.lookup 64 (.map (some b)) (.string x) true).run Try.prog w = .ok (.tuple #[ptrM (P x), .bool (P x).isSome]) w := by
  have := h.map.look_ok (t := 64) (e := 91) sm_keyed Try.underlying64 (zero_lastp w) hx.key
  cases hp : P x <;> rw [hp] at this <;> exact this
theorem Sm.len (h : Sm B w p b most P n) (ty : TypeId) : (Builtin.len_ #[64] ty #[.map (some b)]).run Try.prog w = .ok (.int .i64 n) w := h.map.len Try.underlying64 ty
end
/-- What becomes of a sample. -/
def verM (most n : Nat) (x : Smp) (o : Option Lst) : Int := match o with
  | none => if most ≤ n then 4 else 1
  | some l => if x.tm < l.s.tm then 2 else if x.tm = l.s.tm then 3 else 1
end Go.Proofs.Ytcjmieofmogeiaa
