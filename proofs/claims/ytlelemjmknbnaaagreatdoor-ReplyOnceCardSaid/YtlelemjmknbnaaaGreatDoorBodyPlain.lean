/- A body, plainly: a size line, a trailer, what a decoder does with each byte. -/
import Derived.Test.YtlelemjmknbnaaaGreatDoorHeadPlain
import Derived.Lib.Strings
namespace Go.Proofs.YtlelemjmknbnaaaGreatDoor

def hexL : List UInt8 := [48, 49, 50, 51, 52, 53, 54, 55, 56, 57, 97, 98, 99, 100, 101, 102, 65, 66, 67, 68, 69, 70]
def hexV (c : UInt8) : Nat := if c.toNat ≤ 57 then c.toNat - 48 else if c.toNat ≤ 70 then c.toNat - 55 else c.toNat - 87
def hexN (l : List UInt8) : Nat := l.foldl (fun n c => 16 * n + hexV c) 0
/-- A line without its end, and does it end so? -/
def chopL (l : List UInt8) : List UInt8 := if Lib.hasSuffix l tEnd = true then l.take (l.length - 2) else l
/-- What stands behind a line's hexadecimal digits. -/
def restL (l : List UInt8) : List UInt8 := Lib.trimLeftS (chopL l) hexL
def digitsL (l : List UInt8) : List UInt8 := Lib.trimSuffix (chopL l) (restL l)
/-- What a size line tells. -/
def sizeL (l : List UInt8) : Option Nat :=
  if Lib.hasSuffix l tEnd = true ∧ (digitsL l).length ≤ 8 ∧ trimL (Lib.cut (restL l) [59]).1 = [] ∧ mayText (Lib.cut (restL l) [59]).2.1 = true ∧ digitsL l ≠ [] then some (hexN (digitsL l)) else none
def trailL (l : List UInt8) : Bool := Lib.hasSuffix l tEnd && (Lib.cut (chopL l) [58]).2.2 && mayName (Lib.cut (chopL l) [58]).1 && mayText (Lib.cut (chopL l) [58]).2.1
/-- What takes the next byte. -/
inductive Nx where
  | none | size | beyond | trailer | cr | lf
deriving DecidableEq
structure Dc where
  left : Nat
  nx : Nx
  opn : Bool
  room : Nat
  line : List UInt8
  trail : Nat
  body : List UInt8
  wrong : Nat
def Dc.fail (d : Dc) (e : Nat) : Dc := { d with wrong := e, left := 0, nx := .none, line := [] }
def Dc.sized (d : Dc) (l : List UInt8) : Dc :=
  match sizeL l with
  | none => { d with line := [] }.fail 12
  | some n => if d.room < n then { d with line := [] }.fail 13 else if n = 0 then { d with line := [], nx := .trailer } else { d with line := [], left := n, room := d.room - n, nx := .cr }
/-- A byte of a size line. -/
def Dc.size1 (d : Dc) (c : UInt8) : Dc :=
  if c ≠ 10 ∧ (d.line ++ [c]).length < 256 then { d with line := d.line ++ [c], nx := .size } else d.sized (d.line ++ [c])
/-- A byte of what stands behind the last size line. -/
def Dc.trail1 (d : Dc) (c : UInt8) : Dc :=
  if 8192 < d.trail + 1 then { d with line := d.line ++ [c], trail := d.trail + 1 }.fail 12
  else if c ≠ 10 then { d with line := d.line ++ [c], trail := d.trail + 1, nx := .trailer }
  else if d.line ++ [c] = tEnd then { d with line := [], trail := d.trail + 1, nx := .none }
  else if trailL (d.line ++ [c]) = true then { d with line := [], trail := d.trail + 1, nx := .trailer }
  else { d with line := [], trail := d.trail + 1 }.fail 12
def Dc.step (d : Dc) (c : UInt8) : Dc :=
  match d.nx with
  | .none => d
  | .size => d.size1 c
  | .beyond => d.fail 13
  | .trailer => d.trail1 c
  | .cr => if c = 13 then { d with nx := .lf } else d.fail 12
  | .lf => if c = 10 then { d with nx := .size } else d.fail 12
/-- Does it take nothing any more? -/
def Dc.over (d : Dc) : Bool := decide (d.left = 0) && decide (d.nx = .none)
def Dc.take1 (d : Dc) (c : UInt8) : Dc := if 0 < d.left then { d with left := d.left - 1, body := d.body ++ [c] } else d.step c
def Dc.push : Dc → List UInt8 → Nat × Dc
  | d, [] => (0, d)
  | d, c :: l => if d.over = true then (0, d) else (((d.take1 c).push l).1 + 1, ((d.take1 c).push l).2)
theorem Dc.push_over {d : Dc} (h : d.over = true) (l : List UInt8) : d.push l = (0, d) := by
  cases l with
  | nil => rfl
  | cons c l => simp [Dc.push, h]
theorem Dc.push_one {d : Dc} (h : d.over = false) (c : UInt8) (l : List UInt8) : d.push (c :: l) = (((d.take1 c).push l).1 + 1, ((d.take1 c).push l).2) := by
  simp [Dc.push, h]
/-- Bytes that are the body's as they are. -/
theorem Dc.push_keep : ∀ (k : List UInt8) (d : Dc) (l : List UInt8), k.length ≤ d.left → d.push (k ++ l) = ((({ d with left := d.left - k.length, body := d.body ++ k } : Dc).push l).1 + k.length, ({ d with left := d.left - k.length, body := d.body ++ k } : Dc).push l |>.2)
  | [], d, l, _ => by simp
  | c :: k, d, l, h => by
    have hl : 0 < d.left := by simp at h; omega
    have ho : d.over = false := by unfold Dc.over; simp; omega
    rw [List.cons_append, Dc.push_one ho]
    have ht : d.take1 c = { d with left := d.left - 1, body := d.body ++ [c] } := if_pos hl
    rw [ht, Dc.push_keep k _ l (by simp at h ⊢; omega)]
    simp only [List.append_assoc, List.singleton_append, List.length_cons]
    have e : d.left - 1 - k.length = d.left - (k.length + 1) := by omega
    rw [e]
    rfl
/-- However bytes are cut. -/
theorem Dc.push_append : ∀ (a : List UInt8) (d : Dc) (b : List UInt8), d.push (a ++ b) = ((d.push a).1 + ((d.push a).2.push b).1, ((d.push a).2.push b).2)
  | [], d, b => by simp [Dc.push]
  | c :: a, d, b => by
    cases h : d.over with
    | true => rw [Dc.push_over h, Dc.push_over h]; simp [Dc.push_over h]
    | false =>
      rw [List.cons_append, Dc.push_one h, Dc.push_one h, Dc.push_append a]
      simp only [Prod.mk.injEq, and_true]
      omega
/-- A decoder of a head. -/
def Dc.made (len : Int) (chunked : Bool) (room : Nat) : Dc :=
  if chunked = true then ⟨0, .size, false, room, [], 0, [], 0⟩
  else if len < 0 then ⟨room, .beyond, true, 0, [], 0, [], 0⟩
  else if (room : Int) < len then ⟨0, .none, false, 0, [], 0, [], 13⟩
  else ⟨len.toNat, .none, false, 0, [], 0, [], 0⟩
end Go.Proofs.YtlelemjmknbnaaaGreatDoor
