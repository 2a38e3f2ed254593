/- Heads, plainly: which bytes may be, a status line, a field, a head's lines, what they tell. -/
import Derived.Lib.IndexMore
import Derived.Lib.IndexLaws
import Derived.Lib.SlTrimSet
namespace Go.Proofs.YtlelemjmknbnaaaGreatDoor

def signsL : List UInt8 := [33, 35, 36, 37, 38, 39, 42, 43, 45, 46, 94, 95, 96, 124, 126]
def digB (c : UInt8) : Bool := decide (48 ≤ c.toNat ∧ c.toNat ≤ 57)
def nameB (c : UInt8) : Bool := decide (97 ≤ c.toNat ∧ c.toNat ≤ 122) || decide (65 ≤ c.toNat ∧ c.toNat ≤ 90) || digB c || signsL.contains c
def textB' (c : UInt8) : Bool := decide (c.toNat = 9 ∨ (32 ≤ c.toNat ∧ c.toNat ≤ 126) ∨ 128 ≤ c.toNat)
def mayName (l : List UInt8) : Bool := decide (0 < l.length) && l.all nameB
def mayText (l : List UInt8) : Bool := l.all textB'
def isNum (a b : Nat) (l : List UInt8) : Bool := decide (a ≤ l.length) && decide (l.length ≤ b) && l.all digB
def smallB (c : UInt8) : UInt8 := if 65 ≤ c.toNat ∧ c.toNat ≤ 90 then c + 32 else c
def smallL (l : List UInt8) : List UInt8 := l.map smallB
def trimL (l : List UInt8) : List UInt8 := Lib.trimS l [32, 9]
def numL (l : List UInt8) : Nat := l.foldl (fun n c => 10 * n + (c.toNat - 48)) 0
def tEnd : List UInt8 := [13, 10]
/-- What is cut off at the end of a line. -/
def cutL (s : List UInt8) : List UInt8 := if 0 ≤ Lib.index s tEnd then s.take (Lib.index s tEnd).toNat else s
def cutR (s : List UInt8) : List UInt8 := if 0 ≤ Lib.index s tEnd then s.drop ((Lib.index s tEnd).toNat + 2) else []
def endedB (s : List UInt8) : Bool := decide (0 ≤ Lib.index s tEnd)
def t10 : List UInt8 := [72, 84, 84, 80, 47, 49, 46, 48]
def t11 : List UInt8 := [72, 84, 84, 80, 47, 49, 46, 49]
abbrev Fld := List UInt8 × List UInt8
/-- A status line: is it of version 1.0, and its number. -/
def firstL (l : List UInt8) : Option (Bool × Nat) :=
  if (Lib.cut (Lib.cut l [32]).2.1 [32]).2.2 = true ∧ isNum 3 3 (Lib.cut (Lib.cut l [32]).2.1 [32]).1 = true ∧ mayText (Lib.cut (Lib.cut l [32]).2.1 [32]).2.1 = true then
    if (Lib.cut l [32]).1 = t10 then some (true, numL (Lib.cut (Lib.cut l [32]).2.1 [32]).1)
    else if (Lib.cut l [32]).1 = t11 then some (false, numL (Lib.cut (Lib.cut l [32]).2.1 [32]).1) else none
  else none
/-- A field's line. -/
def fieldL (l : List UInt8) : Option Fld :=
  if (Lib.cut l [58]).2.2 = true ∧ mayName (Lib.cut l [58]).1 = true ∧ mayText (Lib.cut l [58]).2.1 = true then some (smallL (Lib.cut l [58]).1, trimL (Lib.cut l [58]).2.1) else none
inductive Rw where
  | part | bad | whole (fs : List Fld) (rest : Nat)
def laterL (fs : List Fld) (l : List UInt8) : Option (List Fld) :=
  match fieldL l with
  | none => none
  | some f => if fs.length = 64 then none else some (fs ++ [f])
/-- The lines behind the first one. -/
def rowsN : Nat → List UInt8 → List Fld → Rw
  | 0, _, _ => .part
  | k + 1, s, fs => if endedB s = true then (if cutL s = [] then .whole fs (cutR s).length else
      match laterL fs (cutL s) with
      | none => .bad
      | some fs' => rowsN k (cutR s) fs') else .part
inductive Rd where
  | err (e : Nat) | part | whole (old : Bool) (status : Nat) (fs : List Fld) (size : Nat)
def partL (n : Nat) : Rd := if 8192 ≤ n then .err 13 else .part
def rowsR (n m : Nat) (old : Bool) (st : Nat) : Rw → Rd
  | .part => partL n
  | .bad => .err 10
  | .whole fs r => .whole old st fs (m - r)
/-- The head of bytes, line by line. -/
def readB (n : Nat) (b : List UInt8) : Rd :=
  if endedB b = true then
    match firstL (cutL b) with
    | none => .err 9
    | some (old, st) => rowsR n b.length old st (rowsN b.length (cutR b) [])
  else partL n
def readL (l : List UInt8) : Rd := readB l.length (l.take 8192)
def valuesL (name : List UInt8) (fs : List Fld) : List (List UInt8) := (fs.filter (fun f => f.1 == name)).map (·.2)
def agreeL (ls : List (List UInt8)) : Bool := ls.all (fun s => s == ls.headD [] && isNum 1 15 s)
/-- What stands between commas. -/
def piecesN : Nat → List UInt8 → List (List UInt8)
  | 0, _ => []
  | k + 1, v => (Lib.cut v [44]).1 :: (if (Lib.cut v [44]).2.2 = true then piecesN k (Lib.cut v [44]).2.1 else [])
def wordsL (v : List UInt8) : List (List UInt8) := (piecesN (v.length + 1) v).map fun p => smallL (trimL p)
def tLen : List UInt8 := [99, 111, 110, 116, 101, 110, 116, 45, 108, 101, 110, 103, 116, 104]
def tCod : List UInt8 := [116, 114, 97, 110, 115, 102, 101, 114, 45, 101, 110, 99, 111, 100, 105, 110, 103]
def tCon : List UInt8 := [99, 111, 110, 110, 101, 99, 116, 105, 111, 110]
def tChunked : List UInt8 := [99, 104, 117, 110, 107, 101, 100]
def tClose : List UInt8 := [99, 108, 111, 115, 101]
def tKeep : List UInt8 := [107, 101, 101, 112, 45, 97, 108, 105, 118, 101]
/-- Words, one after the other: what is known of the end of the connection; true in front: it is over. -/
def stepW (st : Bool × Bool) (x : List UInt8) : Bool × Bool := if st.1 = true then st else if x = tClose then (true, true) else if x = tKeep then (false, false) else st
def closesL (vs : List (List UInt8)) (old : Bool) : Bool := (((vs.map wordsL).flatten).foldl stepW (false, old)).2
structure Hd where
  status : Nat
  length : Int
  chunked : Bool
  close : Bool
/-- What the lines of a whole head tell. -/
def tellL (old : Bool) (st : Nat) (fs : List Fld) : Hd ⊕ Nat :=
  let ls := valuesL tLen fs
  let cs := valuesL tCod fs
  if agreeL ls = false ∨ (0 < ls.length ∧ 0 < cs.length) then .inr 11
  else if 0 < cs.length ∧ (old = true ∨ 1 < cs.length ∨ smallL (cs.headD []) ≠ tChunked) then .inr 12
  else
    let n : Int := if 0 < ls.length then (numL (ls.headD []) : Int) else -1
    .inl ⟨st, n, decide (0 < cs.length), (decide (n < 0) && !decide (0 < cs.length)) || closesL (valuesL tCon fs) old⟩
/-- What a head tells: an error; not whole; what, and how many bytes. -/
inductive Ps where
  | err (e : Nat) | part | whole (h : Hd) (size : Nat)
def parseR : Rd → Ps
  | .err e => .err e
  | .part => .part
  | .whole old st fs n => match tellL old st fs with
    | .inr e => .err e
    | .inl h => .whole h n
def parseL (l : List UInt8) : Ps := parseR (readL l)
end Go.Proofs.YtlelemjmknbnaaaGreatDoor
