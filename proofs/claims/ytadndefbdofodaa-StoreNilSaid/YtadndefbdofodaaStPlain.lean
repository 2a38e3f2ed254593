/- A store, plainly: samples, series by rising names, what becomes of a sample; no walk. -/
import Derived.Test.YtadndefbdofodaaLabPlain
namespace Go.Proofs.Ytadndefbdofodaa

structure Smp where
  name : ByteArray
  val : Int
  tm : Int
  cnt : Bool
structure Lst where
  s : Smp
  live : Bool
  own : Int
structure One where
  name : ByteArray
  l : Lst
structure Sn where
  s : Smp
  v : Int
  chain : Bool
  ahead : Int
instance : Inhabited Smp := ⟨⟨⟨#[]⟩, 0, 0, false⟩⟩
instance : Inhabited One := ⟨⟨⟨#[]⟩, ⟨⟨⟨#[]⟩, 0, 0, false⟩, false, 0⟩⟩⟩
def Smp.cells (s : Smp) : List Value := [.string s.name, .int .i64 s.val, .int .i64 s.tm, .bool s.cnt]
def Lst.cells (l : Lst) : List Value := [.string l.s.name, .int .i64 l.s.val, .int .i64 l.s.tm, .bool l.s.cnt, .bool l.live, .int .i64 l.own]
def One.cells (o : One) : List Value := [.string o.name, .string o.l.s.name, .int .i64 o.l.s.val, .int .i64 o.l.s.tm, .bool o.l.s.cnt, .bool o.l.live, .int .i64 o.l.own]
def Sn.cells (x : Sn) : List Value := [.string x.s.name, .int .i64 x.s.val, .int .i64 x.s.tm, .bool x.s.cnt, .int .i64 x.v, .bool x.chain, .int .i64 x.ahead]
def Smp.val' (s : Smp) : Value := .agg #[.string s.name, .int .i64 s.val, .int .i64 s.tm, .bool s.cnt]
def Lst.val' (l : Lst) : Value := .agg #[.string l.s.name, .int .i64 l.s.val, .int .i64 l.s.tm, .bool l.s.cnt, .bool l.live, .int .i64 l.own]
def Sn.val' (x : Sn) : Value := .agg #[.string x.s.name, .int .i64 x.s.val, .int .i64 x.s.tm, .bool x.s.cnt, .int .i64 x.v, .bool x.chain, .int .i64 x.ahead]
/-- Names, compared as the walk compares them. -/
def eqN (a b : ByteArray) : Bool := a.toList == b.toList
theorem eqN_iff {a b : ByteArray} : eqN a b = true ↔ a = b := by
  unfold eqN
  rw [beq_iff_eq]
  constructor
  · intro h
    rw [Lib.toList_data, Lib.toList_data] at h
    obtain ⟨⟨a⟩⟩ := a
    obtain ⟨⟨b⟩⟩ := b
    simp only at h
    rw [h]
  · rintro rfl; rfl
theorem eqN_self (a : ByteArray) : eqN a a = true := eqN_iff.2 rfl
theorem eqN_no {a b : ByteArray} (h : ¬ a = b) : eqN a b = false := by
  cases e : eqN a b with
  | false => rfl
  | true => exact absurd (eqN_iff.1 e) h
def ltB (a b : ByteArray) : Bool := ltN a.data.toList b.data.toList
/-- The place of a series. -/
def ofN (n : ByteArray) : List One → Option Nat
  | [] => none
  | y :: L => if eqN y.name n then some 0 else (ofN n L).map (· + 1)
theorem ofN_some {n : ByteArray} : ∀ {L : List One} {i : Nat}, ofN n L = some i → ∃ y, L[i]? = some y ∧ y.name = n ∧ ∀ j z, j < i → L[j]? = some z → ¬ z.name = n
  | [], i, h => by cases h
  | y :: L, i, h => by
    unfold ofN at h
    split at h
    · rename_i e
      cases h
      exact ⟨y, rfl, eqN_iff.1 e, fun j z hj => absurd hj (by omega)⟩
    · rename_i e
      cases hm : ofN n L with
      | none => rw [hm] at h; cases h
      | some k =>
        rw [hm] at h
        cases h
        obtain ⟨z, h1, h2, h3⟩ := ofN_some hm
        refine ⟨z, by simpa using h1, h2, fun j u hj hu => ?_⟩
        cases j with
        | zero => simp at hu; subst hu; exact fun h => e (eqN_iff.2 h)
        | succ j => exact h3 j u (Nat.lt_of_succ_lt_succ hj) (by simpa using hu)
theorem ofN_none {n : ByteArray} : ∀ {L : List One}, ofN n L = none → ∀ y ∈ L, ¬ y.name = n
  | [], _, y, hy => by cases hy
  | z :: L, h, y, hy => by
    unfold ofN at h
    split at h
    · cases h
    · rename_i e
      cases hm : ofN n L with
      | some k => rw [hm] at h; cases h
      | none =>
        rcases List.mem_cons.1 hy with rfl | hy
        · exact fun h => e (eqN_iff.2 h)
        · exact ofN_none hm y hy
theorem ofN_here {n : ByteArray} : ∀ {L : List One} {i : Nat} {y : One}, L[i]? = some y → y.name = n → (∀ j z, j < i → L[j]? = some z → ¬ z.name = n) → ofN n L = some i
  | [], i, y, h, _, _ => by simp at h
  | z :: L, 0, y, h, e, _ => by
    simp at h
    subst h
    unfold ofN
    rw [if_pos (eqN_iff.2 e)]
  | z :: L, i + 1, y, h, e, hn => by
    unfold ofN
    rw [if_neg (fun h' => hn 0 z (by omega) rfl (eqN_iff.1 h')), ofN_here (by simpa using h) e (fun j u hj hu => hn (j + 1) u (by omega) (by simpa using hu))]
    rfl
theorem ofN_lost {n : ByteArray} {L : List One} (h : ∀ y ∈ L, ¬ y.name = n) : ofN n L = none := by
  cases e : ofN n L with
  | none => rfl
  | some i =>
    obtain ⟨y, h1, h2, _⟩ := ofN_some e
    exact absurd h2 (h y (List.mem_of_getElem? h1))
/-- How many stand ahead of a name. -/
def atN (n : ByteArray) : List One → Nat
  | [] => 0
  | y :: L => if ltB y.name n then atN n L + 1 else 0
theorem atN_le (n : ByteArray) : ∀ L : List One, atN n L ≤ L.length
  | [] => Nat.le_refl _
  | y :: L => by
    unfold atN
    have := atN_le n L
    split <;> simp <;> omega
theorem atN_ahead {n : ByteArray} : ∀ {L : List One} {j : Nat} {y : One}, j < atN n L → L[j]? = some y → ltB y.name n = true
  | [], j, y, h, _ => by simp [atN] at h
  | z :: L, j, y, h, hy => by
    unfold atN at h
    split at h
    · rename_i e
      cases j with
      | zero => simp at hy; subst hy; exact e
      | succ j => exact atN_ahead (L := L) (j := j) (Nat.lt_of_succ_lt_succ h) (by simpa using hy)
    · omega
theorem atN_here {n : ByteArray} : ∀ {L : List One} {y : One}, L[atN n L]? = some y → ltB y.name n = false
  | [], y, h => by simp [atN] at h
  | z :: L, y, h => by
    unfold atN at h
    split at h
    · exact atN_here (by simpa using h)
    · rename_i e
      simp at h
      subst h
      simpa using e
/-- It is the only place: all ahead of it are below, and it is not. -/
theorem atN_only {n : ByteArray} {L : List One} {k : Nat} (hk : k ≤ L.length) (h1 : ∀ j y, j < k → L[j]? = some y → ltB y.name n = true) (h2 : ∀ y, L[k]? = some y → ltB y.name n = false) : atN n L = k := by
  rcases Nat.lt_trichotomy (atN n L) k with h | h | h
  · obtain ⟨y, hy⟩ : ∃ y, L[atN n L]? = some y := ⟨_, List.getElem?_eq_getElem (by omega)⟩
    have := atN_here hy
    rw [h1 _ y h hy] at this
    cases this
  · exact h
  · have hl := atN_le n L
    obtain ⟨y, hy⟩ : ∃ y, L[k]? = some y := ⟨_, List.getElem?_eq_getElem (by omega)⟩
    have := atN_ahead h hy
    rw [h2 y hy] at this
    cases this
def nowL (owner : Int) (x : Smp) : Lst := ⟨x, true, owner⟩
/-- What becomes of a sample, and the series behind it. -/
def oneP (most : Nat) (owner : Int) (x : Smp) (L : List One) : Sn × List One :=
  match ofN x.name L with
  | none => if most ≤ L.length then (⟨x, 4, false, 0⟩, L) else (⟨x, 1, false, 0⟩, L.take (atN x.name L) ++ ⟨x.name, nowL owner x⟩ :: L.drop (atN x.name L))
  | some i => match L[i]? with
    | none => (⟨x, 1, false, 0⟩, L)
    | some y => if x.tm < y.l.s.tm then (⟨x, 2, false, 0⟩, L) else if x.tm = y.l.s.tm then (⟨x, 3, false, 0⟩, L) else (if y.l.live then ⟨x, 1, true, y.l.s.val⟩ else ⟨x, 1, false, 0⟩, L.set i ⟨y.name, nowL owner x⟩)
def putsP (most : Nat) (owner : Int) : List Smp → List One → List Sn × List One
  | [], L => ([], L)
  | x :: l, L => let r := oneP most owner x L; let q := putsP most owner l r.2; (r.1 :: q.1, q.2)
def amongB (l : List Smp) (n : ByteArray) : Bool := l.any (fun x => eqN x.name n)
def staleB (owner : Int) (l : List Smp) (y : One) : One := if y.l.own = owner ∧ amongB l y.name = false then ⟨y.name, ⟨y.l.s, false, y.l.own⟩⟩ else y
def putP (most : Nat) (owner : Int) (l : List Smp) (L : List One) : List Sn × List One :=
  ((putsP most owner l L).1, (putsP most owner l L).2.map (staleB owner l))
theorem oneP_len (most : Nat) (owner : Int) (x : Smp) (L : List One) : L.length ≤ (oneP most owner x L).2.length ∧ (oneP most owner x L).2.length ≤ L.length + 1 := by
  unfold oneP
  have h := atN_le x.name L
  split
  · split
    · exact ⟨Nat.le_refl _, Nat.le_succ _⟩
    · simp; omega
  · split
    · exact ⟨Nat.le_refl _, Nat.le_succ _⟩
    · split
      · exact ⟨Nat.le_refl _, Nat.le_succ _⟩
      · split
        · exact ⟨Nat.le_refl _, Nat.le_succ _⟩
        · simp
theorem putsP_snoc (most : Nat) (owner : Int) (x : Smp) : ∀ (l : List Smp) (L : List One), putsP most owner (l ++ [x]) L = ((putsP most owner l L).1 ++ [(oneP most owner x (putsP most owner l L).2).1], (oneP most owner x (putsP most owner l L).2).2)
  | [], L => rfl
  | y :: l, L => by
    show ((oneP most owner y L).1 :: (putsP most owner (l ++ [x]) _).1, (putsP most owner (l ++ [x]) _).2) = _
    rw [putsP_snoc most owner x l]
    rfl
end Go.Proofs.Ytadndefbdofodaa
