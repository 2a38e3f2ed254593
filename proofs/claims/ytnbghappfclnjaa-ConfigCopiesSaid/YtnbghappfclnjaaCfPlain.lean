/- Targets, plainly: a target's offset, its turns; no walk. -/
import Derived.Test.YtnbghappfclnjaaLabPlain
namespace Go.Proofs.Ytnbghappfclnjaa

/-- FNV-1a of 64 bits, from n on. -/
def fnvS (n : Nat) (c : UInt8) : Nat := ((n ^^^ c.toNat) * 1099511628211) % 18446744073709551616
theorem fnvS_lt (n : Nat) (c : UInt8) : fnvS n c < 18446744073709551616 := Nat.mod_lt _ (by omega)
def fnvL (n : Nat) (l : List UInt8) : Nat := l.foldl fnvS n
def fnv0 : Nat := 14695981039346656037
theorem foldl_snoc {α β : Type} (f : α → β → α) (n : α) (l : List β) (c : β) : (l ++ [c]).foldl f n = f (l.foldl f n) c := by simp
theorem foldl_pair {α β : Type} (f : α → β → α) (n : α) (l m : List β) : (l ++ m).foldl f n = m.foldl f (l.foldl f n) := by simp
theorem fnvL_snoc (n : Nat) (l : List UInt8) (c : UInt8) : fnvL n (l ++ [c]) = fnvS (fnvL n l) c := foldl_snoc fnvS n l c
theorem fnvL_append (n : Nat) (l m : List UInt8) : fnvL n (l ++ m) = fnvL (fnvL n l) m := foldl_pair fnvS n l m
theorem fnvL_lt {n : Nat} (h : n < 18446744073709551616) (l : List UInt8) : fnvL n l < 18446744073709551616 := by
  induction l generalizing n with
  | nil => exact h
  | cons c l ih => exact ih (n := fnvS n c) (fnvS_lt n c)
theorem fnvL_take {n : Nat} {l : List UInt8} {k : Nat} {c : UInt8} (h : l[k]? = some c) : fnvL n (l.take (k + 1)) = fnvS (fnvL n (l.take k)) c := by
  rw [List.take_add_one, h]
  exact fnvL_snoc n _ c
/-- A target, plainly. -/
structure Tg where
  job : ByteArray
  host : ByteArray
  path : ByteArray
  iv : Int
  tm : Int
def Tg.val (t : Tg) : Value := .agg #[.string t.job, .string t.host, .string t.path, .int .i64 t.iv, .int .i64 t.tm]
def Tg.size (t : Tg) : Nat := t.job.size + t.host.size + t.path.size
def tagL (j h p : List UInt8) : List UInt8 := j ++ 0 :: (h ++ 0 :: p)
def Tg.num (t : Tg) : Nat := fnvL fnv0 (tagL t.job.data.toList t.host.data.toList t.path.data.toList)
theorem Tg.num_lt (t : Tg) : t.num < 18446744073709551616 := fnvL_lt (by unfold fnv0; omega) _
/-- Its offset (of an interval that may be). -/
def Tg.off (t : Tg) : Nat := t.num % t.iv.toNat
/-- The first turn at a time, or behind it. -/
def dueN (iv o n : Nat) : Nat := if n % iv ≤ o then n - n % iv + o else n - n % iv + iv + o
theorem dueN_ge {iv o n : Nat} (ho : o < iv) : n ≤ dueN iv o n ∧ dueN iv o n < n + iv := by
  unfold dueN
  have h1 := Nat.mod_lt n (show 0 < iv by omega)
  have h2 := Nat.mod_le n iv
  split <;> omega
theorem dueN_mod {iv o n : Nat} (ho : o < iv) : dueN iv o n % iv = o := by
  have h2 := Nat.div_add_mod n iv
  unfold dueN
  split
  · rw [show n - n % iv + o = o + iv * (n / iv) by omega, Nat.add_mul_mod_self_left, Nat.mod_eq_of_lt ho]
  · rw [show n - n % iv + iv + o = o + iv * (n / iv + 1) by rw [Nat.mul_add]; omega, Nat.add_mul_mod_self_left, Nat.mod_eq_of_lt ho]
/-- It is the only one of what is left that lies so. -/
theorem dueN_only {iv o n x : Nat} (ho : o < iv) (h1 : n ≤ x) (h2 : x < n + iv) (h3 : x % iv = o) : x = dueN iv o n := by
  obtain ⟨g1, g2⟩ := dueN_ge (n := n) ho
  have g3 := dueN_mod (n := n) ho
  have hx := Nat.div_add_mod x iv
  have hd := Nat.div_add_mod (dueN iv o n) iv
  rw [h3] at hx
  rw [g3] at hd
  obtain ⟨a, ha⟩ : ∃ a, a = x / iv := ⟨_, rfl⟩
  obtain ⟨b, hb⟩ : ∃ b, b = dueN iv o n / iv := ⟨_, rfl⟩
  rw [← ha] at hx
  rw [← hb] at hd
  rcases Nat.lt_trichotomy a b with h | h | h
  · have := Nat.mul_le_mul_left iv (show a + 1 ≤ b from h)
    rw [Nat.mul_add] at this
    omega
  · subst h
    omega
  · have := Nat.mul_le_mul_left iv (show b + 1 ≤ a from h)
    rw [Nat.mul_add] at this
    omega
theorem dueN_same {iv o n : Nat} (ho : o < iv) : dueN iv o (dueN iv o n) = dueN iv o n :=
  (dueN_only ho (Nat.le_refl _) (by omega) (dueN_mod ho)).symm
theorem dueN_mono {iv o n m : Nat} (ho : o < iv) (h : n ≤ m) : dueN iv o n ≤ dueN iv o m := by
  obtain ⟨a1, a2⟩ := dueN_ge (n := n) ho
  obtain ⟨b1, b2⟩ := dueN_ge (n := m) ho
  rcases Nat.lt_or_ge m (n + iv) with h1 | h1
  · rcases Nat.lt_or_ge (dueN iv o n) m with h2 | h2
    · omega
    · rw [← dueN_only ho h2 (by omega) (dueN_mod ho)]
      exact Nat.le_refl _
  · omega
end Go.Proofs.Ytnbghappfclnjaa
