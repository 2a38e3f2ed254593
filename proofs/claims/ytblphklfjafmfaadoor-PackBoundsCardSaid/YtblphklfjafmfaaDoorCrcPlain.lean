/- CRC-32 plainly, on natural numbers: by bits, by halves of a byte; that it is injective. No walk. -/
namespace Go.Proofs.YtblphklfjafmfaaDoor

/-- A sum by one bit further. -/
def crc1 (n : Nat) : Nat := if n % 2 = 1 then (n / 2) ^^^ 3988292384 else n / 2
def crcN : Nat → Nat → Nat
  | 0, n => n
  | k + 1, n => crc1 (crcN k n)
def crcStep (s c : Nat) : Nat := crcN 8 (s ^^^ c)
def crcL (s : Nat) (l : List Nat) : Nat := l.foldl crcStep s
def sumN (l : List Nat) : Nat := 4294967295 ^^^ crcL 4294967295 l

theorem xor_mod2 (a b : Nat) : (a ^^^ b) % 2 = (a % 2 + b % 2) % 2 := by
  have h := @Nat.xor_mod_two_pow a b 1
  rw [Nat.pow_one] at h
  rw [h]
  rcases Nat.mod_two_eq_zero_or_one a with h1 | h1 <;> rcases Nat.mod_two_eq_zero_or_one b with h2 | h2 <;> simp [h1, h2]
theorem xor_swap4 (a b c : Nat) : (a ^^^ c) ^^^ (b ^^^ c) = a ^^^ b := by
  rw [Nat.xor_assoc, Nat.xor_comm b c, ← Nat.xor_assoc c c b, Nat.xor_self, Nat.zero_xor]
theorem crc1_xor (a b : Nat) : crc1 (a ^^^ b) = crc1 a ^^^ crc1 b := by
  unfold crc1
  rw [xor_mod2, Nat.xor_div_two]
  rcases Nat.mod_two_eq_zero_or_one a with h1 | h1 <;> rcases Nat.mod_two_eq_zero_or_one b with h2 | h2 <;> simp only [h1, h2]
  · simp
  · simp [Nat.xor_assoc]
  · simp only [Nat.add_zero, if_true]
    simp only [Nat.one_mod, if_true, Nat.zero_ne_one, if_false]
    rw [Nat.xor_assoc, Nat.xor_assoc, Nat.xor_comm (b / 2)]
  · simp only [if_true]
    rw [xor_swap4]
    simp
theorem crcN_xor (k a b : Nat) : crcN k (a ^^^ b) = crcN k a ^^^ crcN k b := by
  induction k with
  | zero => rfl
  | succ k ih => simp only [crcN, ih, crc1_xor]
theorem crcN_add (j k n : Nat) : crcN (j + k) n = crcN j (crcN k n) := by
  induction j with
  | zero => simp [crcN]
  | succ j ih => rw [Nat.succ_add]; simp only [crcN, ih]
theorem crc1_even (q : Nat) : crc1 (2 * q) = q := by
  unfold crc1
  rw [if_neg (by omega)]
  omega
theorem crcN_high (q : Nat) : crcN 4 (16 * q) = q := by
  show crc1 (crc1 (crc1 (crc1 (16 * q)))) = q
  rw [show 16 * q = 2 * (8 * q) by omega, crc1_even, show 8 * q = 2 * (4 * q) by omega, crc1_even, show 4 * q = 2 * (2 * q) by omega, crc1_even, crc1_even]
theorem split16 (n : Nat) : n = (16 * (n / 16)) ^^^ (n % 16) := by
  apply Nat.eq_of_testBit_eq
  intro i
  rw [Nat.testBit_xor, show (16 : Nat) = 2 ^ 4 by rfl, Nat.testBit_two_pow_mul, Nat.testBit_mod_two_pow, Nat.testBit_div_two_pow]
  by_cases h : i < 4
  · rw [decide_eq_false (by omega), decide_eq_true h]; simp
  · rw [decide_eq_true (by omega), decide_eq_false h, show i - 4 + 4 = i by omega]; simp
theorem crc_half (n : Nat) : crcN 4 n = (n / 16) ^^^ crcN 4 (n % 16) := by
  conv => lhs; rw [split16 n]
  rw [crcN_xor, crcN_high]
theorem crc_byte (n : Nat) : crcN 8 n = (crcN 4 n / 16) ^^^ crcN 4 (crcN 4 n % 16) := by
  rw [show 8 = 4 + 4 by rfl, crcN_add, crc_half (crcN 4 n)]

theorem crcL_cons (s c : Nat) (l : List Nat) : crcL s (c :: l) = crcL (crcN 8 (s ^^^ c)) l := by
  unfold crcL
  rw [List.foldl_cons, crcStep]
theorem crc1_lt {n : Nat} (h : n < 4294967296) : crc1 n < 4294967296 := by
  unfold crc1
  split
  · exact @Nat.xor_lt_two_pow _ _ 32 (by omega) (by omega)
  · omega
theorem crcN_lt {n : Nat} (k : Nat) (h : n < 4294967296) : crcN k n < 4294967296 := by
  induction k with
  | zero => exact h
  | succ k ih => exact crc1_lt ih
theorem xor_lt32 {a b : Nat} (ha : a < 4294967296) (hb : b < 4294967296) : a ^^^ b < 4294967296 := @Nat.xor_lt_two_pow _ _ 32 ha hb
theorem crcL_lt {s : Nat} (h : s < 4294967296) (l : List Nat) (hl : ∀ c ∈ l, c < 256) : crcL s l < 4294967296 := by
  induction l generalizing s with
  | nil => exact h
  | cons c l ih =>
    have hc := hl c (by simp)
    have h1 : s ^^^ c < 4294967296 := xor_lt32 h (by omega)
    have h2 := crcN_lt 8 h1
    rw [crcL_cons]
    exact ih h2 (fun x hx => hl x (by simp [hx]))
theorem crcL_snoc (s : Nat) (l : List Nat) (c : Nat) : crcL s (l ++ [c]) = crcN 8 (crcL s l ^^^ c) := by
  unfold crcL
  rw [List.foldl_append, List.foldl_cons, List.foldl_nil, crcStep]
theorem crcL_append (s : Nat) (l r : List Nat) : crcL s (l ++ r) = crcL (crcL s l) r := by
  unfold crcL
  rw [List.foldl_append]

theorem xor_cancel {a b c : Nat} (h : a ^^^ c = b ^^^ c) : a = b := by
  have := congrArg (· ^^^ c) h
  simpa [Nat.xor_assoc] using this
theorem xor_cancel_left {a b c : Nat} (h : c ^^^ a = c ^^^ b) : a = b := by
  rw [Nat.xor_comm c a, Nat.xor_comm c b] at h
  exact xor_cancel h
theorem odd_top {n : Nat} (h : n < 4294967296) : (crc1 n).testBit 31 = decide (n % 2 = 1) := by
  unfold crc1
  have h1 : (n / 2).testBit 31 = false := Nat.testBit_lt_two_pow (by omega)
  split
  · rename_i h2
    rw [Nat.testBit_xor, h1, decide_eq_true h2]
    decide
  · rename_i h2
    rw [h1, decide_eq_false h2]
theorem crc1_inj {a b : Nat} (ha : a < 4294967296) (hb : b < 4294967296) (h : crc1 a = crc1 b) : a = b := by
  have h1 := odd_top ha
  have h2 := odd_top hb
  rw [h, h2] at h1
  unfold crc1 at h
  by_cases ca : a % 2 = 1
  · by_cases cb : b % 2 = 1
    · rw [if_pos ca, if_pos cb] at h
      have := xor_cancel h
      omega
    · simp [ca, cb] at h1
  · by_cases cb : b % 2 = 1
    · simp [ca, cb] at h1
    · rw [if_neg ca, if_neg cb] at h
      omega
theorem crcN_inj (k : Nat) {a b : Nat} (ha : a < 4294967296) (hb : b < 4294967296) (h : crcN k a = crcN k b) : a = b := by
  induction k with
  | zero => exact h
  | succ k ih => exact ih (crc1_inj (crcN_lt k ha) (crcN_lt k hb) h)
theorem crcL_inj {a b : Nat} (ha : a < 4294967296) (hb : b < 4294967296) (l : List Nat) (hl : ∀ c ∈ l, c < 256) (h : crcL a l = crcL b l) : a = b := by
  induction l generalizing a b with
  | nil => exact h
  | cons c l ih =>
    rw [crcL_cons, crcL_cons] at h
    have hc := hl c (by simp)
    have g1 : a ^^^ c < 4294967296 := xor_lt32 ha (by omega)
    have g2 : b ^^^ c < 4294967296 := xor_lt32 hb (by omega)
    have h1 := ih (crcN_lt 8 g1) (crcN_lt 8 g2) (fun x hx => hl x (by simp [hx])) h
    exact xor_cancel (crcN_inj 8 g1 g2 h1)
/-- One byte that is another one: another sum. -/
theorem sum_other (p q : List Nat) (u v : Nat) (hp : ∀ c ∈ p, c < 256) (hq : ∀ c ∈ q, c < 256) (hu : u < 256) (hv : v < 256) (h : u ≠ v) : sumN (p ++ u :: q) ≠ sumN (p ++ v :: q) := by
  intro e
  have e1 := xor_cancel_left e
  rw [crcL_append, crcL_append] at e1
  have hs := crcL_lt (s := 4294967295) (by decide) p hp
  rw [crcL_cons, crcL_cons] at e1
  have g1 : crcL 4294967295 p ^^^ u < 4294967296 := xor_lt32 hs (by omega)
  have g2 : crcL 4294967295 p ^^^ v < 4294967296 := xor_lt32 hs (by omega)
  have e2 := crcL_inj (crcN_lt 8 g1) (crcN_lt 8 g2) q hq e1
  exact h (xor_cancel_left (crcN_inj 8 g1 g2 e2))
theorem sum_lt (l : List Nat) (hl : ∀ c ∈ l, c < 256) : sumN l < 4294967296 := xor_lt32 (by decide) (crcL_lt (by decide) l hl)
theorem sum_known : sumN [49, 50, 51, 52, 53, 54, 55, 56, 57] = 3421780262 := by decide +kernel
theorem sum_nil : sumN [] = 0 := by decide +kernel
end Go.Proofs.YtblphklfjafmfaaDoor
