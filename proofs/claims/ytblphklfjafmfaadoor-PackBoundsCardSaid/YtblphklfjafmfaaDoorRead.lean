/- pack.readNumber: the walk. -/
import Derived.Test.YtblphklfjafmfaaDoorPut
import Derived.Lib.EndianBits
namespace Go.Proofs.YtblphklfjafmfaaDoor
open Go.RowKit

/-- What stands ahead: the number and how many bytes it has, or an error's number. -/
def readG (i acc : Nat) : List UInt8 → (Nat × Nat) ⊕ Nat
  | [] => .inr 11
  | c :: l => if i = 9 ∧ 1 < c.toNat then .inr 4 else if c.toNat = 0 ∧ 0 < i then .inr 4 else if c.toNat < 128 then .inl (acc + c.toNat * 128 ^ i, i + 1) else readG (i + 1) (acc + (c.toNat - 128) * 128 ^ i) l
/-- A fault lies at p: some words, and an error's number. -/
def FaultAt (w : World) (p : Addr) (code : Nat) : Prop := ∃ g s, p = ⟨g, 0, none⟩ ∧ w.heap[g]? = some (.cells #[.string s, .iface 30 (.int .i64 code)] 54 (0, 0))
def RdPost (r : (Nat × Nat) ⊕ Nat) (w : World) (e : Ending) (w' : World) : Prop :=
  match r with
  | .inl (n, k) => e = .returned (.tuple #[.int .u64 n, .int .i64 k, .nilIface]) ∧ w = w'
  | .inr c => ∃ p, e = .returned (.tuple #[.int .u64 0, .int .i64 0, .iface 52 (.pointer (some p))]) ∧ FaultAt w' p c ∧ w.heap.size ≤ p.block ∧ Below w.heap.size w w'

theorem readG_cons (i acc : Nat) (c : UInt8) (l : List UInt8) : readG i acc (c :: l) = if i = 9 ∧ 1 < c.toNat then .inr 4 else if c.toNat = 0 ∧ 0 < i then .inr 4 else if c.toNat < 128 then .inl (acc + c.toNat * 128 ^ i, i + 1) else readG (i + 1) (acc + (c.toNat - 128) * 128 ^ i) l := rfl
theorem pow_128 (k : Nat) : 128 ^ k = 2 ^ (7 * k) := by rw [Nat.pow_mul]
theorem acc_lt (acc n k : Nat) (h : acc < 128 ^ k) (hn : n < 128) : acc + n * 128 ^ k < 128 ^ (k + 1) := by
  rw [Nat.pow_succ]
  have h1 : n * 128 ^ k ≤ 127 * 128 ^ k := Nat.mul_le_mul_right _ (by omega)
  omega
theorem top_lt (n k : Nat) (hk : k ≤ 9) (hn : n < 128) (h9 : k = 9 → n ≤ 1) : n * 128 ^ k < 18446744073709551616 := by
  by_cases h : k = 9
  · subst h
    have := h9 rfl
    have : n * 128 ^ 9 ≤ 1 * 128 ^ 9 := Nat.mul_le_mul_right _ this
    omega
  · have h1 : 128 ^ k ≤ 128 ^ 8 := Nat.pow_le_pow_right (by omega) (by omega)
    have : n * 128 ^ k ≤ 127 * 128 ^ 8 := Nat.mul_le_mul (by omega) h1
    omega
theorem or_u64 (acc n k : Nat) (hacc : acc < 128 ^ k) (hn : n < 128) (hk : k ≤ 9) (h9 : k = 9 → n ≤ 1) : bits .or .u64 (acc : Int) (IntKind.u64.wrap ((n : Int) * 2 ^ (7 * k))) = ((acc + n * 128 ^ k : Nat) : Int) := by
  have ht := top_lt n k hk hn h9
  have e : (n : Int) * 2 ^ (7 * k) = ((n * 128 ^ k : Nat) : Int) := by rw [pow_128, Int.natCast_mul, Int.natCast_pow]; rfl
  have hw : IntKind.u64.wrap ((n * 128 ^ k : Nat) : Int) = ((n * 128 ^ k : Nat) : Int) := by rw [IntKind.wrap_u64]; omega
  rw [e, hw]
  have hp : (2 : Int) ^ (7 * k) = ((128 ^ k : Nat) : Int) := by rw [pow_128, Int.natCast_pow]; rfl
  have h64 : 128 ^ k ≤ 128 ^ 9 := Nat.pow_le_pow_right (by omega) hk
  have := bits_join_low .u64 64 (by decide) wraps_u64 (7 * k) (acc : Int) ((n * 128 ^ k : Nat) : Int) (by omega) (by rw [hp]; omega) (by omega) (by omega) (by rw [hp, ← Int.natCast_emod, Nat.mul_mod_left]; rfl) (by omega)
  rw [this, Int.natCast_add]
theorem err_post (w : World) (s : ByteArray) (code : Nat) (v : Value) (hv : v = .pointer (some ⟨w.heap.size, 0, none⟩)) :
    RdPost (.inr code) w (.returned (.tuple #[.int .u64 0, .int .i64 0, .iface 52 v])) (w.alloc (.cells #[.string s, .iface 30 (.int .i64 code)] 54)) := by
  subst hv
  exact ⟨_, rfl, ⟨_, s, rfl, heap_alloc_new w _⟩, Nat.le_refl _, (Below.refl _ _).alloc (Nat.le_refl _) _⟩
theorem ok_post (w : World) (n k : Nat) (x y : Int) (h : x = ((n : Nat) : Int)) (h2 : y = ((k : Nat) : Int)) :
    RdPost (.inl (n, k)) w (.returned (.tuple #[.int .u64 x, .int .i64 y, .nilIface])) w := by
  subst h
  subst h2
  exact ⟨rfl, rfl⟩

set_option maxRecDepth 100000 in
set_option maxHeartbeats 1600000 in
theorem read_some (b off cap : Nat) (L : List UInt8) (w : World) (hm : L.length ≤ maxLen) (hc : ∀ j c, L[j]? = some c → w.cell? ⟨b, off + j, none⟩ = some (bcell c)) :
    Calls Tryd.prog 18 #[.slice (some ⟨b, off, none⟩) L.length cap] w (RdPost (readG 0 0 L) w) := by
  have hm' : (L.length : Int) ≤ 9223372036854775807 := by unfold maxLen at hm; omega
  have HC := Lib.hid hc
  clear hm hc
  go_enter Tryd.func18, Tryd.ntmps18
  go_wp2
  go_loop [5, 10] (fun a i => ∃ (k acc : Nat), k ≤ L.length ∧ k ≤ 9 ∧ acc < 128 ^ k ∧ i = .int .i64 k ∧ a = .int .u64 acc ∧ Hid (readG 0 0 L = readG k acc (L.drop k))) (fun _ i => L.length - (intOf i).toNat)
  case atStart => exact ⟨0, 0, by omega, by omega, by omega, rfl, rfl, Lib.hid rfl⟩
  case round =>
    obtain ⟨k, acc, hk, hk9, hacc, rfl, rfl, HR⟩ := hrel
    by_cases hlt : k < L.length
    · obtain ⟨c, hc⟩ : ∃ c, c = L[k] := ⟨_, rfl⟩
      have hcell : w.cell? ⟨b, off + k, none⟩ = some (.int .u8 (c.toNat : Int)) := by rw [hc]; exact HC.out k _ (List.getElem?_eq_getElem hlt)
      have hdrop : L.drop k = c :: L.drop (k + 1) := by rw [hc]; exact List.drop_eq_getElem_cons hlt
      have hcl : c.toNat < 256 := c.toNat_lt
      rw [hdrop] at HR
      have hdec : decide ((k : Int) < L.length) = true := by simp; omega
      clear hc hdrop
      obtain ⟨n, hn⟩ : ∃ n, n = c.toNat := ⟨_, rfl⟩
      rw [← hn] at hcell hcl
      have HN := Lib.hid hn
      clear hn
      have HRG := Lib.hid (readG_cons k acc c (L.drop (k + 1)))
      rw [← HN.out] at HRG
      by_cases h1 : k = 9 ∧ 1 < n
      · obtain ⟨rfl, h1b⟩ := h1
        have h1c : (1 : Int) < n := by omega
        have HE := Lib.hid (show readG 0 0 L = .inr 4 by rw [HR.out, HRG.out, if_pos ⟨rfl, h1b⟩])
        go_wp2
        go_ret3
        rw [HE.out]
        exact err_post _ _ _ _ rfl
      · have t1 : ((k : Int) == 9) = false ∨ ((k : Int) == 9) = true ∧ ¬ (1 : Int) < n := by
          by_cases h : k = 9
          · exact .inr ⟨beq_iff_eq.2 (by omega), fun hh => h1 ⟨h, by omega⟩⟩
          · exact .inl (beq_eq_false_iff_ne.2 (by omega))
        by_cases h2 : n = 0 ∧ 0 < k
        · obtain ⟨rfl, h2b⟩ := h2
          have h2c : (0 : Int) < k := by omega
          have HE := Lib.hid (show readG 0 0 L = .inr 4 by rw [HR.out, HRG.out, if_neg h1, if_pos ⟨rfl, h2b⟩])
          clear h1
          rcases t1 with t1 | ⟨t1, t1'⟩
          all_goals
            go_wp2
            go_ret3
            rw [HE.out]
            exact err_post _ _ _ _ rfl
        · have t2 : ((n : Int) == 0) = false ∨ ((n : Int) == 0) = true ∧ ¬ (0 : Int) < k := by
            by_cases h : n = 0
            · exact .inr ⟨beq_iff_eq.2 (by omega), fun hh => h2 ⟨h, by omega⟩⟩
            · exact .inl (beq_eq_false_iff_ne.2 (by omega))
          by_cases h3 : n < 128
          · have HE := Lib.hid (show readG 0 0 L = .inl (acc + n * 128 ^ k, k + 1) by rw [HR.out, HRG.out, if_neg h1, if_neg h2, if_pos h3])
            have HO := Lib.hid (or_u64 acc n k hacc h3 hk9 (fun h => by omega))
            clear h1 h2
            rcases t1 with t1 | ⟨t1, t1'⟩
            all_goals
              rcases t2 with t2 | ⟨t2, t2'⟩
              all_goals
                go_wp2
                go_ret3
                rw [HE.out]
                exact ok_post _ _ _ _ _ HO.out (by omega)
          · have hk8 : k ≤ 8 := by omega
            have HE := Lib.hid (show readG 0 0 L = readG (k + 1) (acc + (n - 128) * 128 ^ k) (L.drop (k + 1)) by rw [HR.out, HRG.out, if_neg h1, if_neg h2, if_neg h3])
            have t1' : ((k : Int) == 9) = false := beq_eq_false_iff_ne.2 (by omega)
            have t2' : ((n : Int) == 0) = false := beq_eq_false_iff_ne.2 (by omega)
            have HO := Lib.hid (or_u64 acc (n - 128) k hacc (by omega) hk9 (fun h => by omega))
            have HA := Lib.hid (acc_lt acc (n - 128) k hacc (by omega))
            clear h1 h2 t1 t2
            go_wp2
            go_round
            case rel => exact ⟨k + 1, _, by omega, by omega, HA.out, by go_num, congrArg (Value.int .u64) (by rw [show (n : Int) - 128 = ((n - 128 : Nat) : Int) by omega]; exact HO.out), HE⟩
            case measure => simp [intOf]; omega
    · have HE := Lib.hid (show readG 0 0 L = .inr 11 by rw [HR.out, List.drop_eq_nil_of_le (by omega)]; rfl)
      go_wp2
      go_ret3
      rw [HE.out]
      exact err_post _ _ _ _ rfl
end Go.Proofs.YtblphklfjafmfaaDoor
