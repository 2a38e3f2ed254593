/- The document's Offset and Due. -/
import Derived.Test.YtnbghappfclnjaaCfTag
namespace Go.Proofs.Ytnbghappfclnjaa
open Go.RowKit

set_option maxRecDepth 100000 in
set_option maxHeartbeats 1000000 in
theorem roff_any (t : Tg) (w : World) (hs : t.job.size + t.host.size + t.path.size ≤ 6000) (h1 : 1 ≤ t.iv) (h2 : t.iv ≤ 1073741824) :
    Calls Try.prog 11 #[t.val] w fun e w' => e = .returned (.int .i64 (t.off : Nat)) ∧ Below w.heap.size w w' := by
  obtain ⟨j, h, p, iv, tm⟩ := t
  simp only at hs h1 h2
  obtain ⟨iv, rfl⟩ : ∃ n : Nat, iv = n := ⟨iv.toNat, by omega⟩
  obtain ⟨S, hS⟩ : ∃ S : ByteArray, S = j ++ ⟨#[0]⟩ ++ h ++ ⟨#[0]⟩ ++ p := ⟨_, rfl⟩
  unfold Tg.val
  go_enter Try.func11, Try.ntmps11
  have HZ := Lib.hid (show S.size ≤ 6002 by subst hS; have e : (⟨#[0]⟩ : ByteArray).size = 1 := rfl; simp only [ByteArray.size_append, e]; omega)
  have HT := Lib.hid (show (⟨j, h, p, (iv : Int), tm⟩ : Tg).num = fnvL fnv0 S.data.toList by rw [hS, show j ++ (⟨#[0]⟩ : ByteArray) ++ h ++ ⟨#[0]⟩ ++ p = _ from tag_join ⟨j, h, p, (iv : Int), tm⟩]; rfl)
  have HS := Lib.hid hS
  go_wp2
  rw [← hS]
  clear hS
  have hz := HZ.out
  have hcell : (w.alloc (.cells #[.string j, .string h, .string p, .int .i64 (iv : Int), .int .i64 tm] 23)).cell? ⟨w.heap.size, 3, none⟩ = some (.int .i64 (iv : Int)) := by
    unfold World.cell?
    simp only [heap_alloc_new]
    rfl
  have hbel := (Below.refl w.heap.size w).alloc (Nat.le_refl _) (.cells #[.string j, .string h, .string p, .int .i64 (iv : Int), .int .i64 tm] 23)
  generalize w.alloc (.cells #[.string j, .string h, .string p, .int .i64 (iv : Int), .int .i64 tm] 23) = w1 at hcell hbel ⊢
  go_loop [4, 5] (fun n i => ∃ k : Nat, k ≤ S.size ∧ i = .int .i64 k ∧ n = .int .u64 (fnvL fnv0 (S.data.toList.take k) : Nat)) (fun _ i => S.size - (intOf i).toNat)
  case atStart => exact ⟨0, Nat.zero_le _, rfl, rfl⟩
  case round =>
    obtain ⟨k, hk, rfl, rfl⟩ := hrel
    by_cases hlt : k < S.size
    · obtain ⟨c, hc, hcl⟩ := data_at S k hlt
      have HCL := Lib.hid hcl
      clear hcl
      have hlt' : (k : Int) < (S.size : Int) := by omega
      have hq : (c.toNat : Int) ≤ 255 := by have := c.toNat_lt; omega
      obtain ⟨n, hn⟩ : ∃ n, n = fnvL fnv0 (S.data.toList.take k) := ⟨_, rfl⟩
      have HL := Lib.hid (show n < 18446744073709551616 by rw [hn]; exact fnvL_lt (by unfold fnv0; omega) _)
      have HN := Lib.hid (show fnvL fnv0 (S.data.toList.take (k + 1)) = fnvS n c by rw [hn]; exact fnvL_take HCL.out)
      rw [← hn]
      clear hn
      go_upto_region 6 with fail
      go_cut [4] (fun v wx => wx = w1 ∧ v = .int .u64 ((n ^^^ c.toNat : Nat) : Int))
      case first =>
        go_wp2_with fail
        go_meet
        exact ⟨rfl, congrArg (Value.int .u64) (u64_xor_nat n c.toNat HL.out (by omega))⟩
      case rest =>
      obtain ⟨rfl, rfl⟩ := hcut
      obtain ⟨x, hx⟩ : ∃ x : Int, x = ((n ^^^ c.toNat : Nat) : Int) := ⟨_, rfl⟩
      have HM := Lib.hid (show IntKind.u64.wrap (x * 1099511628211) = ((fnvS n c : Nat) : Int) by rw [hx]; exact fnv_mul n c)
      rw [← hx]
      clear hx
      have hm := HM.out
      go_wp2
      go_round
      case rel => exact ⟨k + 1, by omega, by go_num, by rw [HN.out]⟩
      case measure => simp [intOf] <;> omega
    · have hge : decide ((k : Int) < (S.size : Int)) = false := by simp; omega
      obtain rfl : k = S.size := by omega
      obtain ⟨n, hn⟩ : ∃ n, n = fnvL fnv0 S.data.toList := ⟨_, rfl⟩
      rw [List.take_of_length_le (by rw [← Lib.size_eq]; omega), ← hn]
      have hl : n < 18446744073709551616 := by rw [hn]; exact fnvL_lt (by unfold fnv0; omega) _
      have HO := Lib.hid (show (⟨j, h, p, (iv : Int), tm⟩ : Tg).off = n % iv by unfold Tg.off; rw [HT.out, ← hn]; rfl)
      clear hn
      have hw : IntKind.u64.wrap (iv : Int) = (iv : Int) := by rw [IntKind.wrap_u64]; omega
      have hlt2 := Nat.mod_lt n (show 0 < iv by omega)
      have HR := Lib.hid (show (n : Int) % (iv : Int) = ((n % iv : Nat) : Int) by omega)
      have hr0 : 0 ≤ (n : Int) % (iv : Int) := by rw [HR.out]; omega
      have hr1 : (n : Int) % (iv : Int) ≤ 9223372036854775807 := by rw [HR.out]; omega
      have hr2 : IntKind.i64.wrap ((n : Int) % (iv : Int)) = (n : Int) % (iv : Int) := by
        rw [IntKind.wrap_i64, HR.out]
        omega
      clear hlt2
      go_wp2
      go_ret
      exact ⟨by rw [HO.out]; exact congrArg (fun x => Ending.returned (.int .i64 x)) HR.out, hbel⟩
set_option maxRecDepth 100000 in
set_option maxHeartbeats 1000000 in
theorem rdue_any (t : Tg) (n : Nat) (w : World) (hs : t.job.size + t.host.size + t.path.size ≤ 6000) (h1 : 1 ≤ t.iv) (h2 : t.iv ≤ 1073741824) (hn : n ≤ 2000000000000000) :
    Calls Try.prog 10 #[t.val, .int .i64 n] w fun e w' => e = .returned (.int .i64 (dueN t.iv.toNat t.off n : Nat)) ∧ Below w.heap.size w w' := by
  have HO := Lib.hid (fun W => roff_any t W hs h1 h2)
  obtain ⟨j, h, p, iv, tm⟩ := t
  simp only at hs h1 h2
  obtain ⟨iv, rfl⟩ : ∃ n : Nat, iv = n := ⟨iv.toNat, by omega⟩
  obtain ⟨o, ho⟩ : ∃ o, o = (⟨j, h, p, (iv : Int), tm⟩ : Tg).off := ⟨_, rfl⟩
  rw [← ho] at HO ⊢
  have HL := Lib.hid (show o < iv by rw [ho]; exact Nat.mod_lt _ (by show 0 < (iv : Int).toNat; omega))
  clear ho
  unfold Tg.val at HO ⊢
  simp only [Int.toNat_natCast]
  have hlt := Nat.mod_lt n (show 0 < iv by omega)
  have hle := Nat.mod_le n iv
  obtain ⟨l, hl⟩ : ∃ l, l = n % iv := ⟨_, rfl⟩
  have HM := Lib.hid (show (n : Int) % (iv : Int) = (l : Int) by omega)
  have HD := Lib.hid (show dueN iv o n = if l ≤ o then n - l + o else n - l + iv + o by rw [hl]; rfl)
  rw [← hl] at hlt hle
  clear hl
  go_enter Try.func10, Try.ntmps10
  have hd : (iv : Int) ≠ 0 := by omega
  have hm := HM.out
  go_wp2_with fail
  refine (HO.out _).mono ?_
  rintro e w1 ⟨rfl, hb⟩
  have hbel : Below w.heap.size w w1 := ((Below.refl w.heap.size w).alloc (Nat.le_refl _) _).trans (hb.mono (by simp))
  have hcell : w1.cell? ⟨w.heap.size, 3, none⟩ = some (.int .i64 (iv : Int)) := by
    refine (hb.cell (by simp)).trans ?_
    unfold World.cell?
    simp only [heap_alloc_new]
    rfl
  clear hb
  have ho := HL.out
  by_cases hle2 : l ≤ o
  · have hle3 : (l : Int) ≤ (o : Int) := by omega
    have HE := Lib.hid (show (n : Int) - (l : Int) + (o : Int) = ((dueN iv o n : Nat) : Int) by rw [HD.out, if_pos hle2]; omega)
    have b1 : 0 ≤ (n : Int) - (l : Int) := by omega
    have b2 : (n : Int) - (l : Int) ≤ 2000000000000000 := by omega
    go_wp2
    go_ret
    exact ⟨congrArg (fun x => Ending.returned (.int .i64 x)) HE.out, hbel⟩
  · have hle3 : decide ((l : Int) ≤ (o : Int)) = false := by simp; omega
    have HE := Lib.hid (show (n : Int) - (l : Int) + (iv : Int) + (o : Int) = ((dueN iv o n : Nat) : Int) by rw [HD.out, if_neg hle2]; omega)
    have b1 : 0 ≤ (n : Int) - (l : Int) := by omega
    have b2 : (n : Int) - (l : Int) ≤ 2000000000000000 := by omega
    have b3 : (n : Int) - (l : Int) + (iv : Int) ≤ 2000002000000000 := by omega
    go_wp2
    go_ret
    exact ⟨congrArg (fun x => Ending.returned (.int .i64 x)) HE.out, hbel⟩
end Go.Proofs.Ytnbghappfclnjaa
