/- pack: roomy, add, fold, PutUvarint, PutVarint: contracts; the document's bytes of a number. -/
import Derived.Test.YtblphklfjafmfaaDoorBytes
import Derived.Deep.LoopGhost
namespace Go.Proofs.YtblphklfjafmfaaDoor
open Go.RowKit

/-- A number's bytes: at most k + 1 of them. -/
def putK : Nat → Nat → List UInt8
  | 0, n => [UInt8.ofNat n]
  | k + 1, n => if n < 128 then [UInt8.ofNat n] else UInt8.ofNat (n % 128 + 128) :: putK k (n / 128)
def putL (n : Nat) : List UInt8 := putK 9 n
/-- What a number with a sign is told as. -/
def foldN (n : Int) : Nat := if n < 0 then (-2 * n - 1).toNat else (2 * n).toNat

theorem putK_len (k n : Nat) : 0 < (putK k n).length ∧ (putK k n).length ≤ k + 1 := by
  induction k generalizing n with
  | zero => simp [putK]
  | succ k ih =>
    unfold putK
    split
    · simp
    · have := ih (n / 128)
      simp only [List.length_cons]
      omega
theorem putK_small (k n : Nat) (h : n < 128) : putK k n = [UInt8.ofNat n] := by
  cases k with
  | zero => rfl
  | succ k => unfold putK; rw [if_pos h]
theorem putK_big (k n : Nat) (h : ¬ n < 128) : putK (k + 1) n = UInt8.ofNat (n % 128 + 128) :: putK k (n / 128) := by
  conv => lhs; unfold putK
  rw [if_neg h]
theorem putL_len (n : Nat) : 0 < (putL n).length ∧ (putL n).length ≤ 10 := putK_len 9 n
theorem low_byte : ∀ n : Fin 256, bits .or .u8 (n.val : Int) 128 = ((n.val % 128 + 128 : Nat) : Int) := by decide +kernel
theorem low_byte_of (n : Nat) : bits .or .u8 ((n : Int) % 256) 128 = (((UInt8.ofNat (n % 128 + 128)).toNat : Nat) : Int) := by
  have h := low_byte ⟨n % 256, Nat.mod_lt _ (by decide)⟩
  rw [show (n : Int) % 256 = ((n % 256 : Nat) : Int) by omega]
  refine h.trans ?_
  rw [UInt8.toNat_ofNat']
  simp only
  omega
theorem byte_of (n : Nat) (h : n < 128) : ((n : Nat) : Int) = (((UInt8.ofNat n).toNat : Nat) : Int) := by
  rw [UInt8.toNat_ofNat']
  omega
theorem map_snoc (l : List UInt8) (c : UInt8) (x : Int) (h : x = (c.toNat : Int)) : l.map bcell ++ [Value.int .u8 x] = (l ++ [c]).map bcell := by
  rw [List.map_append, h]
  rfl
theorem one_cell (w : World) (x : Int) (t : TypeId) : ∀ j u, ([Value.int .u8 x] : List Value)[j]? = some u → (w.alloc (.cells #[.int .u8 x] t)).cell? ((⟨w.heap.size, 0, none⟩ : Addr).add j) = some u := by
  intro j u hu
  cases j with
  | zero => simp at hu; subst hu; simp [Addr.add]
  | succ j => simp at hu
theorem one_one (x : Int) : ∀ u ∈ ([Value.int .u8 x] : List Value), u.oneCell' = true := by
  intro u hu
  simp at hu
  subst hu
  rfl
/-- A slice that holds l is handed back; nothing that was there has changed. -/
def Gives (B : Nat) (w : World) (l : List UInt8) (e : Ending) (w' : World) : Prop := ∃ v, e = .returned v ∧ Owned B w' v l ∧ Below B w w'

set_option maxRecDepth 100000 in
set_option maxHeartbeats 800000 in
theorem add_any (B : Nat) (n : Nat) (v : Value) (l : List UInt8) (w : World) (hn : n < 18446744073709551616) (hl : l.length ≤ 5000) (hB : B ≤ w.heap.size) (hv : Owned B w v l) :
    Calls Tryd.prog 15 #[v, .int .u64 n] w (Gives B w (l ++ putL n)) := by
  obtain ⟨i0, hi, hz0, hz1, hz2⟩ := info_parts Tryd.infoU8
  have HV := Lib.hid hv
  have HPL := Lib.hid (putL_len n)
  clear hv
  go_enter Tryd.func15, Tryd.ntmps15
  go_wp2
  go_loopw [0, 1] (fun b x wr => ∃ (m j : Nat) (l' : List UInt8) (bv : Value), bv = b ∧ x = .int .u64 m ∧ m < 18446744073709551616 ∧ m < 128 ^ (j + 1) ∧ j ≤ 9 ∧ Hid (l' ++ putK j m = l ++ putL n) ∧ Hid (Owned B wr b l') ∧ Hid (Below B w wr) ∧ B ≤ wr.heap.size) (fun _ x _ => (intOf x).toNat)
  case atStart => exact ⟨n, 9, l, v, rfl, rfl, hn, by omega, Nat.le_refl _, Lib.hid rfl, HV, Lib.hid (Below.refl _ _), hB⟩
  case round =>
    obtain ⟨m, j, l', bv, rfl, rfl, hm, hmj, hj, HL, HO, HB, hBr⟩ := hrel
    have HOW := Lib.hid (show wr.ownsRow B 5 1 bv l'.length (l'.map bcell) from HO.out)
    have HLEN := Lib.hid (show l'.length + (putK j m).length = l.length + (putL n).length by rw [← map_append_len, HL.out, map_append_len])
    have HC3 := Lib.hid (show l'.length + 1 ≤ maxLen by have := HLEN.out; have := HPL.out; have := putK_len j m; unfold maxLen; omega)
    have HC4 := Lib.hid (show (l'.length + 1) * 1 ≤ 140737488355328 by have := HLEN.out; have := HPL.out; have := putK_len j m; omega)
    have HC5 := Lib.hid (fun (o : Obj) => show B ≤ (wr.alloc o).heap.size by simp; omega)
    by_cases hlt : m < 128
    · have HCC := Lib.hid (byte_of m hlt)
      go_wp2_with (at_builtin; refine wpList_append_own _ rfl _ _ 22 rfl B 5 i0 (.int .u8 0) 1 1 Tryd.underlying22 hi hz0 hz1 hz2 rfl (by decide) _ _ _ rfl (HOW.out.alloc _) ⟨wr.heap.size, 0, none⟩ 1 1 [.int .u8 (m : Int)] rfl rfl (one_cell _ _ _) (one_one _) HC3.out HC4.out (HC5.out _) ?_; intro v' w1 hown' hgrow _)
      have HN := Lib.hid (show Owned B w1 v' (l ++ putL n) by
        rw [← HL.out, putK_small j m hlt]
        unfold Owned
        rw [← map_snoc l' _ _ HCC.out, map_append_len]
        exact hown')
      have HG := Lib.hid (show Below B w w1 from (((HB.out.alloc hBr _)).grown hgrow (by simp; omega) (fun k hk => HO.out.grows k hk)))
      clear hown' hgrow
      go_wp2
      go_ret
      exact ⟨v', rfl, HN.out, HG.out⟩
    · obtain ⟨j, rfl⟩ : ∃ j', j = j' + 1 := ⟨j - 1, by
        rcases Nat.eq_zero_or_pos j with h | h
        · subst h; simp at hmj; omega
        · omega⟩
      have HCC := Lib.hid (low_byte_of m)
      go_wp2_with (at_builtin; refine wpList_append_own _ rfl _ _ 22 rfl B 5 i0 (.int .u8 0) 1 1 Tryd.underlying22 hi hz0 hz1 hz2 rfl (by decide) _ _ _ rfl (HOW.out.alloc _) ⟨wr.heap.size, 0, none⟩ 1 1 [.int .u8 (bits .or .u8 ((m : Int) % 256) 128)] rfl rfl (one_cell _ _ _) (one_one _) HC3.out HC4.out (HC5.out _) ?_; intro v' w1 hown' hgrow _)
      have HN := Lib.hid (show Owned B w1 v' (l' ++ [UInt8.ofNat (m % 128 + 128)]) by
        unfold Owned
        rw [← map_snoc l' _ _ HCC.out, map_append_len]
        exact hown')
      have HG := Lib.hid (show Below B w w1 from (((HB.out.alloc hBr _)).grown hgrow (by simp; omega) (fun k hk => HO.out.grows k hk)))
      have HS := Lib.hid (show B ≤ w1.heap.size by have := hgrow.size; simp at this; omega)
      have HE := Lib.hid (show (l' ++ [UInt8.ofNat (m % 128 + 128)]) ++ putK j (m / 128) = l ++ putL n by
        rw [← HL.out, putK_big j m hlt, List.append_assoc]
        rfl)
      clear hown' hgrow
      go_wp2
      go_roundw
      case rel => exact ⟨m / 128, j, _, v', rfl, by go_num, by omega, by rw [Nat.pow_succ] at hmj; omega, by omega, HE, HN, HG, HS.out⟩
      case measure => simp [intOf]; omega

set_option maxRecDepth 100000 in
set_option maxHeartbeats 800000 in
theorem roomy_any (A : Option Addr) (cap room : Nat) (l : List UInt8) (w : World) (hl : l.length ≤ 5000) (hroom : room ≤ 5000) (hv : BReads w w.heap.size A l) (hcap : A = none → cap = 0) :
    Calls Tryd.prog 16 #[.slice A l.length cap, .int .i64 room] w (Gives w.heap.size w l) := by
  obtain ⟨i0, hi, hz0, hz1, hz2⟩ := info_parts Tryd.infoU8
  have HV := Lib.hid hv
  have HCAP := Lib.hid hcap
  have HB2 := Lib.hid (show i0.bytes * (l.length + room) ≤ 281474976710656 by rw [hz2]; omega)
  have HB3 := Lib.hid (show l.length + room ≤ maxLen by unfold maxLen; omega)
  clear hv hcap
  go_enter Tryd.func16, Tryd.ntmps16
  go_wp2_with (first | (at_make; refine wpList_make_own _ rfl _ _ 22 rfl w.heap.size 5 i0 (.int .u8 0) 1 Tryd.underlying22 hi hz0 hz1 .i64 .i64 _ (l.length + room) rfl rfl (by omega) HB2.out HB3.out (Nat.le_refl _) ?_; intro w1 hown1 hg1; have HO1 := Lib.hid hown1; have HG1 := Lib.hid hg1; clear hown1 hg1) | (at_builtin; refine wpList_append_fits_any _ rfl _ _ 22 rfl w.heap.size 5 i0 1 Tryd.underlying22 hi hz1 w.heap.size 0 (l.length + room) [] rfl HO1.out A l.length cap (l.map bcell) rfl (by simp) (fun h => ⟨HV.out.hnone h, HCAP.out h⟩) (HV.out.grown HG1.out (Nat.le_refl _) (fun g h => by cases h)).cells (bcell_one l) (by omega) ?_; intro w2 hown2 hg2; have HO2 := Lib.hid hown2; have HG2 := Lib.hid hg2; clear hown2 hg2))
  go_ret
  have h2 := HO2.out
  rw [Nat.zero_add, List.nil_append] at h2
  exact ⟨_, by simp, h2, ((Below.refl _ _).grown HG1.out (Nat.le_refl _) (fun g h => by cases h)).grown HG2.out HG1.out.size (fun g h => by cases h; exact Nat.le_refl _)⟩
end Go.Proofs.YtblphklfjafmfaaDoor
