/- pack: errno of no error, unfold, Uvarint and Varint where all is well, PutText. -/
import Derived.Test.YtblphklfjafmfaaDoorReads
import Derived.Laws.DeepNot64
namespace Go.Proofs.YtblphklfjafmfaaDoor
open Go.RowKit

set_option maxHeartbeats 400000 in
theorem errno_nil (w : World) :
    Calls Tryd.prog 19 #[.nilIface] w fun e w' => e = .returned (.int .i64 0) ∧ w = w' := by
  go_enter Tryd.func19, Tryd.ntmps19
  go_wp2
  go_ret
  exact ⟨rfl, rfl⟩
theorem and_one64 (n : Nat) (hn : n < 18446744073709551616) : bits .and .u64 (n : Int) 1 = ((n % 2 : Nat) : Int) := by
  have := u64_and_nat n 1 hn (by omega)
  rw [Nat.and_one_is_mod] at this
  exact this
set_option maxHeartbeats 400000 in
theorem unfold_any (n : Int) (w : World) (h0 : -9223372036854775808 ≤ n) (h1 : n ≤ 9223372036854775807) :
    Calls Tryd.prog 20 #[.int .u64 (foldN n : Nat)] w fun e w' => e = .returned (.int .i64 n) ∧ w = w' := by
  have hl := foldN_lt n h0 h1
  obtain ⟨m, hm⟩ : ∃ m, m = foldN n := ⟨_, rfl⟩
  rw [← hm] at hl ⊢
  have ha := and_one64 m hl
  by_cases h : m % 2 = 1
  · have hb : (bits .and .u64 (m : Int) 1 == 1) = true := by rw [ha, h]; rfl
    have HE := Lib.hid (show bits .xor .i64 (-1) (m / 2 : Int) = n by
      rw [show (m : Int) / 2 = ((m / 2 : Nat) : Int) by omega, i64_not _ (by omega)]
      unfold foldN at hm
      split at hm <;> omega)
    clear ha hm
    go_enter Tryd.func20, Tryd.ntmps20
    have hsg : IntKind.i64.signed = true := rfl
    go_wp2
    go_ret
    exact ⟨ret_int' HE.out, rfl⟩
  · have hb : (bits .and .u64 (m : Int) 1 == 1) = false := by rw [ha]; exact beq_eq_false_iff_ne.2 (by omega)
    have HE := Lib.hid (show (m / 2 : Int) = n by
      unfold foldN at hm
      split at hm <;> omega)
    clear ha hm
    go_enter Tryd.func20, Tryd.ntmps20
    go_wp2
    go_ret
    exact ⟨ret_int' HE.out, rfl⟩

set_option maxRecDepth 100000 in
set_option maxHeartbeats 400000 in
theorem uvarint_ok (b off cap n k : Nat) (L : List UInt8) (w : World) (hm : L.length ≤ maxLen) (hc : ∀ j c, L[j]? = some c → w.cell? ⟨b, off + j, none⟩ = some (bcell c)) (hr : readG 0 0 L = .inl (n, k)) :
    Calls Tryd.prog 11 #[.slice (some ⟨b, off, none⟩) L.length cap] w fun e w' => e = .returned (.tuple #[.int .u64 n, .int .i64 k, .int .i64 0]) ∧ w = w' := by
  have HR := Lib.hid (read_some b off cap L w hm hc)
  have HE := Lib.hid (errno_nil w)
  rw [hr] at HR
  clear hr hm hc
  go_enter Tryd.func11, Tryd.ntmps11
  go_wp2_with fail
  refine (Hid.out HR).mono ?_
  rintro e w' ⟨rfl, rfl⟩
  go_wp2_with fail
  refine (Hid.out HE).mono ?_
  rintro e w' ⟨rfl, rfl⟩
  go_wp2
  go_ret3
  exact ⟨rfl, rfl⟩
set_option maxRecDepth 100000 in
set_option maxHeartbeats 400000 in
theorem varint_ok (b off cap k : Nat) (n : Int) (L : List UInt8) (w : World) (h0 : -9223372036854775808 ≤ n) (h1 : n ≤ 9223372036854775807) (hm : L.length ≤ maxLen) (hc : ∀ j c, L[j]? = some c → w.cell? ⟨b, off + j, none⟩ = some (bcell c)) (hr : readG 0 0 L = .inl (foldN n, k)) :
    Calls Tryd.prog 12 #[.slice (some ⟨b, off, none⟩) L.length cap] w fun e w' => e = .returned (.tuple #[.int .i64 n, .int .i64 k, .int .i64 0]) ∧ w = w' := by
  have HR := Lib.hid (read_some b off cap L w hm hc)
  have HE := Lib.hid (errno_nil w)
  have HU := Lib.hid (unfold_any n w h0 h1)
  rw [hr] at HR
  clear hr hm hc
  go_enter Tryd.func12, Tryd.ntmps12
  go_wp2_with fail
  refine (Hid.out HR).mono ?_
  rintro e w' ⟨rfl, rfl⟩
  go_wp2_with fail
  refine (Hid.out HU).mono ?_
  rintro e w' ⟨rfl, rfl⟩
  go_wp2_with fail
  refine (Hid.out HE).mono ?_
  rintro e w' ⟨rfl, rfl⟩
  go_wp2
  go_ret3
  exact ⟨rfl, rfl⟩

set_option maxRecDepth 100000 in
set_option maxHeartbeats 400000 in
theorem putText_any (A : Option Addr) (cap : Nat) (s : ByteArray) (l : List UInt8) (w : World) (hs : s.size ≤ 1000) (hl : l.length ≤ 1000) (hv : BReads w w.heap.size A l) (hcap : A = none → cap = 0) :
    Calls Tryd.prog 8 #[.slice A l.length cap, .string s] w (Gives w.heap.size w (l ++ putL s.size ++ s.data.toList)) := by
  obtain ⟨i0, hi, hz0, hz1, hz2⟩ := info_parts Tryd.infoU8
  have HR := Lib.hid (roomy_any A cap (10 + s.size) l w (by omega) (by omega) hv hcap)
  have HPL := Lib.hid (putL_len s.size)
  clear hv hcap
  have hs' : (s.size : Int) ≤ 1000 := by omega
  go_enter Tryd.func8, Tryd.ntmps8
  go_wp2_with fail
  refine (Hid.out HR).mono ?_
  rintro e w1 ⟨v, rfl, ho, hb⟩
  have HA := Lib.hid (add_any w.heap.size s.size v l w1 (by omega) (by omega) hb.size ho)
  have HB := Lib.hid hb
  clear ho hb
  go_wp2_with fail
  refine (Hid.out HA).mono ?_
  rintro e w2 ⟨v2, rfl, ho, hb⟩
  have HO2 := Lib.hid (show w2.ownsRow w.heap.size 5 1 v2 (l ++ putL s.size).length ((l ++ putL s.size).map bcell) from ho)
  have HG2 := Lib.hid ho.grows
  have HB2 := Lib.hid (HB.out.trans hb)
  clear ho hb
  go_wp2_with (at_builtin; refine Lib.wpList_append_own_string _ rfl _ _ 22 9 rfl w.heap.size 5 i0 Tryd.underlying22 Tryd.underlying9 hi hz0 hz1 hz2 _ _ _ rfl HO2.out s rfl (by have := HPL.out; rw [map_append_len]; unfold maxLen; omega) (by have := HPL.out; rw [map_append_len]; omega) HB2.out.size ?_; intro v3 w3 hown3 hg3 _; have HO3 := Lib.hid hown3; have HG3 := Lib.hid hg3; clear hown3 hg3)
  go_ret
  refine ⟨v3, rfl, ?_, HB2.out.grown HG3.out HB2.out.size (fun k hk => HG2.out k hk)⟩
  have h := HO3.out
  unfold Owned
  rw [map_append_len (l ++ putL s.size), List.map_append]
  have e : s.data.toList.length = s.size := by rw [Array.length_toList]; rfl
  rw [e]
  exact h
end Go.Proofs.YtblphklfjafmfaaDoor
