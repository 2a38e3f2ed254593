/- math/bits.Div64: two words by one, below 2^63. -/
import Derived.Test.YtmbdggbppbkojaaDoorDivPlain
import Derived.Test.YtmbdggbppbkojaaDoorShelf
import Derived.Deep.DeepCutAuto
import Derived.Deep.CutBlock
import Derived.Deep.LoopGhost
import Derived.Lib.EndianBits
namespace Go.Proofs.YtmbdggbppbkojaaDoor
open Go.RowKit

theorem ret_nums {a b c d : Int} (h : a = b) (h' : c = d) : Ending.returned (.tuple #[.int .u64 a, .int .u64 c]) = .returned (.tuple #[.int .u64 b, .int .u64 d]) := by rw [h, h']
theorem quo_word (lo y : Nat) (hlo : lo < 18446744073709551616) : IntKind.u64.wrap ((lo : Int) / (y : Int)) = ((lo / y : Nat) : Int) := by
  rw [← Int.natCast_ediv]
  exact word_nat _ (by have := Nat.div_le_self lo y; omega)
set_option maxRecDepth 100000 in
set_option maxHeartbeats 400000 in
theorem div64_zero (lo y : Nat) (w : World) (hy : 0 < y) (hlo : lo < 18446744073709551616) :
    Calls Tryd.prog 34 #[.int .u64 0, .int .u64 lo, .int .u64 y] w fun e w' => e = .returned (.tuple #[.int .u64 ((lo / y : Nat) : Int), .int .u64 ((lo % y : Nat) : Int)]) ∧ ∃ n, w.drewN n = w' := by
  have HQ := Lib.hid (quo_word lo y hlo)
  have hy0 : ((y : Int) == 0) = false := beq_eq_false_iff_ne.2 (by omega)
  have hy1 : ¬ (y : Int) ≤ 0 := by omega
  have hy2 : (1 : Int) ≤ y := by omega
  clear hlo
  go_enter Tryd.func34, Tryd.ntmps34
  go_wp2
  go_quiet (fail)
  go_wp2
  go_ret2
  exact ⟨ret_nums HQ.out (by rfl), _, rfl⟩

/-- The two answers, in an untouched world. -/
def DivPost (N y : Nat) (w : World) (e : Ending) (w' : World) : Prop := e = .returned (.tuple #[.int .u64 ((N / y : Nat) : Int), .int .u64 ((N % y : Nat) : Int)]) ∧ w = w'
set_option maxRecDepth 100000 in
set_option maxHeartbeats 4000000 in
theorem div64_big (hi lo y : Nat) (w : World) (h0 : 0 < hi) (hhi : hi < y) (hy : y < 9223372036854775808) (hlo : lo < 18446744073709551616) :
    Calls Tryd.prog 34 #[.int .u64 hi, .int .u64 lo, .int .u64 y] w (DivPost (hi * 18446744073709551616 + lo) y w) := by
  obtain ⟨s, V, v1, v0, U, L, d1, d0, hK, hs, hs1, hs2⟩ := kn_exists hi lo y hhi hy hlo
  have HK := Lib.hid hK
  have HLZ := Lib.hid (Tryd.bits_LeadingZeros64 (y : Int) w (by omega) (by omega))
  have HS := Lib.hid hs
  have HH1 := Lib.hid hK.half1
  have HH2 := Lib.hid hK.half2
  obtain ⟨qa, hqa⟩ : ∃ qa, qa = U / v1 := ⟨_, rfl⟩
  obtain ⟨ra, hra⟩ : ∃ ra, ra = U % v1 := ⟨_, rfl⟩
  obtain ⟨Q1, hQ1⟩ : ∃ Q1, Q1 = knQ U d1 V := ⟨_, rfl⟩
  obtain ⟨R1, hR1⟩ : ∃ R1, R1 = (U * 4294967296 + d1) % V := ⟨_, rfl⟩
  have HG1 := Lib.hid (show Guess U d1 V v1 qa ra by rw [hqa, hra]; exact hK.half1.first)
  have HQA := Lib.hid hqa
  have HRA := Lib.hid hra
  have HQ1 := Lib.hid hQ1
  have HR1 := Lib.hid hR1
  rw [← hR1] at HH2
  obtain ⟨qb, hqb⟩ : ∃ qb, qb = R1 / v1 := ⟨_, rfl⟩
  obtain ⟨rb, hrb⟩ : ∃ rb, rb = R1 % v1 := ⟨_, rfl⟩
  obtain ⟨Q0, hQ0⟩ : ∃ Q0, Q0 = knQ R1 d0 V := ⟨_, rfl⟩
  have HG2 := Lib.hid (show Guess R1 d0 V v1 qb rb by rw [hqb, hrb]; exact HH2.out.first)
  have HQB := Lib.hid hqb
  have HRB := Lib.hid hrb
  have HQ0 := Lib.hid hQ0
  have hy0 : ((y : Int) == 0) = false := beq_eq_false_iff_ne.2 (by omega)
  have hi0 : ((hi : Int) == 0) = false := beq_eq_false_iff_ne.2 (by omega)
  have hyh : ¬ (y : Int) ≤ hi := by omega
  have hv1 : 0 < v1 := by have := hK.half1.v1g; omega
  have hyp : 0 < y := by omega
  clear hK hs hqa hra hQ1 hR1 hqb hrb hQ0 hlo hy
  go_enter Tryd.func34, Tryd.ntmps34
  go_upto_region 7 with fail
  go_cut [8] (fun v wx => w = wx ∧ v = .int .u64 s)
  case first =>
    go_wp2_with fail
    refine (Hid.out HLZ).mono ?_
    rintro e w1 ⟨rfl, rfl⟩
    go_wp2_with fail
    go_meet
    exact ⟨rfl, congrArg (Value.int .u64) (by have := HS.out; rw [IntKind.wrap_u64]; omega)⟩
  case rest =>
  obtain ⟨rfl, rfl⟩ := hcut
  go_upto_region 8 with fail
  go_cut [2] (fun v wx => w = wx ∧ v = .int .u64 V)
  case first =>
    go_wp2_with fail
    go_meet
    exact ⟨rfl, congrArg (Value.int .u64) HK.out.sayV⟩
  case rest =>
  obtain ⟨rfl, rfl⟩ := hcut
  go_upto_region 9 with fail
  go_cut [9] (fun v wx => w = wx ∧ v = .int .u64 v1)
  case first =>
    go_wp2_with fail
    go_meet
    exact ⟨rfl, congrArg (Value.int .u64) (by have := HK.out.hv1; omega)⟩
  case rest =>
  obtain ⟨rfl, rfl⟩ := hcut
  go_upto_region 10 with fail
  go_cut [10] (fun v wx => w = wx ∧ v = .int .u64 v0)
  case first =>
    go_wp2_with fail
    go_meet
    exact ⟨rfl, congrArg (Value.int .u64) (by rw [HK.out.hv0]; exact low_half _ HK.out.V2)⟩
  case rest =>
  obtain ⟨rfl, rfl⟩ := hcut
  go_upto_region 11 with fail
  go_cut [11] (fun v wx => w = wx ∧ v = .int .u64 U)
  case first =>
    go_wp2_with fail
    go_meet
    exact ⟨rfl, congrArg (Value.int .u64) (HK.out.sayU hs2)⟩
  case rest =>
  obtain ⟨rfl, rfl⟩ := hcut
  go_upto_region 12 with fail
  go_cut [12] (fun v wx => w = wx ∧ v = .int .u64 L)
  case first =>
    go_wp2_with fail
    go_meet
    exact ⟨rfl, congrArg (Value.int .u64) HK.out.sayL⟩
  case rest =>
  obtain ⟨rfl, rfl⟩ := hcut
  go_upto_region 13 with fail
  go_cut [13] (fun v wx => w = wx ∧ v = .int .u64 d1)
  case first =>
    go_wp2_with fail
    go_meet
    exact ⟨rfl, congrArg (Value.int .u64) (by have := HK.out.hd1; omega)⟩
  case rest =>
  obtain ⟨rfl, rfl⟩ := hcut
  go_upto_region 14 with fail
  go_cut [14] (fun v wx => w = wx ∧ v = .int .u64 d0)
  case first =>
    go_wp2_with fail
    go_meet
    exact ⟨rfl, congrArg (Value.int .u64) (by rw [HK.out.hd0]; exact low_half _ (by have := HK.out.hL; omega))⟩
  case rest =>
  obtain ⟨rfl, rfl⟩ := hcut
  go_upto_region 15 with fail
  go_cut [15] (fun v wx => w = wx ∧ v = .int .u64 qa)
  case first =>
    go_wp2_with fail
    go_meet
    exact ⟨rfl, congrArg (Value.int .u64) (by rw [HQA.out]; exact quo_word _ _ (by have := HK.out.UV; have := HK.out.V2; omega))⟩
  case rest =>
  obtain ⟨rfl, rfl⟩ := hcut
  go_upto_region 16 with fail
  go_cut [16] (fun v wx => w = wx ∧ v = .int .u64 ra)
  case first =>
    go_wp2_with fail
    go_meet
    exact ⟨rfl, congrArg (Value.int .u64) (by rw [HQA.out, HRA.out]; exact HH1.out.over)⟩
  case rest =>
  obtain ⟨rfl, rfl⟩ := hcut
  go_upto_block 0 with fail
  go_cut [15, 16] (fun v r wx => w = wx ∧ v = .int .u64 Q1)
  case first =>
    go_wp2_with fail
    go_loopg [15, 16] qa (fun g v r wx => w = wx ∧ ∃ q rh : Nat, q = g ∧ v = .int .u64 q ∧ r = .int .u64 rh ∧ Guess U d1 V v1 q rh)
    case atStart => exact ⟨rfl, _, _, rfl, rfl, rfl, HG1.out⟩
    case round =>
      obtain ⟨rfl, q, rh, rfl, rfl, rfl, hG⟩ := hrel
      have HG := Lib.hid hG
      clear hG
      by_cases hq : q < 4294967296
      · obtain ⟨X, hX⟩ : ∃ X : Nat, q * v0 = X := ⟨_, rfl⟩
        obtain ⟨Y, hY⟩ : ∃ Y : Nat, 4294967296 * rh = Y := ⟨_, rfl⟩
        obtain ⟨Z, hZ⟩ : ∃ Z : Nat, Y + d1 = Z := ⟨_, rfl⟩
        have hw1 : IntKind.u64.wrap ((q : Int) * (v0 : Int)) = (X : Int) := by rw [← hX, ← Int.natCast_mul]; exact word_nat _ (HH1.out.small hq)
        have hw2 : IntKind.u64.wrap (4294967296 * (rh : Int)) = (Y : Int) := by rw [show 4294967296 * (rh : Int) = (Y : Int) by omega]; exact word_nat _ (by have := HG.out.rl; omega)
        have hw3 : IntKind.u64.wrap ((Y : Int) + (d1 : Int)) = (Z : Int) := by rw [show (Y : Int) + (d1 : Int) = (Z : Int) by omega]; exact word_nat _ (by have := HG.out.rl; have := HH1.out.dl; omega)
        have hqi : ¬ (4294967296 : Int) ≤ (q : Int) := by omega
        have HX := Lib.hid hX
        have HYZ := Lib.hid (show Z = 4294967296 * rh + d1 by omega)
        clear hX hY hZ hq
        by_cases hc : X ≤ Z
        · have hci : ¬ (Z : Int) < (X : Int) := by omega
          have HC := Lib.hid hc
          clear hc
          go_wp2
          go_meet
          exact ⟨rfl, congrArg (Value.int .u64) (by rw [HQ1.out, ← HH1.out.done HG.out (by rw [HX.out, ← HYZ.out]; exact HC.out)])⟩
        · have hci : (Z : Int) < (X : Int) := by omega
          have HC := Lib.hid hc
          clear hc
          obtain ⟨p, hpq, hp1, hp2, hp3⟩ := HH1.out.step HG.out (Or.inr (by rw [HX.out, ← HYZ.out]; have := HC.out; omega))
          rw [← HQ1.out] at hp1 hp2
          obtain ⟨r2, hr2⟩ : ∃ r2, rh + v1 = r2 := ⟨_, rfl⟩
          rw [hr2] at hp2 hp3
          have hw4 : IntKind.u64.wrap ((q : Int) - 1) = (p : Int) := by rw [show (q : Int) - 1 = (p : Int) by omega]; exact word_nat _ (by have := HG.out.ql; omega)
          have hw5 : IntKind.u64.wrap ((rh : Int) + (v1 : Int)) = (r2 : Int) := by rw [show (rh : Int) + (v1 : Int) = (r2 : Int) by omega]; exact word_nat _ (by have := HG.out.rl; have := HH1.out.v1l; omega)
          have HP := Lib.hid hpq
          have HP2 := Lib.hid hp2
          have HP3 := Lib.hid hp3
          clear hpq hp1 hp2 hp3 hr2
          by_cases hb : r2 < 4294967296
          · have hbi : ¬ (4294967296 : Int) ≤ (r2 : Int) := by omega
            have HB := Lib.hid hb
            clear hb
            go_wp2
            go_roundg p
            case measure => have := HP.out; omega
            case rel => exact ⟨rfl, _, _, rfl, rfl, rfl, HP3.out HB.out⟩
          · have hbi : (4294967296 : Int) ≤ (r2 : Int) := by omega
            have HB := Lib.hid hb
            clear hb
            go_wp2
            go_meet
            exact ⟨rfl, congrArg (Value.int .u64) (by rw [HP2.out (by have := HB.out; omega)])⟩
      · have hqi : (4294967296 : Int) ≤ (q : Int) := by omega
        have HQQ := Lib.hid (show 4294967296 ≤ q by omega)
        clear hq
        obtain ⟨p, hpq, hp1, hp2, hp3⟩ := HH1.out.step HG.out (Or.inl HQQ.out)
        rw [← HQ1.out] at hp1 hp2
        obtain ⟨r2, hr2⟩ : ∃ r2, rh + v1 = r2 := ⟨_, rfl⟩
        rw [hr2] at hp2 hp3
        have hw4 : IntKind.u64.wrap ((q : Int) - 1) = (p : Int) := by rw [show (q : Int) - 1 = (p : Int) by omega]; exact word_nat _ (by have := HG.out.ql; omega)
        have hw5 : IntKind.u64.wrap ((rh : Int) + (v1 : Int)) = (r2 : Int) := by rw [show (rh : Int) + (v1 : Int) = (r2 : Int) by omega]; exact word_nat _ (by have := HG.out.rl; have := HH1.out.v1l; omega)
        have HP := Lib.hid hpq
        have HP2 := Lib.hid hp2
        have HP3 := Lib.hid hp3
        clear hpq hp1 hp2 hp3 hr2
        by_cases hb : r2 < 4294967296
        · have hbi : ¬ (4294967296 : Int) ≤ (r2 : Int) := by omega
          have HB := Lib.hid hb
          clear hb
          go_wp2
          go_roundg p
          case measure => have := HP.out; omega
          case rel => exact ⟨rfl, _, _, rfl, rfl, rfl, HP3.out HB.out⟩
        · have hbi : (4294967296 : Int) ≤ (r2 : Int) := by omega
          have HB := Lib.hid hb
          clear hb
          go_wp2
          go_meet
          exact ⟨rfl, congrArg (Value.int .u64) (by rw [HP2.out (by have := HB.out; omega)])⟩
  case rest =>
  obtain ⟨rfl, rfl⟩ := hcut
  go_upto_region 21 with fail
  go_cut [17] (fun v wx => w = wx ∧ v = .int .u64 R1)
  case first =>
    go_wp2_with fail
    go_meet
    exact ⟨rfl, congrArg (Value.int .u64) (by rw [HQ1.out, HR1.out]; exact HH1.out.rest HK.out.V2)⟩
  case rest =>
  obtain ⟨rfl, rfl⟩ := hcut
  go_upto_region 22 with fail
  go_cut [18] (fun v wx => w = wx ∧ v = .int .u64 qb)
  case first =>
    go_wp2_with fail
    go_meet
    exact ⟨rfl, congrArg (Value.int .u64) (by rw [HQB.out]; exact quo_word _ _ (by have := HH2.out.ul; have := HK.out.V2; omega))⟩
  case rest =>
  obtain ⟨rfl, rfl⟩ := hcut
  go_upto_region 23 with fail
  go_cut [16] (fun v wx => w = wx ∧ v = .int .u64 rb)
  case first =>
    go_wp2_with fail
    go_meet
    exact ⟨rfl, congrArg (Value.int .u64) (by rw [HQB.out, HRB.out]; exact HH2.out.over)⟩
  case rest =>
  obtain ⟨rfl, rfl⟩ := hcut
  go_upto_block 2 with fail
  go_cut [18, 16] (fun v r wx => w = wx ∧ v = .int .u64 Q0)
  case first =>
    go_wp2_with fail
    go_loopg [18, 16] qb (fun g v r wx => w = wx ∧ ∃ q rh : Nat, q = g ∧ v = .int .u64 q ∧ r = .int .u64 rh ∧ Guess R1 d0 V v1 q rh)
    case atStart => exact ⟨rfl, _, _, rfl, rfl, rfl, HG2.out⟩
    case round =>
      obtain ⟨rfl, q, rh, rfl, rfl, rfl, hG⟩ := hrel
      have HG := Lib.hid hG
      clear hG
      by_cases hq : q < 4294967296
      · obtain ⟨X, hX⟩ : ∃ X : Nat, q * v0 = X := ⟨_, rfl⟩
        obtain ⟨Y, hY⟩ : ∃ Y : Nat, 4294967296 * rh = Y := ⟨_, rfl⟩
        obtain ⟨Z, hZ⟩ : ∃ Z : Nat, Y + d0 = Z := ⟨_, rfl⟩
        have hw1 : IntKind.u64.wrap ((q : Int) * (v0 : Int)) = (X : Int) := by rw [← hX, ← Int.natCast_mul]; exact word_nat _ (HH2.out.small hq)
        have hw2 : IntKind.u64.wrap (4294967296 * (rh : Int)) = (Y : Int) := by rw [show 4294967296 * (rh : Int) = (Y : Int) by omega]; exact word_nat _ (by have := HG.out.rl; omega)
        have hw3 : IntKind.u64.wrap ((Y : Int) + (d0 : Int)) = (Z : Int) := by rw [show (Y : Int) + (d0 : Int) = (Z : Int) by omega]; exact word_nat _ (by have := HG.out.rl; have := HH2.out.dl; omega)
        have hqi : ¬ (4294967296 : Int) ≤ (q : Int) := by omega
        have HX := Lib.hid hX
        have HYZ := Lib.hid (show Z = 4294967296 * rh + d0 by omega)
        clear hX hY hZ hq
        by_cases hc : X ≤ Z
        · have hci : ¬ (Z : Int) < (X : Int) := by omega
          have HC := Lib.hid hc
          clear hc
          go_wp2
          go_meet
          exact ⟨rfl, congrArg (Value.int .u64) (by rw [HQ0.out, ← HH2.out.done HG.out (by rw [HX.out, ← HYZ.out]; exact HC.out)])⟩
        · have hci : (Z : Int) < (X : Int) := by omega
          have HC := Lib.hid hc
          clear hc
          obtain ⟨p, hpq, hp1, hp2, hp3⟩ := HH2.out.step HG.out (Or.inr (by rw [HX.out, ← HYZ.out]; have := HC.out; omega))
          rw [← HQ0.out] at hp1 hp2
          obtain ⟨r2, hr2⟩ : ∃ r2, rh + v1 = r2 := ⟨_, rfl⟩
          rw [hr2] at hp2 hp3
          have hw4 : IntKind.u64.wrap ((q : Int) - 1) = (p : Int) := by rw [show (q : Int) - 1 = (p : Int) by omega]; exact word_nat _ (by have := HG.out.ql; omega)
          have hw5 : IntKind.u64.wrap ((rh : Int) + (v1 : Int)) = (r2 : Int) := by rw [show (rh : Int) + (v1 : Int) = (r2 : Int) by omega]; exact word_nat _ (by have := HG.out.rl; have := HH2.out.v1l; omega)
          have HP := Lib.hid hpq
          have HP2 := Lib.hid hp2
          have HP3 := Lib.hid hp3
          clear hpq hp1 hp2 hp3 hr2
          by_cases hb : r2 < 4294967296
          · have hbi : ¬ (4294967296 : Int) ≤ (r2 : Int) := by omega
            have HB := Lib.hid hb
            clear hb
            go_wp2
            go_roundg p
            case measure => have := HP.out; omega
            case rel => exact ⟨rfl, _, _, rfl, rfl, rfl, HP3.out HB.out⟩
          · have hbi : (4294967296 : Int) ≤ (r2 : Int) := by omega
            have HB := Lib.hid hb
            clear hb
            go_wp2
            go_meet
            exact ⟨rfl, congrArg (Value.int .u64) (by rw [HP2.out (by have := HB.out; omega)])⟩
      · have hqi : (4294967296 : Int) ≤ (q : Int) := by omega
        have HQQ := Lib.hid (show 4294967296 ≤ q by omega)
        clear hq
        obtain ⟨p, hpq, hp1, hp2, hp3⟩ := HH2.out.step HG.out (Or.inl HQQ.out)
        rw [← HQ0.out] at hp1 hp2
        obtain ⟨r2, hr2⟩ : ∃ r2, rh + v1 = r2 := ⟨_, rfl⟩
        rw [hr2] at hp2 hp3
        have hw4 : IntKind.u64.wrap ((q : Int) - 1) = (p : Int) := by rw [show (q : Int) - 1 = (p : Int) by omega]; exact word_nat _ (by have := HG.out.ql; omega)
        have hw5 : IntKind.u64.wrap ((rh : Int) + (v1 : Int)) = (r2 : Int) := by rw [show (rh : Int) + (v1 : Int) = (r2 : Int) by omega]; exact word_nat _ (by have := HG.out.rl; have := HH2.out.v1l; omega)
        have HP := Lib.hid hpq
        have HP2 := Lib.hid hp2
        have HP3 := Lib.hid hp3
        clear hpq hp1 hp2 hp3 hr2
        by_cases hb : r2 < 4294967296
        · have hbi : ¬ (4294967296 : Int) ≤ (r2 : Int) := by omega
          have HB := Lib.hid hb
          clear hb
          go_wp2
          go_roundg p
          case measure => have := HP.out; omega
          case rel => exact ⟨rfl, _, _, rfl, rfl, rfl, HP3.out HB.out⟩
        · have hbi : (4294967296 : Int) ≤ (r2 : Int) := by omega
          have HB := Lib.hid hb
          clear hb
          go_wp2
          go_meet
          exact ⟨rfl, congrArg (Value.int .u64) (by rw [HP2.out (by have := HB.out; omega)])⟩
  case rest =>
  obtain ⟨rfl, rfl⟩ := hcut
  go_wp2_with fail
  go_ret2
  refine ⟨ret_nums ?_ ?_, rfl⟩
  · have h := (HK.out.answer hyp).1
    rw [← HR1.out, ← HQ1.out, ← HQ0.out] at h
    exact h
  · have h := HH2.out.rest HK.out.V2
    have h2 := (HK.out.answer hyp).2
    rw [← HR1.out, ← h, ← HQ0.out] at h2
    exact h2
/-- math/bits.Div64 at any high word below the divisor. -/
theorem div64_any (hi lo y : Nat) (w : World) (hhi : hi < y) (hy : y < 9223372036854775808) (hlo : lo < 18446744073709551616) :
    Calls Tryd.prog 34 #[.int .u64 hi, .int .u64 lo, .int .u64 y] w fun e w' => e = .returned (.tuple #[.int .u64 (((hi * 18446744073709551616 + lo) / y : Nat) : Int), .int .u64 (((hi * 18446744073709551616 + lo) % y : Nat) : Int)]) ∧ ∃ n, w.drewN n = w' := by
  rcases Nat.eq_zero_or_pos hi with h | h
  · subst h
    have h := div64_zero lo y w hhi hlo
    rw [Nat.zero_mul, Nat.zero_add]
    exact h
  · refine (div64_big hi lo y w h hhi hy hlo).mono ?_
    rintro e w' ⟨he, rfl⟩
    exact ⟨he, 0, rfl⟩
end Go.Proofs.YtmbdggbppbkojaaDoor
