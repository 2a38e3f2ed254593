/- The document's own Sum (bit by bit), and pack.Sum of no slice. -/
import Derived.Test.YtblphklfjafmfaaCrc
namespace Go.Proofs.Ytblphklfjafmfaa
open Go.RowKit

set_option maxRecDepth 100000 in
set_option maxHeartbeats 800000 in
theorem sum_none (cap : Nat) (w : World) :
    Calls Try.prog 4 #[.slice none 0 cap] w fun e w' => e = .returned (.int .u32 0) ∧ Below w.heap.size w w' := by
  go_enter Try.func4, Try.ntmps4
  go_upto_region 1 with fail
  go_cut [3] (fun v wx => ∃ w1, wx = w1.alloc (.cells (tabA 16) 27) ∧ Below w.heap.size w w1 ∧ v = .pointer (some ⟨w1.heap.size, 0, none⟩))
  case first =>
    go_wp2_with fail
    refine (table_any _).mono ?_
    rintro e w1 ⟨rfl, hb1⟩
    have HB1 := Lib.hid hb1
    clear hb1
    have HS1 := Lib.hid (show (Try.prog.info? 27).map (·.size) = some (tabA 16).size by rw [tabA_size]; kernel_rfl)
    have HS2 := Lib.hid (show (#[Value.int IntKind.u32 0, Value.int IntKind.u32 0, Value.int IntKind.u32 0, Value.int IntKind.u32 0, Value.int IntKind.u32 0, Value.int IntKind.u32 0, Value.int IntKind.u32 0, Value.int IntKind.u32 0, Value.int IntKind.u32 0, Value.int IntKind.u32 0, Value.int IntKind.u32 0, Value.int IntKind.u32 0, Value.int IntKind.u32 0, Value.int IntKind.u32 0, Value.int IntKind.u32 0, Value.int IntKind.u32 0] : Array Value).size = (tabA 16).size by rw [tabA_size]; rfl)
    go_wp2_with (refine wpList_store_row rfl 27 _ _ rfl w1.heap.size (tabA 16) rfl rfl 27 _ (heap_alloc_new _ _) HS1.out HS2.out tabA_one ?_; rw [World.setRow_alloc_new])
    try simp only [Act.put]
    go_meet
    exact ⟨w1, rfl, HB1.out, rfl⟩
  case rest =>
  obtain ⟨w1, rfl, hb1, rfl⟩ := hcut
  have HB1 := Lib.hid hb1
  clear hb1
  go_wp2
  refine wp_loop_rounds 1 ?_
  rw [rounds_succ]
  have hsg : IntKind.u32.signed = false := rfl
  have hmx : IntKind.u32.max = 4294967295 := rfl
  go_wp2
  go_ret
  exact ⟨rfl, (HB1.out.alloc HB1.out.size _)⟩

theorem step_odd (n : Nat) (h : n % 2 = 1) (hn : n < 4294967296) : bits .xor .u32 ((n : Int) / 2) 3988292384 = ((crc1 n : Nat) : Int) := shift_odd n h hn

set_option maxRecDepth 100000 in
set_option maxHeartbeats 800000 in
theorem rsum_some (b off cap : Nat) (l : List Nat) (w : World) (hm : l.length ≤ maxLen) (hl : ∀ c ∈ l, c < 256) (hc : cellsAre w b off l) :
    Calls Try.prog 6 #[.slice (some ⟨b, off, none⟩) l.length cap] w fun e w' => e = .returned (.int .u32 (sumN l : Nat)) ∧ w = w' := by
  have hm' : (l.length : Int) ≤ 9223372036854775807 := by unfold maxLen at hm; omega
  clear hm
  have HL := Lib.hid hl
  have HC := Lib.hid hc
  have HLT := Lib.hid (fun k => crcL_lt (s := 4294967295) (by decide) (l.take k) (fun c hc => hl c (List.mem_of_mem_take hc)))
  clear hl hc
  go_enter Try.func6, Try.ntmps6
  go_wp2
  go_loop [3, 4] (fun s i => ∃ k : Nat, k ≤ l.length ∧ i = .int .i64 k ∧ s = .int .u32 (crcL 4294967295 (l.take k) : Nat)) (fun _ i => l.length - (intOf i).toNat)
  case atStart => exact ⟨0, by omega, rfl, rfl⟩
  case round =>
    obtain ⟨k, hk, rfl, rfl⟩ := hrel
    by_cases hlt : k < l.length
    · obtain ⟨n, hn⟩ : ∃ n, n = crcL 4294967295 (l.take k) := ⟨_, rfl⟩
      have hnl : n < 4294967296 := by rw [hn]; exact HLT.out k
      rw [← hn]
      obtain ⟨c, hc⟩ : ∃ c, c = l.getD k 0 := ⟨_, rfl⟩
      have hcl : c < 256 := by
        rw [hc, List.getD_eq_getElem?_getD, List.getElem?_eq_getElem hlt]
        exact HL.out _ (List.getElem_mem _)
      have hcell : w.cell? ⟨b, off + k, none⟩ = some (.int .u8 (c : Int)) := by rw [hc]; exact HC.out k hlt
      have HN := Lib.hid hn
      have HCC := Lib.hid hc
      have hdec : decide ((k : Int) < l.length) = true := by simp; omega
      clear hn hc
      go_upto_region 5 with fail
      go_cut [3] (fun v wx => wx = w ∧ v = .int .u32 ((n ^^^ c : Nat) : Int))
      case first =>
        go_wp2_with fail
        go_meet
        exact ⟨rfl, congrArg (Value.int .u32) (u32_xor_nat n c hnl (by omega))⟩
      case rest =>
      obtain ⟨rfl, rfl⟩ := hcut
      obtain ⟨m, hm⟩ : ∃ m, m = n ^^^ c := ⟨_, rfl⟩
      have hml : m < 4294967296 := by rw [hm]; exact xor_lt32 hnl (by omega)
      rw [← hm]
      have HM := Lib.hid hm
      clear hm
      go_wp2
      go_loop [3, 5] (fun s i => ∃ j : Nat, j ≤ 8 ∧ i = .int .i64 j ∧ s = .int .u32 (crcN j m : Nat)) (fun _ i => 8 - (intOf i).toNat)
      case atStart => exact ⟨0, by omega, rfl, rfl⟩
      case round =>
        obtain ⟨j, hj, rfl, rfl⟩ := hrel
        by_cases hjl : j < 8
        · obtain ⟨x, hx⟩ : ∃ x, x = crcN j m := ⟨_, rfl⟩
          have hxl : x < 4294967296 := by rw [hx]; exact crcN_lt j hml
          rw [← hx]
          have HX := Lib.hid hx
          clear hx
          have hdj : decide ((j : Int) < 8) = true := by simp; omega
          by_cases ho : x % 2 = 1
          · have ho1 : ((x : Int) % 2 == 1) = true := beq_iff_eq.2 (by omega)
            have HS := Lib.hid (shift_odd x ho hxl)
            clear ho
            go_wp2
            go_round
            case rel => exact ⟨j + 1, by omega, by go_num, congrArg (Value.int .u32) (HS.out.trans (by rw [HX.out]; rfl))⟩
            case measure => simp [intOf]; omega
          · have ho1 : ((x : Int) % 2 == 1) = false := beq_eq_false_iff_ne.2 (by omega)
            have HS := Lib.hid (show (x : Int) / 2 = ((crc1 x : Nat) : Int) by unfold crc1; rw [if_neg ho]; omega)
            clear ho
            go_wp2
            go_round
            case rel => exact ⟨j + 1, by omega, by go_num, congrArg (Value.int .u32) (HS.out.trans (by rw [HX.out]; rfl))⟩
            case measure => simp [intOf]; omega
        · obtain rfl : j = 8 := by omega
          go_wp2
          go_round
          case rel => exact ⟨k + 1, by omega, by go_num, congrArg (fun x : Nat => Value.int .u32 x) (by rw [HM.out, HN.out, HCC.out]; exact (crcN_add 4 4 _).trans (round_eq l k hlt))⟩
          case measure => simp [intOf]; omega
    · obtain rfl : k = l.length := by omega
      rw [List.take_length]
      have hz := crcL_lt (s := 4294967295) (by decide) l (fun c hc => HL.out c hc)
      obtain ⟨n, hn⟩ : ∃ n, n = crcL 4294967295 l := ⟨_, rfl⟩
      rw [← hn]
      rw [← hn] at hz
      have HN := Lib.hid hn
      clear hn
      have hsg : IntKind.u32.signed = false := rfl
      have hmx : IntKind.u32.max = 4294967295 := rfl
      go_wp2
      go_ret
      exact ⟨ret_int (by rw [sumN, ← HN.out]; exact u32_xor_nat 4294967295 n (by decide) hz), rfl⟩
end Go.Proofs.Ytblphklfjafmfaa
