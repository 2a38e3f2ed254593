/- pack.shift, pack.table, pack.Sum: contracts. -/
import Derived.Test.YtblphklfjafmfaaDoorCrcPlain
import Derived.Test.YtblphklfjafmfaaDoorProg
import Derived.WalkKit
import Derived.WalkSpells
import Derived.WalkLawsBesides
import Derived.Deep.QuietTactic
import Derived.BigQuiet
import Derived.Lib.Hide
import Derived.Laws.BitsAllLaws
import Derived.Laws.Rows
import Derived.Deep.WholeRow
import Derived.Deep.DeepCutAuto
import Derived.Deep.CutBlock
import Derived.Deep.LoopGhost
namespace Go.Proofs.YtblphklfjafmfaaDoor
open Go.RowKit

theorem ret_int {k : IntKind} {a b : Int} (h : a = b) : Ending.returned (.int k a) = .returned (.int k b) := by rw [h]

theorem shift_odd (n : Nat) (h : n % 2 = 1) (hn : n < 4294967296) : bits .xor .u32 ((n : Int) / 2) 3988292384 = ((crc1 n : Nat) : Int) := by
  unfold crc1
  rw [if_pos h, show (n : Int) / 2 = ((n / 2 : Nat) : Int) by omega]
  exact u32_xor_nat (n / 2) 3988292384 (by omega) (by omega)
theorem and_one (n : Nat) (hn : n < 4294967296) : bits .and .u32 (n : Int) 1 = ((n % 2 : Nat) : Int) := by
  have := u32_and_nat n 1 hn (by omega)
  rw [Nat.and_one_is_mod] at this
  exact this
set_option maxHeartbeats 400000 in
theorem shift_any (n : Nat) (w : World) (hn : n < 4294967296) :
    Calls Tryd.prog 24 #[.int .u32 n] w fun e w' => e = .returned (.int .u32 (crc1 n : Nat)) ∧ w = w' := by
  have h1 := and_one n hn
  by_cases h : n % 2 = 1
  · rw [h] at h1
    have h1' : (bits .and .u32 (n : Int) 1 == 1) = true := by rw [h1]; rfl
    have HS := Lib.hid (shift_odd n h hn)
    clear h1 h
    go_enter Tryd.func24, Tryd.ntmps24
    go_wp2
    go_ret
    exact ⟨ret_int HS.out, rfl⟩
  · have h1' : (bits .and .u32 (n : Int) 1 == 1) = false := by rw [h1]; exact beq_eq_false_iff_ne.2 (by omega)
    have HS := Lib.hid (show (n : Int) / 2 = ((crc1 n : Nat) : Int) by unfold crc1; rw [if_neg h]; omega)
    clear h1 h
    go_enter Tryd.func24, Tryd.ntmps24
    go_wp2
    go_ret
    exact ⟨ret_int HS.out, rfl⟩

/-- The table behind k rounds. -/
def tabL (k : Nat) : List Value := (List.range 16).map fun j => .int .u32 (if j < k then (crcN 4 j : Nat) else 0)
def tabA (k : Nat) : Array Value := (tabL k).toArray
theorem tabL_get (k j : Nat) (hj : j < 16) : (tabL k)[j]? = some (.int .u32 (if j < k then ((crcN 4 j : Nat) : Int) else 0)) := by
  unfold tabL
  rw [List.getElem?_map, List.getElem?_range hj]
  by_cases h : j < k <;> simp [h]
theorem tabA_size (k : Nat) : (tabA k).size = 16 := by simp [tabA, tabL]
theorem tabA_set (k : Nat) (hk : k < 16) (x : Int) (hx : x = (crcN 4 k : Nat)) : (tabA k).setIfInBounds k (.int .u32 x) = tabA (k + 1) := by
  subst hx
  apply Array.ext'
  apply List.ext_getElem?
  intro j
  simp only [tabA, Array.toList_setIfInBounds, List.toList_toArray]
  rw [List.getElem?_set]
  by_cases hj : j < 16
  · by_cases he : k = j
    · subst he
      rw [if_pos rfl, if_pos (by simp [tabL]; omega), tabL_get _ _ hj, if_pos (by omega)]
    · rw [if_neg he, tabL_get _ _ hj, tabL_get _ _ hj]
      by_cases h : j < k
      · rw [if_pos h, if_pos (by omega)]
      · rw [if_neg h, if_neg (by omega)]
  · rw [if_neg (by omega)]
    rw [List.getElem?_eq_none (by simp [tabL]; omega), List.getElem?_eq_none (by simp [tabL]; omega)]
theorem tabA_get (k : Nat) (hk : k < 16) : (tabA k)[k]? = some (.int .u32 0) := by
  have := tabL_get k k hk
  rw [if_neg (by omega)] at this
  simpa [tabA] using this
theorem tabA_zero : tabA 0 = #[Value.int IntKind.u32 0, Value.int IntKind.u32 0, Value.int IntKind.u32 0, Value.int IntKind.u32 0, Value.int IntKind.u32 0, Value.int IntKind.u32 0, Value.int IntKind.u32 0, Value.int IntKind.u32 0, Value.int IntKind.u32 0, Value.int IntKind.u32 0, Value.int IntKind.u32 0, Value.int IntKind.u32 0, Value.int IntKind.u32 0, Value.int IntKind.u32 0, Value.int IntKind.u32 0, Value.int IntKind.u32 0] := by kernel_rfl
theorem tabA_one : (tabA 16).all (·.oneCell') = true := by kernel_rfl
theorem tabA_full : tabA 16 = #[Value.int IntKind.u32 0, Value.int IntKind.u32 498536548, Value.int IntKind.u32 997073096, Value.int IntKind.u32 651767980, Value.int IntKind.u32 1994146192, Value.int IntKind.u32 1802195444, Value.int IntKind.u32 1303535960, Value.int IntKind.u32 1342533948, Value.int IntKind.u32 3988292384, Value.int IntKind.u32 4027552580, Value.int IntKind.u32 3604390888, Value.int IntKind.u32 3412177804, Value.int IntKind.u32 2607071920, Value.int IntKind.u32 2262029012, Value.int IntKind.u32 2685067896, Value.int IntKind.u32 3183342108] := by kernel_rfl

theorem setRow_self {w : World} {g : Nat} {old cs : Array Value} {t : TypeId} {fr : Nat × Nat} (h : w.heap[g]? = some (.cells old t fr)) : (w.setRow g cs).heap[g]? = some (.cells cs t fr) := by
  simp [World.setRow, Array.getElem?_modify, h]
theorem below_setRow {B g : Nat} {a w : World} {cs : Array Value} (h : Below B a w) (hg : B ≤ g) : Below B a (w.setRow g cs) :=
  h.trans ⟨rfl, rfl, rfl, by simp [World.setRow], fun k hk => by
    simp only [World.setRow, Array.getElem?_modify]
    rw [if_neg (by omega)]⟩

set_option maxRecDepth 100000 in
set_option maxHeartbeats 800000 in
theorem table_any (w : World) :
    Calls Tryd.prog 22 #[] w fun e w' => e = .returned (.agg (tabA 16)) ∧ Below w.heap.size w w' := by
  go_enter Tryd.func22, Tryd.ntmps22
  go_wp2
  rw [← tabA_zero]
  go_loopw [4] (fun i wr => ∃ k : Nat, k ≤ 16 ∧ i = .int .i64 k ∧ wr = (w.alloc (.cells (tabA 0) 49)).alloc (.cells (tabA k) 49)) (fun i _ => 16 - (intOf i).toNat)
  case atStart => exact ⟨0, by omega, rfl, rfl⟩
  case round =>
    obtain ⟨k, hk, rfl, rfl⟩ := hrel
    by_cases hlt : k < 16
    · have HSET := Lib.hid (fun x hx => tabA_set k hlt x hx)
      have hget := tabA_get k hlt
      have hdec : decide ((k : Int) < 16) = true := by simp; omega
      go_wp2
      go_loop [3, 9] (fun s i => ∃ j : Nat, j ≤ 4 ∧ i = .int .i64 j ∧ s = .int .u32 (crcN j k : Nat)) (fun _ i => 4 - (intOf i).toNat)
      case atStart => exact ⟨0, by omega, rfl, rfl⟩
      case round =>
        obtain ⟨j, hj, rfl, rfl⟩ := hrel
        have HC := Lib.hid (crcN_lt j (n := k) (by omega))
        by_cases hjl : j < 4
        · go_wp2_with fail
          refine (shift_any _ _ HC.out).mono ?_
          rintro e w' ⟨rfl, rfl⟩
          go_wp2
          go_round
          case rel => exact ⟨j + 1, by omega, by go_num, rfl⟩
          case measure => simp [intOf]; omega
        · obtain rfl : j = 4 := by omega
          go_wp2
          go_roundw
          case rel => exact ⟨k + 1, by omega, by go_num, by rw [HSET.out _ rfl]⟩
          case measure => simp [intOf]; omega
    · obtain rfl : k = 16 := by omega
      have hb1 := heap_alloc2_new w (.cells (tabA 0) 49) (.cells (tabA 16) 49)
      have hb0 := heap_alloc2_old w (.cells (tabA 0) 49) (.cells (tabA 16) 49)
      have HB1 := Lib.hid hb1
      have HB0 := Lib.hid hb0
      clear hb1 hb0
      have hs1 : (Tryd.prog.info? 49).map (·.size) = some (tabA 16).size := by rw [tabA_size]; kernel_rfl
      have hs2 : (tabA 0).size = (tabA 16).size := by rw [tabA_size, tabA_size]
      have HS1 := Lib.hid hs1
      have HS2 := Lib.hid hs2
      clear hs1 hs2
      go_wp2_with ((refine wpList_load_row rfl 49 _ rfl (w.heap.size + 1) rfl 49 _ _ _ HB1.out Tryd.underlying49 rfl HS1.out ?_); (refine wpList_store_row rfl 49 _ _ rfl w.heap.size (tabA 16) rfl rfl 49 (tabA 0) HB0.out HS1.out HS2.out tabA_one ?_))
      exact bodyPost_ret (v := .agg (tabA 16)) (results_cell_row Tryd.results22 _ _ w.heap.size 49 (tabA 16) (0, 0) _ rfl (setRow_self HB0.out) Tryd.underlying49 rfl HS1.out) rfl ⟨rfl, below_setRow (((Below.refl _ _).alloc (Nat.le_refl _) _).alloc (by simp) _) (Nat.le_refl _)⟩

theorem tab_at (n : Nat) : (tabA 16)[n % 16]? = some (.int .u32 ((crcN 4 (n % 16) : Nat) : Int)) := by
  have h : n % 16 < 16 := by omega
  have := tabL_get 16 (n % 16) h
  rw [if_pos h] at this
  simpa [tabA] using this
theorem half_eq (m r : Nat) (hm : m < 4294967296) (hr : r = m % 16) : bits .xor .u32 ((m : Int) / 16) ((crcN 4 r : Nat) : Int) = ((crcN 4 m : Nat) : Int) := by
  rw [crc_half m, show (m : Int) / 16 = ((m / 16 : Nat) : Int) by omega, hr]
  exact u32_xor_nat _ _ (by omega) (crcN_lt 4 (by omega))
theorem round_eq (l : List Nat) (k : Nat) (hk : k < l.length) : crcN 4 (crcN 4 (crcL 4294967295 (l.take k) ^^^ l.getD k 0)) = crcL 4294967295 (l.take (k + 1)) := by
  rw [List.take_succ_eq_append_getElem hk, crcL_snoc, show (8 : Nat) = 4 + 4 by rfl, crcN_add, List.getD_eq_getElem?_getD, List.getElem?_eq_getElem hk]
  rfl
def cellsAre (w : World) (b off : Nat) (l : List Nat) : Prop := ∀ j, j < l.length → w.cell? ⟨b, off + j, none⟩ = some (.int .u8 ((l.getD j 0 : Nat) : Int))

set_option maxRecDepth 100000 in
set_option maxHeartbeats 800000 in
theorem sum_some (b off cap : Nat) (l : List Nat) (w : World) (hb : b < w.heap.size) (hm : l.length ≤ maxLen) (hl : ∀ c ∈ l, c < 256) (hc : cellsAre w b off l) :
    Calls Tryd.prog 14 #[.slice (some ⟨b, off, none⟩) l.length cap] w fun e w' => e = .returned (.int .u32 (sumN l : Nat)) ∧ Below w.heap.size w w' := by
  have hm' : (l.length : Int) ≤ 9223372036854775807 := by unfold maxLen at hm; omega
  clear hm
  have HL := Lib.hid hl
  have HC := Lib.hid hc
  clear hl hc
  go_enter Tryd.func14, Tryd.ntmps14
  go_upto_region 1 with fail
  go_cut [3] (fun v wx => ∃ w1, wx = w1.alloc (.cells (tabA 16) 49) ∧ Below w.heap.size w w1 ∧ v = .pointer (some ⟨w1.heap.size, 0, none⟩))
  case first =>
    go_wp2_with fail
    refine (table_any _).mono ?_
    rintro e w1 ⟨rfl, hb1⟩
    have HB1 := Lib.hid hb1
    clear hb1
    have HS1 := Lib.hid (show (Tryd.prog.info? 49).map (·.size) = some (tabA 16).size by rw [tabA_size]; kernel_rfl)
    have HS2 := Lib.hid (show (#[Value.int IntKind.u32 0, Value.int IntKind.u32 0, Value.int IntKind.u32 0, Value.int IntKind.u32 0, Value.int IntKind.u32 0, Value.int IntKind.u32 0, Value.int IntKind.u32 0, Value.int IntKind.u32 0, Value.int IntKind.u32 0, Value.int IntKind.u32 0, Value.int IntKind.u32 0, Value.int IntKind.u32 0, Value.int IntKind.u32 0, Value.int IntKind.u32 0, Value.int IntKind.u32 0, Value.int IntKind.u32 0] : Array Value).size = (tabA 16).size by rw [tabA_size]; rfl)
    go_wp2_with (refine wpList_store_row rfl 49 _ _ rfl w1.heap.size (tabA 16) rfl rfl 49 _ (heap_alloc_new _ _) HS1.out HS2.out tabA_one ?_; rw [World.setRow_alloc_new])
    try simp only [Act.put]
    go_meet
    exact ⟨w1, rfl, HB1.out, rfl⟩
  case rest =>
  obtain ⟨w1, rfl, hb1, rfl⟩ := hcut
  have HB1 := Lib.hid hb1
  have hbl : b < w1.heap.size := Nat.lt_of_lt_of_le hb hb1.size
  have HC1 := Lib.hid (fun j (hj : j < l.length) => show w1.cell? ⟨b, off + j, none⟩ = some (.int .u8 ((l.getD j 0 : Nat) : Int)) from (hb1.cell (p := ⟨b, off + j, none⟩) hb).trans (HC.out j hj))
  have HLT := Lib.hid (fun k => crcL_lt (s := 4294967295) (by decide) (l.take k) (fun c hc => HL.out c (List.mem_of_mem_take hc)))
  clear hb1 hb
  go_wp2
  go_loop [4, 10] (fun s i => ∃ k : Nat, k ≤ l.length ∧ i = .int .i64 k ∧ s = .int .u32 (crcL 4294967295 (l.take k) : Nat)) (fun _ i => l.length - (intOf i).toNat)
  case atStart => exact ⟨0, by omega, rfl, rfl⟩
  case round =>
    obtain ⟨k, hk, rfl, rfl⟩ := hrel
    by_cases hlt : k < l.length
    · obtain ⟨n, hn⟩ : ∃ n, n = crcL 4294967295 (l.take k) := ⟨_, rfl⟩
      have hnl : n < 4294967296 := by rw [hn]; exact HLT.out k
      rw [← hn]
      obtain ⟨c, hc⟩ : ∃ c, c = l.getD k 0 := ⟨_, rfl⟩
      have hcl : c < 256 := by
        rw [hc, List.getD_eq_getElem?_getD, List.getElem?_eq_getElem hlt]
        exact HL.out _ (List.getElem_mem _)
      have hcell : w1.cell? ⟨b, off + k, none⟩ = some (.int .u8 (c : Int)) := by rw [hc]; exact HC1.out k hlt
      have HN := Lib.hid hn
      have HCC := Lib.hid hc
      have hdec : decide ((k : Int) < l.length) = true := by simp; omega
      clear hn hc
      go_upto_region 6 with fail
      go_cut [4] (fun v wx => wx = w1.alloc (.cells (tabA 16) 49) ∧ v = .int .u32 ((n ^^^ c : Nat) : Int))
      case first =>
        go_wp2_with fail
        go_meet
        exact ⟨rfl, congrArg (Value.int .u32) (u32_xor_nat n c hnl (by omega))⟩
      case rest =>
      obtain ⟨rfl, rfl⟩ := hcut
      obtain ⟨m, hm⟩ : ∃ m, m = n ^^^ c := ⟨_, rfl⟩
      have hml : m < 4294967296 := by rw [hm]; exact xor_lt32 hnl (by omega)
      rw [← hm]
      obtain ⟨r, hr⟩ : ∃ r, r = m % 16 := ⟨_, rfl⟩
      have hr1 : (m : Int) % 16 = (r : Int) := by omega
      have hr2 : r < 16 := by omega
      have hrt := tab_at m
      rw [← hr] at hrt
      have HM := Lib.hid hm
      have HR := Lib.hid hr
      clear hm hr
      go_upto_region 7 with fail
      go_cut [4] (fun v wx => wx = w1.alloc (.cells (tabA 16) 49) ∧ v = .int .u32 ((crcN 4 m : Nat) : Int))
      case first =>
        go_wp2_with fail
        go_meet
        exact ⟨rfl, congrArg (Value.int .u32) (half_eq m r hml HR.out)⟩
      case rest =>
      obtain ⟨rfl, rfl⟩ := hcut
      clear hr1 hr2 hrt HR
      obtain ⟨m2, hm2⟩ : ∃ m2, m2 = crcN 4 m := ⟨_, rfl⟩
      have hm2l : m2 < 4294967296 := by rw [hm2]; exact crcN_lt 4 hml
      rw [← hm2]
      obtain ⟨r, hr⟩ : ∃ r, r = m2 % 16 := ⟨_, rfl⟩
      have hr1 : (m2 : Int) % 16 = (r : Int) := by omega
      have hr2 : r < 16 := by omega
      have hrt := tab_at m2
      rw [← hr] at hrt
      have HM2 := Lib.hid hm2
      have HR := Lib.hid hr
      clear hm2 hr
      go_wp2
      go_round
      case rel => exact ⟨k + 1, by omega, by go_num, congrArg (Value.int .u32) ((half_eq m2 r hm2l HR.out).trans (congrArg (fun x : Nat => (x : Int)) (by rw [HM2.out, HM.out, HN.out, HCC.out]; exact round_eq l k hlt)))⟩
      case measure => simp [intOf]; omega
    · obtain rfl : k = l.length := by omega
      rw [List.take_length]
      have hz := crcL_lt (s := 4294967295) (by decide) l (fun c hc => HL.out c hc)
      obtain ⟨n, hn⟩ : ∃ n, n = crcL 4294967295 l := ⟨_, rfl⟩
      rw [← hn]
      rw [← hn] at hz
      have HN := Lib.hid hn
      clear hn
      have hsg : IntKind.u32.signed = false := rfl
      have hmx : IntKind.u32.max = 4294967295 := rfl
      go_wp2
      go_ret
      exact ⟨ret_int (by rw [sumN, ← HN.out]; exact u32_xor_nat 4294967295 n (by decide) hz), (HB1.out.alloc HB1.out.size _)⟩
set_option maxRecDepth 100000 in
set_option maxHeartbeats 800000 in
theorem sum_none (cap : Nat) (w : World) :
    Calls Tryd.prog 14 #[.slice none 0 cap] w fun e w' => e = .returned (.int .u32 0) ∧ Below w.heap.size w w' := by
  go_enter Tryd.func14, Tryd.ntmps14
  go_upto_region 1 with fail
  go_cut [3] (fun v wx => ∃ w1, wx = w1.alloc (.cells (tabA 16) 49) ∧ Below w.heap.size w w1 ∧ v = .pointer (some ⟨w1.heap.size, 0, none⟩))
  case first =>
    go_wp2_with fail
    refine (table_any _).mono ?_
    rintro e w1 ⟨rfl, hb1⟩
    have HB1 := Lib.hid hb1
    clear hb1
    have HS1 := Lib.hid (show (Tryd.prog.info? 49).map (·.size) = some (tabA 16).size by rw [tabA_size]; kernel_rfl)
    have HS2 := Lib.hid (show (#[Value.int IntKind.u32 0, Value.int IntKind.u32 0, Value.int IntKind.u32 0, Value.int IntKind.u32 0, Value.int IntKind.u32 0, Value.int IntKind.u32 0, Value.int IntKind.u32 0, Value.int IntKind.u32 0, Value.int IntKind.u32 0, Value.int IntKind.u32 0, Value.int IntKind.u32 0, Value.int IntKind.u32 0, Value.int IntKind.u32 0, Value.int IntKind.u32 0, Value.int IntKind.u32 0, Value.int IntKind.u32 0] : Array Value).size = (tabA 16).size by rw [tabA_size]; rfl)
    go_wp2_with (refine wpList_store_row rfl 49 _ _ rfl w1.heap.size (tabA 16) rfl rfl 49 _ (heap_alloc_new _ _) HS1.out HS2.out tabA_one ?_; rw [World.setRow_alloc_new])
    try simp only [Act.put]
    go_meet
    exact ⟨w1, rfl, HB1.out, rfl⟩
  case rest =>
  obtain ⟨w1, rfl, hb1, rfl⟩ := hcut
  have HB1 := Lib.hid hb1
  clear hb1
  go_wp2
  refine wp_loop_rounds 1 ?_
  rw [rounds_succ]
  have hsg : IntKind.u32.signed = false := rfl
  have hmx : IntKind.u32.max = 4294967295 := rfl
  go_wp2
  go_ret
  exact ⟨rfl, (HB1.out.alloc HB1.out.size _)⟩
end Go.Proofs.YtblphklfjafmfaaDoor
