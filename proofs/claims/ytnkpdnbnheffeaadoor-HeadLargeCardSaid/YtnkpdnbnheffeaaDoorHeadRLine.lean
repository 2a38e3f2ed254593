/- The document's Line. -/
import Derived.Test.YtnkpdnbnheffeaaDoorHeadRead
import Derived.Test.YtnkpdnbnheffeaaDoorHeadRMay
namespace Go.Proofs.YtnkpdnbnheffeaaDoor
open Go.RowKit

theorem occ_two {l : List UInt8} {i : Nat} {a b : UInt8} (h1 : l[i]? = some a) (h2 : l[i + 1]? = some b) : Lib.occAt l tEnd i = ((13 : UInt8) == a && (10 : UInt8) == b) := by
  have k1 := (List.getElem?_eq_some_iff.1 h1).1
  have k2 := (List.getElem?_eq_some_iff.1 h2).1
  unfold Lib.occAt tEnd
  rw [List.drop_eq_getElem_cons k1, List.drop_eq_getElem_cons k2, (List.getElem?_eq_some_iff.1 h1).2, (List.getElem?_eq_some_iff.1 h2).2]
  show ((13 : UInt8) == a && ((10 : UInt8) == b && List.isPrefixOf [] _)) = _
  rw [List.isPrefixOf_nil_left, Bool.and_true]
theorem eq_num {a d : UInt8} : ((d == a) = true) ↔ (a.toNat = d.toNat) := by
  rw [beq_iff_eq]
  exact ⟨fun h => by rw [h], fun h => (UInt8.toNat_inj.1 h).symm⟩
def LnV (l : List UInt8) : Value := if endedB l = true then .tuple #[.string ⟨(cutL l).toArray⟩, .int .i64 (((cutL l).length + 2 : Nat) : Int)] else .tuple #[.string ⟨#[]⟩, .int .i64 0]
theorem lnV_hit {l : List UInt8} {i : Nat} (hn : ∀ j, j < i → Lib.occAt l tEnd j = false) (hi : i + 1 < l.length) (ho : Lib.occAt l tEnd i = true) : endedB l = true ∧ cutL l = l.take i := by
  have h := Lib.index_hit (s := l) (sub := tEnd) (i := i) hn (by omega) ho
  unfold endedB cutL
  rw [h, if_pos (by omega), decide_eq_true (by omega)]
  exact ⟨rfl, by rw [Int.toNat_natCast]⟩
theorem lnV_no {l : List UInt8} {i : Nat} (hn : ∀ j, j < i → Lib.occAt l tEnd j = false) (hi : ¬ i + 1 < l.length) : endedB l = false := by
  have h := Lib.index_past (s := l) (sub := tEnd) (i := i) (by decide) hn (by have : tEnd.length = 2 := rfl; omega)
  unfold endedB
  rw [h]
  rfl
set_option maxRecDepth 100000 in
set_option maxHeartbeats 1000000 in
theorem line_any {w : World} {B : Nat} {A : Option Addr} {c : Nat} {l : List UInt8} (hr : BReads w B A l) (hc : l.length ≤ c) (hl : l.length ≤ 1000000) :
    Calls Tryd.prog 41 #[.slice A l.length c] w fun e w' => e = .returned (LnV l) ∧ w = w' := by
  have HRD := Lib.hid hr
  have HTX := Lib.hid (fun (i c : Nat) (hi : i ≤ l.length) => show (convert 22 9 (.slice A i c)).run Tryd.prog w = .ok (.string ⟨(l.take i).toArray⟩) w by
    have h := run_bytes_text w 9 22 Tryd.underlying22 Tryd.underlying9 c (hr.take i)
    rw [List.length_take, Nat.min_eq_left hi] at h
    exact h)
  obtain ⟨n, hn⟩ : ∃ n, n = l.length := ⟨_, rfl⟩
  rw [← hn] at hc hl ⊢
  have HN := Lib.hid hn
  clear hn hr
  go_enter Tryd.func41, Tryd.ntmps41
  go_wp2
  go_loop [4] (fun i => ∃ k : Nat, k ≤ n ∧ i = .int .i64 k ∧ Hid (∀ j, j < k → Lib.occAt l tEnd j = false)) (fun i => n - (intOf i).toNat)
  case atStart => exact ⟨0, Nat.zero_le _, rfl, Lib.hid (fun j hj => by omega)⟩
  case round =>
    obtain ⟨k, hk, rfl, HK⟩ := hrel
    by_cases hlt : k + 1 < n
    · obtain ⟨a, ha⟩ : ∃ a, l[k]? = some a := ⟨_, List.getElem?_eq_getElem (by rw [← HN.out]; omega)⟩
      obtain ⟨b, hb⟩ : ∃ b, l[k + 1]? = some b := ⟨_, List.getElem?_eq_getElem (by rw [← HN.out]; omega)⟩
      obtain ⟨g, off, hA, -, hcell⟩ := HRD.out.addr (by rw [← HN.out]; omega)
      subst hA
      have hca := hcell k a ha
      have hcb := hcell (k + 1) b hb
      unfold bcell at hca hcb
      have HO := Lib.hid (occ_two ha hb)
      have hlt' : (k : Int) + 1 < (n : Int) := by omega
      have hk1 : (k : Int) < (n : Int) := by omega
      have hcb2 : w.cell? ⟨g, off + k + 1, none⟩ = some (.int .u8 (b.toNat : Int)) := by rw [Nat.add_assoc]; exact hcb
      obtain ⟨x, hx⟩ : ∃ x : Int, x = (a.toNat : Int) := ⟨_, rfl⟩
      obtain ⟨y, hy⟩ : ∃ y : Int, y = (b.toNat : Int) := ⟨_, rfl⟩
      rw [← hx] at hca
      rw [← hy] at hcb hcb2
      have HX := Lib.hid hx
      have HYY := Lib.hid hy
      clear ha hb hcell hx hy
      by_cases h1 : x = 13
      · by_cases h2 : y = 10
        · have HT := Lib.hid (lnV_hit HK.out (by rw [← HN.out]; omega) (by rw [HO.out, Bool.and_eq_true, eq_num, eq_num]; have := HX.out; have := HYY.out; exact ⟨by show a.toNat = 13; omega, by show b.toNat = 10; omega⟩))
          have hcv := HTX.out k c (by rw [← HN.out]; omega)
          have hkc : (k : Int) ≤ (c : Int) := by omega
          have HLN := Lib.hid (show LnV l = .tuple #[.string ⟨(l.take k).toArray⟩, .int .i64 ((k : Int) + 2)] by unfold LnV; rw [if_pos HT.out.1, HT.out.2, List.length_take, Nat.min_eq_left (by rw [← HN.out]; omega)]; rfl)
          subst h1 h2
          go_wp2
          go_ret2
          exact ⟨by rw [HLN.out]; rfl, rfl⟩
        · have HNX := Lib.hid (show ∀ j, j < k + 1 → Lib.occAt l tEnd j = false from fun j hj => by
            rcases Nat.lt_or_ge j k with h | h
            · exact HK.out j h
            · obtain rfl : j = k := by omega
              rw [HO.out, Bool.and_eq_false_iff]
              right
              rw [← Bool.not_eq_true, eq_num]
              have := HYY.out
              show ¬ b.toNat = 10
              omega)
          have g2 : (y == 10) = false := by simpa using h2
          subst h1
          go_wp2
          go_round
          case rel => exact ⟨k + 1, by omega, by go_num, HNX⟩
          case measure => simp [intOf] <;> omega
      · have HNX := Lib.hid (show ∀ j, j < k + 1 → Lib.occAt l tEnd j = false from fun j hj => by
          rcases Nat.lt_or_ge j k with h | h
          · exact HK.out j h
          · obtain rfl : j = k := by omega
            rw [HO.out, Bool.and_eq_false_iff]
            left
            rw [← Bool.not_eq_true, eq_num]
            have := HX.out
            show ¬ a.toNat = 13
            omega)
        have g1 : (x == 13) = false := by simpa using h1
        go_wp2
        go_round
        case rel => exact ⟨k + 1, by omega, by go_num, HNX⟩
        case measure => simp [intOf] <;> omega
    · have hge : decide ((k : Int) + 1 < (n : Int)) = false := by simp; omega
      have HLN := Lib.hid (show LnV l = .tuple #[.string ⟨#[]⟩, .int .i64 0] by unfold LnV; rw [lnV_no HK.out (by rw [← HN.out]; exact hlt)]; rfl)
      go_wp2
      go_ret2
      exact ⟨by rw [HLN.out]; rfl, rfl⟩
end Go.Proofs.YtnkpdnbnheffeaaDoor
