/- The program's mayGroup: may series be grouped by these words? -/
import Derived.Test.YtnbghappfclnjaaGreatLabOrder
import Derived.Test.YtnbghappfclnjaaGreatCfRMay
namespace Go.Proofs.YtnbghappfclnjaaGreat
open Go.RowKit

open Classical in
noncomputable def byB (l : List ByteArray) : Bool := decide (ByOk l)
theorem byB_iff {l : List ByteArray} : byB l = true ↔ ByOk l := by unfold byB; simp
theorem byB_no {l : List ByteArray} (h : ¬ ByOk l) : byB l = false := by
  cases e : byB l with
  | false => rfl
  | true => exact absurd (byB_iff.1 e) h
set_option maxRecDepth 100000 in
set_option maxHeartbeats 4000000 in
theorem group_any (A : Option Addr) (l : List ByteArray) (cap : Nat) (w : World) (hr : bK.Reads w w.heap.size A l) (hlen : l.length ≤ 1000) (hsz : ∀ s ∈ l, s.size ≤ 6000) :
    Calls Tryz.prog 27 #[.slice A l.length cap] w fun e w' => e = .returned (.bool (byB l)) ∧ w = w' := by
  have HR := Lib.hid hr
  have HZ := Lib.hid hsz
  clear hr hsz
  obtain ⟨n, hn⟩ : ∃ n, n = l.length := ⟨_, rfl⟩
  rw [← hn] at hlen ⊢
  have HN := Lib.hid hn
  clear hn
  by_cases h16 : (16 : Int) < (n : Int)
  · have HE := Lib.hid (show byB l = false from byB_no fun h => by have := h.n; rw [← HN.out] at this; omega)
    go_enter Tryz.func27, Tryz.ntmps27
    go_wp2_with fail
    go_ret
    exact ⟨by rw [HE.out]; rfl, rfl⟩
  · have h16' : decide ((16 : Int) < (n : Int)) = false := by rw [decide_eq_false_iff_not]; omega
    have HL16 := Lib.hid (show n ≤ 16 by omega)
    clear h16
    go_enter Tryz.func27, Tryz.ntmps27
    go_wp2_with fail
    go_loop [10] (fun i => ∃ k : Nat, k ≤ n ∧ i = .int .i64 k ∧ Hid (∀ i, i < k → WordOk l i)) (fun i => n - (intOf i).toNat)
    case atStart => exact ⟨0, Nat.zero_le _, rfl, Lib.hid fun i hi => absurd hi (by omega)⟩
    case round =>
      obtain ⟨k, hk, rfl, HP⟩ := hrel
      by_cases hlt : k < n
      · obtain ⟨s, hs⟩ : ∃ s, l[k]? = some s := ⟨_, List.getElem?_eq_getElem (by rw [← HN.out]; exact hlt)⟩
        have HSK := Lib.hid hs
        have HW := Lib.hid (fun W => isWord_any s W (by have := HZ.out s (List.mem_of_getElem? hs); omega))
        obtain ⟨b, off, hA, hb, hc⟩ := HR.out.at bOk (by rw [← HN.out]; omega)
        have HC := Lib.hid hc
        have c0 := hc k s hs 0 _ rfl
        simp only [bK, Nat.add_zero, Nat.mul_one] at c0
        subst hA
        clear hc hs hb
        have hlt' : (k : Int) < (n : Int) := by omega
        obtain ⟨z, hz⟩ : ∃ z, z = wrdB s.data.toList := ⟨_, rfl⟩
        rw [← hz] at HW
        have HWZ := Lib.hid hz
        clear hz
        cases z with
        | false =>
          have HE := Lib.hid (show byB l = false from byB_no fun h => by
            have := (h.each k s HSK.out).1
            rw [← HWZ.out] at this
            cases this)
          go_wp2_with fail
          refine (HW.out _).mono ?_
          rintro e w1 ⟨rfl, rfl⟩
          go_wp2_with fail
          go_ret
          exact ⟨by rw [HE.out]; rfl, rfl⟩
        | true =>
          rcases Nat.eq_zero_or_pos k with h0 | h0
          · have hz0 : decide ((0 : Int) < (k : Int)) = false := by rw [decide_eq_false_iff_not]; omega
            have hz1 : decide (0 < k) = false := by rw [decide_eq_false_iff_not]; omega
            have HN1 := Lib.hid (show ∀ i, i < k + 1 → WordOk l i from fun i h => by
              obtain rfl : i = 0 := by omega
              intro v hv
              rw [← h0, HSK.out] at hv
              cases hv
              exact ⟨HWZ.out.symm, fun r hr => by omega⟩)
            clear h0
            go_wp2_with fail
            refine (HW.out _).mono ?_
            rintro e w1 ⟨rfl, rfl⟩
            go_wp2_with fail
            go_round
            case rel => exact ⟨k + 1, by omega, by go_num, HN1⟩
            case measure => simp [intOf] <;> omega
          · obtain ⟨p, rfl⟩ : ∃ p, k = p + 1 := ⟨k - 1, by omega⟩
            obtain ⟨r, hr⟩ : ∃ r, l[p]? = some r := ⟨_, List.getElem?_eq_getElem (by rw [← HN.out]; omega)⟩
            have HRK := Lib.hid hr
            have d0 := HC.out p r hr 0 _ rfl
            simp only [bK, Nat.add_zero, Nat.mul_one] at d0
            have HCM := Lib.hid (fun W => compare_any r s W)
            have HCG := Lib.hid (compare_ge r.data.toList s.data.toList)
            obtain ⟨x, hx⟩ : ∃ x, x = Lib.compareBytes r.data.toList s.data.toList := ⟨_, rfl⟩
            rw [← hx] at HCM HCG
            clear hx
            have hp0 : (0 : Int) ≤ (p : Int) := by omega
            have hp1 : (p : Int) < (n : Int) := by omega
            have hp2 : (0 : Int) < (p : Int) + 1 := by omega
            have hp3 : (p : Int) + 1 - 1 = (p : Int) := by omega
            have hp4 : (p : Int) + 1 < (n : Int) := by omega
            clear hr h0
            by_cases hge : 0 ≤ x
            · have HE := Lib.hid (show byB l = false from byB_no fun h => by
                have h1 := (h.each (p + 1) s HSK.out).2 r (by omega) (by rw [show p + 1 - 1 = p by omega]; exact HRK.out)
                have h2 := HCG.out
                rw [h1, decide_eq_true hge] at h2
                cases h2)
              go_wp2_with fail
              refine (HW.out _).mono ?_
              rintro e w1 ⟨rfl, rfl⟩
              go_wp2_with fail
              refine (HCM.out _).mono ?_
              rintro e w1 ⟨rfl, rfl⟩
              go_wp2_with fail
              go_ret
              exact ⟨by rw [HE.out]; rfl, rfl⟩
            · have hge' : decide (0 ≤ x) = false := decide_eq_false hge
              have HN1 := Lib.hid (show ∀ i, i < p + 1 + 1 → WordOk l i from fun i h => by
                rcases Nat.lt_or_ge i (p + 1) with h1 | h1
                · exact HP.out i h1
                · obtain rfl : i = p + 1 := by omega
                  intro v hv
                  rw [HSK.out] at hv
                  cases hv
                  refine ⟨HWZ.out.symm, fun q _ hq => ?_⟩
                  rw [show p + 1 - 1 = p by omega, HRK.out] at hq
                  cases hq
                  have h2 := HCG.out
                  rw [hge'] at h2
                  simpa using h2.symm)
              clear hge
              go_wp2_with fail
              refine (HW.out _).mono ?_
              rintro e w1 ⟨rfl, rfl⟩
              go_wp2_with fail
              refine (HCM.out _).mono ?_
              rintro e w1 ⟨rfl, rfl⟩
              go_wp2_with fail
              go_round
              case rel => exact ⟨p + 1 + 1, by omega, by go_num, HN1⟩
              case measure => simp [intOf] <;> omega
      · have hge : decide ((k : Int) < (n : Int)) = false := by simp; omega
        have HE := Lib.hid (show byB l = true from byB_iff.2 ⟨by rw [← HN.out]; exact HL16.out, fun i => by
          rcases Nat.lt_or_ge i k with h | h
          · exact HP.out i h
          · intro t ht
            have := (List.getElem?_eq_some_iff.1 ht).1
            rw [← HN.out] at this
            omega⟩)
        go_wp2_with fail
        go_ret
        exact ⟨by rw [HE.out]; rfl, rfl⟩
end Go.Proofs.YtnbghappfclnjaaGreat
