/- The document's may; how much labels are. -/
import Derived.Test.YtnbghappfclnjaaSeq
import Derived.Test.YtnbghappfclnjaaRefWord
import Derived.Test.YtnbghappfclnjaaLabSorted
import Derived.Test.YtnbghappfclnjaaLabCheck
namespace Go.Proofs.Ytnbghappfclnjaa
open Go.RowKit

def sumL : List Lbl → Nat
  | [] => 0
  | x :: l => x.1.length + x.2.length + sumL l
theorem sumL_append (l m : List Lbl) : sumL (l ++ m) = sumL l + sumL m := by
  induction l with
  | nil => simp [sumL]
  | cons x l ih => simp [sumL, ih]; omega
theorem sumL_snoc {l : List Lbl} {k : Nat} {x : Lbl} (h : l[k]? = some x) : sumL (l.take (k + 1)) = sumL (l.take k) + (x.1.length + x.2.length) := by
  rw [List.take_add_one, h, sumL_append]
  simp [sumL]
def hugeL (l : List Lbl) : Prop := ∀ x ∈ l, x.1.length ≤ 140737488355328 ∧ x.2.length ≤ 140737488355328
theorem sumL_le : ∀ (k : Nat) {l : List Lbl}, hugeL l → sumL (l.take k) ≤ k * 281474976710656
  | 0, _, _ => by simp [sumL]
  | k + 1, l, h => by
    have ih := sumL_le k h
    cases hk : l[k]? with
    | none =>
      have hl : l.length ≤ k := List.getElem?_eq_none_iff.1 hk
      have e : l.take (k + 1) = l.take k := by rw [List.take_of_length_le hl, List.take_of_length_le (Nat.le_succ_of_le hl)]
      rw [e]
      exact Nat.le_trans ih (Nat.mul_le_mul_right _ (Nat.le_succ k))
    | some x =>
      have hx := h x (List.mem_of_getElem? hk)
      rw [sumL_snoc hk, Nat.succ_mul]
      omega
def muchP (l : List Lbl) : Bool := decide (20 < l.length) || decide (3000 < sumL (l.take 21))
theorem sumL_mem {l : List Lbl} {x : Lbl} (h : x ∈ l) : x.1.length + x.2.length ≤ sumL l := by
  induction l with
  | nil => cases h
  | cons y l ih =>
    rcases List.mem_cons.1 h with rfl | h
    · simp [sumL]
    · have := ih h
      simp [sumL]
      omega
theorem muchP_small {l : List Lbl} (h : muchP l = false) : l.length ≤ 20 ∧ smallL l := by
  unfold muchP at h
  rw [Bool.or_eq_false_iff, decide_eq_false_iff_not, decide_eq_false_iff_not] at h
  have hl : l.length ≤ 20 := by omega
  refine ⟨hl, fun x hx => ?_⟩
  rw [List.take_of_length_le (by omega)] at h
  have := sumL_mem hx
  omega

/-! may -/
def dist (l : List Lbl) : Prop := (l.map (·.1)).Nodup
def mayP (l : List Lbl) : Bool := decide (l.length ≤ 16) && (labsB l && decide ((l.map (·.1)).Nodup))
theorem nodup_snoc {l : List Lbl} {k : Nat} {x : Lbl} (h : l[k]? = some x) (h1 : dist (l.take k)) (h2 : ∀ j y, j < k → l[j]? = some y → y.1 ≠ x.1) : dist (l.take (k + 1)) := by
  unfold dist at *
  rw [List.take_add_one, h, List.map_append, List.nodup_append]
  refine ⟨h1, by simp, ?_⟩
  intro a ha b hb
  simp at hb
  subst hb
  obtain ⟨y, hy, rfl⟩ := List.mem_map.1 ha
  obtain ⟨j, hj⟩ := List.getElem?_of_mem hy
  rw [List.getElem?_take] at hj
  split at hj
  · rename_i hlt
    exact h2 j y hlt hj
  · cases hj
theorem nodup_false {l : List Lbl} {j k : Nat} {x y : Lbl} (h1 : l[j]? = some y) (h2 : l[k]? = some x) (hj : j < k) (he : y.1 = x.1) : decide ((l.map (·.1)).Nodup) = false := by
  rw [decide_eq_false_iff_not]
  intro h
  unfold List.Nodup at h
  rw [List.pairwise_map, List.pairwise_iff_getElem] at h
  obtain ⟨a1, rfl⟩ := List.getElem?_eq_some_iff.1 h1
  obtain ⟨a2, rfl⟩ := List.getElem?_eq_some_iff.1 h2
  exact h j k a1 a2 hj he
theorem nameP_may (m : List UInt8) (l : List Lbl) : nameP m l = if (metB m && mayP l) = true then some (textT m (sortP l)) else none := by
  have hn : rising (sortP l) = decide ((l.map (·.1)).Nodup) := by
    rw [Bool.eq_iff_iff, decide_eq_true_eq, ← ((sortP_perm l).map (·.1)).nodup_iff]
    exact ⟨rising_nodup, loose_rising (sortP_loose l)⟩
  unfold nameP checkB mayP
  rw [labsB_perm (sortP_perm l), hn]
  simp only [Bool.and_eq_true, decide_eq_true_eq]
  by_cases h : l.length ≤ 16 ∧ metB m = true ∧ labsB l = true ∧ (l.map (·.1)).Nodup
  · rw [if_pos h, if_pos ⟨h.2.1, h.1, h.2.2⟩]
  · rw [if_neg h, if_neg (fun hh => h ⟨hh.2.1, hh.1, hh.2.2⟩)]
theorem toList_eq (x : List UInt8) : (⟨x.toArray⟩ : ByteArray).toList = x := by rw [Lib.toList_data]

set_option maxRecDepth 100000 in
set_option maxHeartbeats 8000000 in
theorem may_lbl (A : Option Addr) (cap : Nat) (l : List Lbl) (w : World) (hl : l.length ≤ 9223372036854775807) (hs : smallL l) (hr : LReads w w.heap.size A l) :
    Calls Try.prog 47 #[.slice A l.length cap] w fun e w' => e = .returned (.bool (mayP l)) ∧ ∃ q, w' = w.drewN q := by
  by_cases h16 : l.length ≤ 16
  · have h16' : decide (16 < (l.length : Int)) = false := by simp; omega
    have HR := Lib.hid hr
    have HS := Lib.hid hs
    have HMP := Lib.hid (show mayP l = (labsB l && decide ((l.map (·.1)).Nodup)) by unfold mayP; rw [decide_eq_true h16]; rfl)
    clear hr hs
    go_enter Try.func47, Try.ntmps47
    go_wp2
    go_loopw [3] (fun i wr => ∃ (k q : Nat), k ≤ l.length ∧ i = .int .i64 k ∧ Hid (labsB (l.take k) = true) ∧ Hid (dist (l.take k)) ∧ wr = w.drewN q) (fun i _ => l.length - (intOf i).toNat)
    case atStart => exact ⟨0, 0, Nat.zero_le _, rfl, Lib.hid rfl, Lib.hid (by unfold dist; simp), rfl⟩
    case round =>
      obtain ⟨k, q, hk, rfl, HLK, HDK, rfl⟩ := hrel
      by_cases hlt : k < l.length
      · have hlt' : (k : Int) < (l.length : Int) := by omega
        have hk0 : (0 : Int) ≤ (k : Int) := by omega
        obtain ⟨x, hx⟩ : ∃ x, l[k]? = some x := ⟨_, List.getElem?_eq_getElem hlt⟩
        obtain ⟨b, off, rfl, hb, hc⟩ := HR.out.at (by omega)
        have hc1 := (hc k x hx).1
        have hc2 := (hc k x hx).2
        unfold strV at hc1 hc2
        have hsx := HS.out x (List.mem_of_getElem? hx)
        have HX := Lib.hid hx
        have HC := Lib.hid hc
        have HWD := fun W => Lib.hid (rword_any ⟨x.1.toArray⟩ W (by rw [Lib.size_eq]; show x.1.length ≤ _; omega))
        change ∀ W, Hid (Calls Try.prog 63 _ W fun e w' => e = .returned (.bool (wrdB x.1)) ∧ W = w') at HWD
        clear hx hc
        cases hw : wrdB x.1 with
        | false =>
          have HE := Lib.hid (show mayP l = false by rw [HMP.out, labsB_false HX.out (by unfold labB; rw [hw]; rfl)]; rfl)
          rw [hw] at HWD
          go_wp2_with fail
          refine (Hid.out (HWD _)).mono ?_
          rintro e w' ⟨rfl, rfl⟩
          go_wp2
          go_ret
          exact ⟨ret_bool' HE.out.symm, _, rfl⟩
        | true =>
          rw [hw] at HWD
          by_cases hv : 1024 < x.2.length
          · have hv' : 1024 < (x.2.length : Int) := by omega
            have HE := Lib.hid (show mayP l = false by rw [HMP.out, labsB_false HX.out (by unfold labB; rw [hw, decide_eq_false (by omega)]; rfl)]; rfl)
            go_wp2_with fail
            refine (Hid.out (HWD _)).mono ?_
            rintro e w' ⟨rfl, rfl⟩
            go_wp2
            go_ret
            exact ⟨ret_bool' HE.out.symm, _, rfl⟩
          · have hv' : decide (1024 < (x.2.length : Int)) = false := by simp; omega
            have HLK1 := Lib.hid (show labsB (l.take (k + 1)) = true by rw [labsB_snoc HX.out, HLK.out]; unfold labB; rw [hw, decide_eq_true (by omega)]; rfl)
            clear hw hv
            go_wp2_with fail
            refine (Hid.out (HWD _)).mono ?_
            rintro e w' ⟨rfl, rfl⟩
            go_wp2
            go_loopw [4] (fun j wr2 => ∃ (i p : Nat), i ≤ k ∧ j = .int .i64 i ∧ Hid (∀ t y, t < i → l[t]? = some y → y.1 ≠ x.1) ∧ wr2 = w.drewN p) (fun j _ => k - (intOf j).toNat)
            case atStart => exact ⟨0, q, Nat.zero_le _, rfl, Lib.hid (fun t y h => by omega), rfl⟩
            case round =>
              obtain ⟨i, p, hi, rfl, HNE, rfl⟩ := hrel
              by_cases hik : i < k
              · have hik' : (i : Int) < (k : Int) := by omega
                have hi0 : (0 : Int) ≤ (i : Int) := by omega
                have hil : (i : Int) < (l.length : Int) := by omega
                obtain ⟨y, hy⟩ : ∃ y, l[i]? = some y := ⟨_, List.getElem?_eq_getElem (by omega)⟩
                have hy1 := (HC.out i y hy).1
                unfold strV at hy1
                have HY := Lib.hid hy
                clear hy
                by_cases he : y.1 = x.1
                · have HE := Lib.hid (show mayP l = false by rw [HMP.out, nodup_false HY.out HX.out hik he, Bool.and_false])
                  rw [he] at hy1
                  clear he
                  go_wp2
                  go_quiet (fail)
                  go_wp2
                  go_ret
                  exact ⟨ret_bool' HE.out.symm, _, World.drewN_drewN _ _ _⟩
                · have heb : ((⟨y.1.toArray⟩ : ByteArray).toList == (⟨x.1.toArray⟩ : ByteArray).toList) = false := by rw [toList_eq, toList_eq]; simpa using he
                  have HNE1 := Lib.hid (show ∀ t z, t < i + 1 → l[t]? = some z → z.1 ≠ x.1 from fun t z h1 h2 => by
                    rcases Nat.lt_or_ge t i with h | h
                    · exact HNE.out t z h h2
                    · obtain rfl : t = i := by omega
                      rw [HY.out] at h2
                      cases h2
                      exact he)
                  have heb2 : (y.1 == x.1) = false := by simpa using he
                  clear he
                  go_wp2
                  go_quiet (fail)
                  go_wp2
                  go_roundw
                  case rel => exact ⟨i + 1, _, by omega, by go_num, HNE1, by first | rfl | exact World.drewN_drewN _ _ _⟩
                  case measure => simp [intOf] <;> omega
              · have hge : decide ((i : Int) < (k : Int)) = false := by simp; omega
                have HDK1 := Lib.hid (nodup_snoc HX.out HDK.out (fun t y h1 h2 => HNE.out t y (by omega) h2))
                go_wp2
                go_roundw
                case rel => exact ⟨k + 1, p, by omega, by go_num, HLK1, HDK1, rfl⟩
                case measure => simp [intOf] <;> omega
      · have hge : decide ((k : Int) < (l.length : Int)) = false := by simp; omega
        have HE := Lib.hid (show mayP l = true by
          have h1 := HLK.out
          have h2 := HDK.out
          unfold dist at h2
          rw [show k = l.length by omega, List.take_length] at h1 h2
          rw [HMP.out, h1, decide_eq_true h2]
          rfl)
        go_wp2
        go_ret
        exact ⟨ret_bool' HE.out.symm, _, rfl⟩
  · have h16' : 16 < (l.length : Int) := by omega
    have HE := Lib.hid (show mayP l = false by unfold mayP; rw [decide_eq_false h16]; rfl)
    go_enter Try.func47, Try.ntmps47
    go_wp2
    go_ret
    exact ⟨ret_bool' HE.out.symm, 0, rfl⟩
end Go.Proofs.Ytnbghappfclnjaa
