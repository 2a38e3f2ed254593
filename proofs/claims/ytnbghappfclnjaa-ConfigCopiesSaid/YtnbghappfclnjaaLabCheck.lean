/- What keeps a metric's name and labels from being a series': the program's check. -/
import Derived.Test.YtnbghappfclnjaaLabOrder
import Derived.Test.YtnbghappfclnjaaBuf
import Derived.IntWalk
namespace Go.Proofs.Ytnbghappfclnjaa
open Go.RowKit

theorem below_drewN {B : Nat} {a w : World} (h : Below B a w) (n : Nat) : Below B a (w.drewN n) := ⟨h.os, h.tape, h.output, h.size, h.block⟩
theorem labsB_snoc {l : List Lbl} {k : Nat} {x : Lbl} (h : l[k]? = some x) : labsB (l.take (k + 1)) = (labsB (l.take k) && labB x) := by
  rw [List.take_add_one, h]
  unfold labsB
  simp
theorem labsB_false {l : List Lbl} {k : Nat} {x : Lbl} (h : l[k]? = some x) (h1 : labB x = false) : labsB l = false := by
  unfold labsB
  rw [List.all_eq_false]
  exact ⟨x, List.mem_of_getElem? h, by simp [h1]⟩
theorem rising_snoc : ∀ {l : List Lbl} {k : Nat} {x y : Lbl}, l[k]? = some x → l[k + 1]? = some y → rising (l.take (k + 1)) = true → ltN x.1 y.1 = true → rising (l.take (k + 2)) = true
  | [], _, _, _, h, _, _, _ => by simp at h
  | [_], k, _, _, _, h, _, _ => by simp at h
  | a :: b :: l, 0, x, y, h1, h2, _, h => by
    simp at h1 h2
    subst h1 h2
    simp [rising, h]
  | a :: b :: l, k + 1, x, y, h1, h2, hr, h => by
    rw [List.getElem?_cons_succ] at h1 h2
    rw [List.take_succ_cons, List.take_succ_cons, rising, Bool.and_eq_true] at hr ⊢
    refine ⟨hr.1, ?_⟩
    have := rising_snoc (l := b :: l) (k := k) h1 h2 (by rw [List.take_succ_cons]; exact hr.2) h
    rwa [List.take_succ_cons] at this
theorem rising_false {l : List Lbl} {k : Nat} {x y : Lbl} (h1 : l[k]? = some x) (h2 : l[k + 1]? = some y) (h : ltN x.1 y.1 = false) : rising l = false := by
  cases hr : rising l with
  | false => rfl
  | true =>
    have hp := rising_pair hr
    rw [List.pairwise_iff_getElem] at hp
    have hk := (List.getElem?_eq_some_iff.1 h1)
    have hk2 := (List.getElem?_eq_some_iff.1 h2)
    obtain ⟨a1, rfl⟩ := hk
    obtain ⟨a2, rfl⟩ := hk2
    rw [hp k (k + 1) a1 a2 (Nat.lt_succ_self k)] at h
    cases h

/-- nil, or an error: as b is. -/
def CheckPost (b : Bool) (w : World) (e : Ending) (w' : World) : Prop :=
  ((b = true ∧ e = .returned .nilIface) ∨ (b = false ∧ ∃ v, e = .returned v ∧ FaultIs w' v)) ∧ Below w.heap.size w w'
def smallL (l : List Lbl) : Prop := ∀ x ∈ l, x.1.length ≤ 1000000 ∧ x.2.length ≤ 1000000

set_option maxRecDepth 100000 in
set_option maxHeartbeats 1000000 in
theorem check_noMetric (m : ByteArray) (v : Value) (l : List Lbl) (w : World) (hm : m.size ≤ 9223372036854775807) (hb : metB m.data.toList = false) :
    Calls Try.prog 43 #[.string m, v] w (CheckPost (checkB m.data.toList l) w) := by
  have hc : checkB m.data.toList l = false := by unfold checkB; rw [hb]; rfl
  rw [hc]
  have HM := Lib.hid (isMetric_any m w hm)
  rw [hb] at HM
  clear hb hc
  go_enter Try.func43, Try.ntmps43
  go_wp2_with fail
  refine (Hid.out HM).mono ?_
  rintro e w' ⟨rfl, rfl⟩
  go_wp2
  go_ret
  exact ⟨.inr ⟨rfl, _, rfl, FaultIs.new _ _ _ (n := 0) rfl⟩, (Below.refl _ _).alloc (Nat.le_refl _) _⟩

set_option maxRecDepth 100000 in
set_option maxHeartbeats 4000000 in
theorem check_metric (A : Option Addr) (cap : Nat) (m : ByteArray) (l : List Lbl) (w : World) (hm : m.size ≤ 9223372036854775807) (hb : metB m.data.toList = true) (hl : l.length ≤ 1000) (hs : smallL l) (hr : LReads w w.heap.size A l) :
    Calls Try.prog 43 #[.string m, .slice A l.length cap] w (CheckPost (checkB m.data.toList l) w) := by
  have hc : checkB m.data.toList l = (labsB l && rising l) := by unfold checkB; rw [hb]; rfl
  rw [hc]
  have HM := Lib.hid (isMetric_any m w hm)
  rw [hb] at HM
  have HR := Lib.hid hr
  have HS := Lib.hid hs
  clear hb hc hr hs
  go_enter Try.func43, Try.ntmps43
  go_wp2_with fail
  refine (Hid.out HM).mono ?_
  rintro e w' ⟨rfl, rfl⟩
  go_wp2
  go_loopw [16] (fun i wr => ∃ k : Nat, k ≤ l.length ∧ i = .int .i64 k ∧ Hid (labsB (l.take k) = true) ∧ Hid (rising (l.take k) = true) ∧ Hid (Below w.heap.size w wr) ∧ w.heap.size ≤ wr.heap.size) (fun i _ => l.length - (intOf i).toNat)
  case atStart => exact ⟨0, Nat.zero_le _, rfl, Lib.hid rfl, Lib.hid rfl, Lib.hid (Below.refl _ _), Nat.le_refl _⟩
  case round =>
    obtain ⟨k, hk, rfl, HLK, HRK, HB, hBr⟩ := hrel
    by_cases hlt : k < l.length
    · obtain ⟨x, hx⟩ : ∃ x, l[k]? = some x := ⟨_, List.getElem?_eq_getElem hlt⟩
      obtain ⟨b, off, rfl, hb, hc⟩ := HR.out.at (by omega)
      have hc1 := (HB.out.cell (p := ⟨b, off + k * 2, none⟩) hb).trans (hc k x hx).1
      have hc2 := (HB.out.cell (p := ⟨b, off + k * 2 + 1, none⟩) hb).trans (hc k x hx).2
      unfold strV at hc1 hc2
      have hsx := HS.out x (List.mem_of_getElem? hx)
      have hlt' : (k : Int) < (l.length : Int) := by omega
      have HX := Lib.hid hx
      have HC := Lib.hid hc
      have HWD := fun W => Lib.hid (isWord_any ⟨x.1.toArray⟩ W (by rw [Lib.size_eq]; show x.1.length ≤ _; omega))
      change ∀ W, Hid (Calls Try.prog 59 _ W fun e w' => e = .returned (.bool (wrdB x.1)) ∧ W = w') at HWD
      clear hx hc
      cases hw : wrdB x.1 with
      | false =>
        have HCF := Lib.hid (show (labsB l && rising l) = false by rw [labsB_false HX.out (by unfold labB; rw [hw]; rfl)]; rfl)
        rw [hw] at HWD
        go_wp2_with fail
        refine (Hid.out (HWD _)).mono ?_
        rintro e w' ⟨rfl, rfl⟩
        go_wp2
        go_ret
        exact ⟨.inr ⟨HCF.out, _, rfl, FaultIs.here (by simp) (n := 0) rfl⟩, HB.out.trans (((Below.refl _ _).alloc hBr _).alloc (le_alloc hBr _) _)⟩
      | true =>
        rw [hw] at HWD
        by_cases hv : 1024 < x.2.length
        · have HCF := Lib.hid (show (labsB l && rising l) = false by rw [labsB_false HX.out (by unfold labB; rw [hw, decide_eq_false (by omega)]; rfl)]; rfl)
          go_wp2_with fail
          refine (Hid.out (HWD _)).mono ?_
          rintro e w' ⟨rfl, rfl⟩
          go_wp2
          go_ret
          exact ⟨.inr ⟨HCF.out, _, rfl, FaultIs.here (by simp) (n := 0) rfl⟩, HB.out.trans (((Below.refl _ _).alloc hBr _).alloc (le_alloc hBr _) _)⟩
        · have hv' : decide (1024 < (x.2.length : Int)) = false := by simp; omega
          have HLK1 := Lib.hid (show labsB (l.take (k + 1)) = true by rw [labsB_snoc HX.out, HLK.out]; unfold labB; rw [hw, decide_eq_true (by omega)]; rfl)
          cases k with
          | zero =>
            have HRK1 := Lib.hid (show rising (l.take 1) = true by
              cases l with
              | nil => rfl
              | cons y l => rfl)
            simp only [Nat.zero_mul, Nat.add_zero] at hc1 hc2
            go_wp2_with fail
            refine (Hid.out (HWD _)).mono ?_
            rintro e w' ⟨rfl, rfl⟩
            go_wp2
            go_quiet (fail)
            go_wp2
            go_roundw
            case rel => exact ⟨1, by omega, by go_num, HLK1, HRK1, Lib.hid (HB.out.trans (below_drewN (below_alloc hBr _) _)), by simp; omega⟩
            case measure => simp [intOf] <;> omega
          | succ j =>
            obtain ⟨y, hy⟩ : ∃ y, l[j]? = some y := ⟨_, List.getElem?_eq_getElem (by omega)⟩
            have hy1 := (HB.out.cell (p := ⟨b, off + j * 2, none⟩) hb).trans (HC.out j y hy).1
            unfold strV at hy1
            have hy2 := cell_alloc hy1 (.cells #[.string ⟨x.1.toArray⟩, .string ⟨x.2.toArray⟩] 33)
            have HY := Lib.hid hy
            have HCM := fun W => Lib.hid (compare_any ⟨y.1.toArray⟩ ⟨x.1.toArray⟩ W)
            change ∀ W, Hid (Calls Try.prog 57 _ W fun e w' => e = .returned (.int .i64 (Lib.compareBytes y.1 x.1)) ∧ W = w') at HCM
            have HGE := Lib.hid (compare_ge y.1 x.1)
            clear hy
            generalize Lib.compareBytes y.1 x.1 = r at HCM HGE
            have hj1 : (0 : Int) < (j : Int) + 1 := by omega
            have hj2 : (j : Int) < (l.length : Int) := by omega
            have hj3 : (0 : Int) ≤ (j : Int) := by omega
            have hwr : IntKind.i64.wrap (j : Int) = (j : Int) := IntWalk.i64_in _ (by omega)
            cases hlt1 : ltN y.1 x.1 with
            | true =>
              have HRK1 := Lib.hid (rising_snoc HY.out HX.out HRK.out hlt1)
              have hge : decide (0 ≤ r) = false := by rw [HGE.out, hlt1]; rfl
              clear hlt1
              go_wp2_with fail
              refine (Hid.out (HWD _)).mono ?_
              rintro e w' ⟨rfl, rfl⟩
              go_wp2
              go_quiet ((go_at_call 57; exact Calls.quiet_of_same ((Hid.out (HCM _)).mono fun _ _ h => ⟨h.1, h.2.symm⟩)))
              go_wp2
              go_roundw
              case rel => exact ⟨j + 1 + 1, by omega, by go_num, HLK1, HRK1, Lib.hid (HB.out.trans (below_drewN (below_alloc hBr _) _)), by simp; omega⟩
              case measure => simp [intOf] <;> omega
            | false =>
              have HCF := Lib.hid (show (labsB l && rising l) = false by rw [rising_false HY.out HX.out hlt1, Bool.and_false])
              have hge : 0 ≤ r := by have := HGE.out; rw [hlt1] at this; simpa using this
              clear hlt1
              go_wp2_with fail
              refine (Hid.out (HWD _)).mono ?_
              rintro e w' ⟨rfl, rfl⟩
              go_wp2
              go_quiet ((go_at_call 57; exact Calls.quiet_of_same ((Hid.out (HCM _)).mono fun _ _ h => ⟨h.1, h.2.symm⟩)))
              go_wp2
              go_ret
              exact ⟨.inr ⟨HCF.out, _, rfl, FaultIs.here (by simp) (n := 0) rfl⟩, HB.out.trans ((below_drewN (below_alloc hBr _) _).alloc (by simp; omega) _)⟩
    · have hk' : k = l.length := by omega
      have hge : decide ((k : Int) < (l.length : Int)) = false := by simp; omega
      have HCT := Lib.hid (show (labsB l && rising l) = true by
        have h1 := HLK.out
        have h2 := HRK.out
        rw [hk', List.take_length] at h1 h2
        rw [h1, h2]; rfl)
      clear hk'
      go_wp2
      go_ret
      exact ⟨.inl ⟨HCT.out, rfl⟩, HB.out⟩
end Go.Proofs.Ytnbghappfclnjaa
