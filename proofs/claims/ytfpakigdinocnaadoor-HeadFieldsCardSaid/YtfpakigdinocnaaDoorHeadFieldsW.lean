/- HeadFields: the walk. -/
import Derived.Test.YtfpakigdinocnaaDoorHeadFieldsP
import Derived.Test.YtfpakigdinocnaaDoorHeadRRead
import Derived.Test.YtfpakigdinocnaaDoorHeadKnown
import Derived.BigQuiet
import Derived.Deep.QuietTactic
namespace Go.Proofs.YtfpakigdinocnaaDoor
open Go.RowKit

set_option maxRecDepth 100000 in
set_option maxHeartbeats 1000000 in
theorem rsameF_any {w : World} {A1 A2 : Option Addr} {c1 c2 : Nat} {fs : List Fld} (h1 : fK.Reads w w.heap.size A1 fs) (h2 : fK.Reads w w.heap.size A2 fs) (hc1 : fs.length ≤ c1) (hc2 : fs.length ≤ c2) (hl : fs.length ≤ 64) :
    Calls Tryd.prog 13 #[.slice A1 fs.length c1, .slice A2 fs.length c2] w fun e w' => e = .returned (.bool true) ∧ Below w.heap.size w w' := by
  have HR1 := Lib.hid h1
  have HR2 := Lib.hid h2
  obtain ⟨n, hn⟩ : ∃ n, n = fs.length := ⟨_, rfl⟩
  rw [← hn] at hc1 hc2 hl ⊢
  have HN := Lib.hid hn
  clear hn h1 h2
  go_enter Tryd.func13, Tryd.ntmps13
  go_wp2
  go_loopw [5] (fun i wr => ∃ k : Nat, k ≤ n ∧ i = .int .i64 k ∧ Hid (Below w.heap.size w wr)) (fun i _ => n - (intOf i).toNat)
  case atStart => exact ⟨0, Nat.zero_le _, rfl, Lib.hid (Below.refl _ _)⟩
  case round =>
    obtain ⟨k, hk, rfl, HB⟩ := hrel
    by_cases hlt : k < n
    · obtain ⟨x, hx⟩ : ∃ x, fs[k]? = some x := ⟨_, List.getElem?_eq_getElem (by rw [← HN.out]; exact hlt)⟩
      obtain ⟨g1, o1, hA1, -, p0, p1⟩ := fK_at (HR1.out.below HB.out) hx
      obtain ⟨g2, o2, hA2, -, q0, q1⟩ := fK_at (HR2.out.below HB.out) hx
      subst hA1 hA2
      have hlt' : (k : Int) < (n : Int) := by omega
      have e1 : (x.1 == x.1) = true := by simp
      have e2 : (x.2 == x.2) = true := by simp
      have HBD := Lib.hid (HB.out.drew)
      clear hx
      go_wp2_with fail
      go_region
      all_goals
        go_wp2
        go_round
        case rel => exact ⟨k + 1, by omega, by go_num, HBD⟩
        case measure => simp [intOf] <;> omega
    · have hge : decide ((k : Int) < (n : Int)) = false := by simp; omega
      go_wp2
      go_ret
      exact ⟨rfl, HB.out⟩
def FinF (w : World) (e : Ending) (w' : World) : Prop := e = .returned (.bool true) ∧ Below w.heap.size w w'
set_option maxRecDepth 100000 in
set_option maxHeartbeats 1000000 in
theorem fields_early (A : Option Addr) (n c : Nat) (w : World) (hm : MX w) (h : (n : Int) > 20000) (h1 : n ≤ 9223372036854775807) :
    Calls Tryd.prog 4 #[.slice A n c] w (FinF w) := by
  have HK := Lib.hid (known_yes w hm)
  clear hm
  go_enter Tryd.func4, Tryd.ntmps4
  go_wp2_with fail
  refine (Hid.out HK).mono ?_
  rintro e w3 ⟨rfl, hb3⟩
  go_wp2
  go_ret
  exact ⟨rfl, hb3⟩
set_option maxRecDepth 100000 in
set_option maxHeartbeats 2000000 in
theorem fields_main (A : Option Addr) (l : List UInt8) (c : Nat) (w : World) (hm : MX w) (h1 : l.length ≤ 20000) (hr : BReads w w.heap.size A l) (hc : l.length ≤ c) (hn : A = none → c = 0) :
    Calls Tryd.prog 4 #[.slice A l.length c] w (FinF w) := by
  have HF := Lib.hid (fields_any hr hc hn (by omega) hm)
  have HR : Hid (∀ W, Below w.heap.size w W → Calls Tryd.prog 12 #[.slice A l.length c] W fun e w' => RrP W.heap.size (cutL (l.take 8192)) (readL l) e w' ∧ Below W.heap.size W w') := Lib.hid (fun W hb => rread_any ((hr.below hb).more hb.size) hc hn (by omega))
  have HK : Hid (∀ W, Below w.heap.size w W → Calls Tryd.prog 8 #[] W fun e w' => e = .returned (.bool true) ∧ Below W.heap.size W w') := Lib.hid (fun W hb => known_yes W (mx_up hm hb))
  have HSMF : Hid (∀ old st fs n, readL l = .whole old st fs n → (smallFs fs ∧ fs.length ≤ 64) ∧ 0 < n) := Lib.hid (fun old st fs n h => readL_small h)
  have HSN : Hid (∀ W, Calls Tryd.prog 13 #[.slice none 0 0, .slice none 0 0] W fun e w' => e = .returned (.bool true) ∧ Below W.heap.size W w') := Lib.hid (fun W => rsameF_any (fs := []) (.inl rfl) (.inl rfl) (Nat.le_refl _) (Nat.le_refl _) (by simp))
  have h20 : ((l.length : Nat) : Int) ≤ 20000 := by omega
  obtain ⟨n, hnn⟩ : ∃ n, n = l.length := ⟨_, rfl⟩
  rw [← hnn] at HF HR h20 ⊢
  have h20' : decide ((20000 : Int) < (n : Int)) = false := by simp; omega
  clear hr hc hn hm h1 hnn
  cases hrd : readL l with
  | err e0 =>
    have he := readL_err hrd
    rw [hrd] at HF HR
    clear hrd HSMF
    go_enter Tryd.func4, Tryd.ntmps4
    go_wp2_with fail
    refine (Hid.out HF).mono ?_
    rintro e w1 ⟨rfl, hb1⟩
    have HB1 := Lib.hid hb1
    clear hb1 HF
    go_wp2_with fail
    refine (HR.out _ HB1.out).mono ?_
    rintro e w2 ⟨rfl, hb2⟩
    have HB2 := Lib.hid (HB1.out.trans (hb2.mono HB1.out.size))
    clear hb2 HR
    rcases he with rfl | rfl | rfl
    all_goals
      go_wp2_with fail
      refine (HSN.out _).mono ?_
      rintro e w3 ⟨rfl, hb3⟩
      have HB3 := Lib.hid (HB2.out.trans (hb3.mono HB2.out.size))
      clear hb3
      go_wp2_with (go_at_call 8; refine (HK.out _ HB3.out).mono ?_; rintro e w4 ⟨rfl, hb4⟩)
      go_ret
      exact ⟨rfl, HB3.out.trans (hb4.mono HB3.out.size)⟩
  | part =>
    rw [hrd] at HF HR
    clear hrd HSMF
    go_enter Tryd.func4, Tryd.ntmps4
    go_wp2_with fail
    refine (Hid.out HF).mono ?_
    rintro e w1 ⟨rfl, hb1⟩
    have HB1 := Lib.hid hb1
    clear hb1 HF
    go_wp2_with fail
    refine (HR.out _ HB1.out).mono ?_
    rintro e w2 ⟨rfl, hb2⟩
    have HB2 := Lib.hid (HB1.out.trans (hb2.mono HB1.out.size))
    clear hb2 HR
    go_wp2_with fail
    refine (HSN.out _).mono ?_
    rintro e w3 ⟨rfl, hb3⟩
    have HB3 := Lib.hid (HB2.out.trans (hb3.mono HB2.out.size))
    clear hb3
    go_wp2_with (go_at_call 8; refine (HK.out _ HB3.out).mono ?_; rintro e w4 ⟨rfl, hb4⟩)
    go_ret
    exact ⟨rfl, HB3.out.trans (hb4.mono HB3.out.size)⟩
  | whole old st fs m =>
    obtain ⟨⟨-, h64⟩, hm0⟩ := HSMF.out _ _ _ _ hrd
    rw [hrd] at HF HR
    have hm1 : ((m : Int) == 0) = false := by simp; omega
    have hm2 : (m == 0) = false := by simp; omega
    clear hrd HSMF HSN
    go_enter Tryd.func4, Tryd.ntmps4
    go_wp2_with fail
    refine (Hid.out HF).mono ?_
    rintro e w1 ⟨⟨v1, rfl, ho1⟩, hb1⟩
    have HB1 := Lib.hid hb1
    have HO1 := Lib.hid ho1
    clear hb1 ho1 HF
    go_wp2_with fail
    refine (HR.out _ HB1.out).mono ?_
    rintro e w2 ⟨⟨v2, rfl, ho2⟩, hb2⟩
    have HB2 := Lib.hid (HB1.out.trans (hb2.mono HB1.out.size))
    obtain ⟨A1, c1, rfl, hr1, hc1, -⟩ := (HO1.out.below hb2).reads
    obtain ⟨A2, c2, rfl, hr2, hc2, -⟩ := ho2.reads
    have HSF := Lib.hid (rsameF_any hr1 hr2 hc1 hc2 h64)
    clear hb2 HR ho2 hr1 hr2 HO1
    go_wp2_with fail
    refine (Hid.out HSF).mono ?_
    rintro e w3 ⟨rfl, hb3⟩
    have HB3 := Lib.hid (HB2.out.trans (hb3.mono HB2.out.size))
    clear hb3
    go_wp2_with (go_at_call 8; refine (HK.out _ HB3.out).mono ?_; rintro e w4 ⟨rfl, hb4⟩)
    go_ret
    exact ⟨rfl, HB3.out.trans (hb4.mono HB3.out.size)⟩
end Go.Proofs.YtfpakigdinocnaaDoor
