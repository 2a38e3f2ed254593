/- LabelEscapes: for every text, the program's escapes are the document's, they are read as they were, and which texts are values that stand so is the document's; and the chapter's row holds; no condition. -/
import Derived.Test.YtlbnlgmgfghpoaaLabKnown
import Derived.Test.YtlbnlgmgfghpoaaRefEsc
import Derived.Test.YtlbnlgmgfghpoaaRows
import Derived.ProofKit
import Derived.OpenShut
import Derived.ShutString
import Derived.ChangeOld
import Derived.Below
namespace Go.Proofs.Ytlbnlgmgfghpoaa.labelEscapes
open Go.ChangeShapes Go.WideShapes Go.ChangeAt Go.RowKit

theorem own : ownKnob Try.prog.godebug = none := by kernel_rfl
theorem laidOut : laidOutB Try.prog = true := by kernel_rfl

def Fin (w : World) (e : Ending) (w' : World) : Prop := e = .returned (.bool true) ∧ Below w.heap.size w w'
set_option maxRecDepth 100000 in
set_option maxHeartbeats 1000000 in
theorem early (s : ByteArray) (w : World) (hs : s.size ≤ 9223372036854775807) (h : 1000 < (s.size : Int)) :
    Calls Try.prog 4 #[.string s] w (Fin w) := by
  have HK := Lib.hid (known_yes w w (Below.refl _ _))
  go_enter Try.func4, Try.ntmps4
  go_wp2_with fail
  refine (Hid.out HK).mono ?_
  rintro e w1 ⟨rfl, hb1⟩
  go_wp2
  go_ret
  exact ⟨rfl, hb1⟩
theorem later {P : Prop} {w w0 w1 : World} (h : Below w.heap.size w w0) (h1 : Below w0.heap.size w0 w1) : Below w.heap.size w w1 := h.trans (h1.mono h.size)
theorem txt (s : ByteArray) : (⟨s.data.toList.toArray⟩ : ByteArray) = s := Lib.mk_data s
set_option maxRecDepth 100000 in
set_option maxHeartbeats 4000000 in
theorem main (s : ByteArray) (w : World) (hs : s.size ≤ 1000) :
    Calls Try.prog 4 #[.string s] w (Fin w) := by
  have h1 : decide (1000 < (s.size : Int)) = false := by simp; omega
  obtain ⟨x, hx⟩ : ∃ x : ByteArray, x = ⟨(escL s.data.toList).toArray⟩ := ⟨_, rfl⟩
  have hxl : x.data.toList = escL s.data.toList := by rw [hx]
  have hxs : x.size ≤ 2000 := by
    rw [Lib.size_eq, hxl]
    have := escL_len s.data.toList
    rw [← Lib.size_eq] at this
    omega
  have H1 : ∀ W, Hid (Calls Try.prog 15 #[.string s] W fun e w' => e = .returned (.string x) ∧ Below W.heap.size W w') := fun W => Lib.hid (by rw [hx]; exact escape_any s W (by omega))
  have H2 : ∀ W, Hid (Calls Try.prog 16 #[.string x] W fun e w' => e = .returned (.tuple #[.string s, .bool true]) ∧ Below W.heap.size W w') := fun W => Lib.hid (by
    have h := unescape_any x W (by omega)
    rw [hxl, unescP_esc] at h
    refine h.mono fun e w' hh => ⟨?_, hh.2⟩
    rw [hh.1]
    show Ending.returned (.tuple #[.string ⟨s.data.toList.toArray⟩, .bool true]) = _
    rw [txt])
  have H4 : ∀ W, Hid (Calls Try.prog 18 #[.string s] W fun e w' => e = .returned (.string x) ∧ Below W.heap.size W w') := fun W => Lib.hid (by rw [hx]; exact rescape_any s W (by omega))
  have HK : ∀ W, Below w.heap.size w W → Hid (Calls Try.prog 8 #[] W fun e w' => e = .returned (.bool true) ∧ Below w.heap.size w w') := fun W hb => Lib.hid (known_yes w W hb)
  clear hx hxl hxs
  cases ho : unescP s.data.toList with
  | none =>
    have H3 : ∀ W, Hid (Calls Try.prog 16 #[.string s] W fun e w' => e = .returned (.tuple #[.string ⟨#[]⟩, .bool false]) ∧ Below W.heap.size W w') := fun W => Lib.hid (by
      have h := unescape_any s W (by omega)
      rw [ho] at h
      exact h)
    have H5 : ∀ W, Hid (Calls Try.prog 17 #[.string s] W fun e w' => e = .returned (.tuple #[.string ⟨#[]⟩, .bool false]) ∧ Below W.heap.size W w') := fun W => Lib.hid (by
      have h := runescape_any s W (by omega)
      rw [ho] at h
      exact h)
    clear ho
    go_enter Try.func4, Try.ntmps4
    go_wp2_with fail
    refine (Hid.out (H1 _)).mono ?_
    rintro e w1 ⟨rfl, hb1⟩
    have HB1 := Lib.hid hb1
    clear hb1
    go_wp2_with fail
    refine (Hid.out (H2 _)).mono ?_
    rintro e w2 ⟨rfl, hb2⟩
    have HB2 := Lib.hid (later (P := True) HB1.out hb2)
    clear hb2
    go_wp2_with fail
    refine (Hid.out (H3 _)).mono ?_
    rintro e w3 ⟨rfl, hb3⟩
    have HB3 := Lib.hid (later (P := True) HB2.out hb3)
    clear hb3
    go_wp2_with fail
    refine (Hid.out (H5 _)).mono ?_
    rintro e w4 ⟨rfl, hb4⟩
    have HB4 := Lib.hid (later (P := True) HB3.out hb4)
    clear hb4
    go_wp2_with fail
    refine (Hid.out (H4 _)).mono ?_
    rintro e w5 ⟨rfl, hb5⟩
    have HB5 := Lib.hid (later (P := True) HB4.out hb5)
    have HKK := HK _ HB5.out
    clear hb5
    go_wp2_with fail
    refine (Hid.out HKK).mono ?_
    rintro e w6 ⟨rfl, hb6⟩
    go_wp2
    go_ret
    exact ⟨rfl, hb6⟩
  | some v =>
    obtain ⟨z, hz⟩ : ∃ z : ByteArray, z = ⟨v.toArray⟩ := ⟨_, rfl⟩
    have hzl : z.data.toList = v := by rw [hz]
    have hsv := unescP_sound ho
    have hzs : z.size ≤ 1000 := by
      have h1 : v.length ≤ (escL v).length := by
        clear hz hzl hsv ho
        induction v with
        | nil => exact Nat.le_refl _
        | cons c v ih =>
          rw [escL_cons, List.length_append, List.length_cons]
          have : 1 ≤ (esc1 c).length := by unfold esc1; split; decide; split <;> simp
          omega
      rw [← hsv, ← Lib.size_eq] at h1
      rw [Lib.size_eq, hzl]
      omega
    have H3 : ∀ W, Hid (Calls Try.prog 16 #[.string s] W fun e w' => e = .returned (.tuple #[.string z, .bool true]) ∧ Below W.heap.size W w') := fun W => Lib.hid (by
      have h := unescape_any s W (by omega)
      rw [ho] at h
      rw [hz]
      exact h)
    have H5 : ∀ W, Hid (Calls Try.prog 17 #[.string s] W fun e w' => e = .returned (.tuple #[.string z, .bool true]) ∧ Below W.heap.size W w') := fun W => Lib.hid (by
      have h := runescape_any s W (by omega)
      rw [ho] at h
      rw [hz]
      exact h)
    have H6 : ∀ W, Hid (Calls Try.prog 18 #[.string z] W fun e w' => e = .returned (.string s) ∧ Below W.heap.size W w') := fun W => Lib.hid (by
      have h := rescape_any z W (by omega)
      rw [hzl, ← hsv, txt] at h
      exact h)
    clear ho hz hzl hsv hzs
    go_enter Try.func4, Try.ntmps4
    go_wp2_with fail
    refine (Hid.out (H1 _)).mono ?_
    rintro e w1 ⟨rfl, hb1⟩
    have HB1 := Lib.hid hb1
    clear hb1
    go_wp2_with fail
    refine (Hid.out (H2 _)).mono ?_
    rintro e w2 ⟨rfl, hb2⟩
    have HB2 := Lib.hid (later (P := True) HB1.out hb2)
    clear hb2
    go_wp2_with fail
    refine (Hid.out (H3 _)).mono ?_
    rintro e w3 ⟨rfl, hb3⟩
    have HB3 := Lib.hid (later (P := True) HB2.out hb3)
    clear hb3
    go_wp2_with fail
    refine (Hid.out (H5 _)).mono ?_
    rintro e w4 ⟨rfl, hb4⟩
    have HB4 := Lib.hid (later (P := True) HB3.out hb4)
    clear hb4
    go_wp2_with fail
    refine (Hid.out (H4 _)).mono ?_
    rintro e w5 ⟨rfl, hb5⟩
    have HB5 := Lib.hid (later (P := True) HB4.out hb5)
    clear hb5
    go_wp2_with fail
    refine (Hid.out (H6 _)).mono ?_
    rintro e w6 ⟨rfl, hb6⟩
    have HB6 := Lib.hid (later (P := True) HB5.out hb6)
    have HKK := HK _ HB6.out
    clear hb6
    go_wp2_with fail
    refine (Hid.out HKK).mono ?_
    rintro e w7 ⟨rfl, hb7⟩
    go_wp2
    go_ret
    exact ⟨rfl, hb7⟩
theorem law (s : ByteArray) (w : World) (hs : s.size ≤ maxLen) :
    Calls Try.prog 4 #[.string s] w (Fin w) := by
  unfold maxLen at hs
  by_cases h : 1000 < (s.size : Int)
  · exact early s w (by omega) h
  · exact main s w (by omega)

set_option maxRecDepth 100000 in
theorem lifted (os : Os) (started : os.Started) (H : Type) (enc : TypeId × Value → H) :
    ReturnsInHanded {} Try.checked os 4 .any (Rows.labelEscapesSpec.pre6 enc Try.prog Try.f4 Rows.labelEscapesRow.domain false) (Rows.labelEscapesSpec.post enc Try.prog Try.f4 false true false false) := by
  refine returnsInHanded_of_change (C := Try.checked) own started (by kernel_rfl) Try.func4
    (ChangeSpec.witness6 (enc := enc) (C := Try.checked) false ⟨#[], #[.string ⟨#[]⟩], []⟩ 8 (by kernel_rfl) (by kernel_rfl) (by kernel_rfl) (by kernel_rfl)) ?_
  intro W base args ds gs before hval0 hW hcnd _
  have hval : ∀ (j : Nat) t v, Try.f4.params[j]? = some t → args[j]? = some v → Value.okWide Try.prog W .any base t v := hval0
  have hW' := hW
  obtain ⟨p, q, hA0, hV, rfl, hfz, hnd⟩ := hW
  have hA : DataW.TrodAll enc Try.prog W 0 (fun _ => true) true Try.f4.params.toList args.toList ds p := hA0
  rw [Try.params4] at hA hval
  obtain ⟨v0, vs0, d0, ds0, p0, q0, hargs, rfl, rfl, h0, r0⟩ := trodAll_cons hA
  obtain ⟨rfl, rfl, rfl⟩ := trodAll_nil r0
  obtain rfl : args = #[v0] := by cases args; simp_all
  obtain ⟨rfl, rfl⟩ := trodVars_none hV
  obtain ⟨a, rfl, rfl, rfl, wa⟩ := Go.ChangeMaps.open_string Try.underlying9 (hval 0 9 v0 rfl rfl) h0
  clear hA0 hval0
  refine (law a W wa).mono fun e W' ⟨he, bel⟩ => ?_
  subst he
  exact ⟨_, rfl, _, _, _, [], _, [], hW', trodAll_mk1 (shut_bool Try.underlying4 _), (trodAll_cons_mk (Go.ChangeMaps.shut_string Try.underlying9 wa) trodAll_mk0), rfl, bel.frame _, fun h => by cases h⟩

theorem holds : Rows.LabelEscapesSaid :=
  OpenClaim.holds_of_wide 4 Try.f4 rfl rfl rfl rfl rfl rfl rfl ⟨rfl, rfl, rfl, rfl, rfl⟩ rfl rfl rfl rfl rfl (by kernel_rfl) Try.func4 (by kernel_rfl)
    (of_decide_eq_true (by kernel_rfl)) (by unfold Func.isWrapper; first | (rw [if_pos (by decide +kernel)]; kernel_rfl) | (rw [if_neg (by decide +kernel)]; exact ⟨rfl, rfl⟩))
    (fun os started H enc _ => lifted os started H enc)
#print axioms holds
end Go.Proofs.Ytlbnlgmgfghpoaa.labelEscapes
