/- LabelWords: for every two texts, the program's words, metrics' names and order of names are the document's, and the chapter's row holds; no condition. -/
import Derived.Test.YtlbnlgmgfghpoaaLabKnown
import Derived.Test.YtlbnlgmgfghpoaaRefWord
import Derived.Test.YtlbnlgmgfghpoaaRows
import Derived.ProofKit
import Derived.OpenShut
import Derived.ShutString
import Derived.ChangeOld
import Derived.Below
namespace Go.Proofs.Ytlbnlgmgfghpoaa.labelWords
open Go.ChangeShapes Go.WideShapes Go.ChangeAt Go.RowKit

theorem own : ownKnob Try.prog.godebug = none := by kernel_rfl
theorem laidOut : laidOutB Try.prog = true := by kernel_rfl

def Fin (w : World) (e : Ending) (w' : World) : Prop := e = .returned (.bool true) ∧ Below w.heap.size w w'
set_option maxRecDepth 100000 in
set_option maxHeartbeats 1000000 in
theorem early (a b : ByteArray) (w : World) (ha : a.size ≤ 9223372036854775807) (hb : b.size ≤ 9223372036854775807) (h : 300 < (a.size : Int) ∨ 300 < (b.size : Int)) :
    Calls Try.prog 5 #[.string a, .string b] w (Fin w) := by
  have HK := Lib.hid (known_yes w w (Below.refl _ _))
  by_cases h1 : 300 < (a.size : Int)
  · go_enter Try.func5, Try.ntmps5
    go_wp2_with fail
    refine (Hid.out HK).mono ?_
    rintro e w1 ⟨rfl, hb1⟩
    go_wp2
    go_ret
    exact ⟨rfl, hb1⟩
  · have h1' : decide (300 < (a.size : Int)) = false := by simpa using h1
    have h2 : 300 < (b.size : Int) := by omega
    clear h
    go_enter Try.func5, Try.ntmps5
    go_wp2_with fail
    refine (Hid.out HK).mono ?_
    rintro e w1 ⟨rfl, hb1⟩
    go_wp2
    go_ret
    exact ⟨rfl, hb1⟩
set_option maxRecDepth 100000 in
set_option maxHeartbeats 4000000 in
theorem main (a b : ByteArray) (w : World) (ha : a.size ≤ 300) (hb : b.size ≤ 300) :
    Calls Try.prog 5 #[.string a, .string b] w (Fin w) := by
  have HK := Lib.hid (known_yes w w (Below.refl _ _))
  have h1 : decide (300 < (a.size : Int)) = false := by simp; omega
  have h2 : decide (300 < (b.size : Int)) = false := by simp; omega
  have H1 := Lib.hid (isWord_any a w (by omega))
  have H2 := Lib.hid (rword_any a w (by omega))
  have H3 := Lib.hid (isMetric_any a w (by omega))
  have H4 := Lib.hid (rmetric_any a w (by omega))
  have H5 := Lib.hid (compare_any a b w)
  have H6 := Lib.hid (compare_any b a w)
  have e1 : Op.bytesLess a.toList b.toList = ltN a.data.toList b.data.toList := by rw [Lib.toList_data, Lib.toList_data]; rfl
  have e2 : Op.bytesLess b.toList a.toList = ltN b.data.toList a.data.toList := by rw [Lib.toList_data, Lib.toList_data]; rfl
  rw [compare_eq] at H5 H6
  generalize wrdB a.data.toList = x at H1 H2
  generalize metB a.data.toList = y at H3 H4
  cases hl1 : ltN a.data.toList b.data.toList with
  | true =>
    have hl2 := ltN_asymm hl1
    rw [hl1] at e1
    rw [hl2] at e2
    rw [hl1, if_pos rfl] at H5
    rw [hl2, if_neg (by simp), hl1, if_pos rfl] at H6
    clear hl1 hl2
    cases x <;> cases y
    all_goals
      go_enter Try.func5, Try.ntmps5
      go_wp2_with fail
      refine (Hid.out H1).mono ?_
      rintro e w1 ⟨rfl, rfl⟩
      go_wp2_with fail
      refine (Hid.out H2).mono ?_
      rintro e w1 ⟨rfl, rfl⟩
      go_wp2_with fail
      refine (Hid.out H3).mono ?_
      rintro e w1 ⟨rfl, rfl⟩
      go_wp2_with fail
      refine (Hid.out H4).mono ?_
      rintro e w1 ⟨rfl, rfl⟩
      go_wp2_with fail
      refine (Hid.out H5).mono ?_
      rintro e w1 ⟨rfl, rfl⟩
      go_wp2_with fail
      refine (Hid.out H6).mono ?_
      rintro e w1 ⟨rfl, rfl⟩
      go_wp2_with fail
      refine (Hid.out HK).mono ?_
      rintro e w1 ⟨rfl, hb1⟩
      go_wp2
      go_ret
      exact ⟨rfl, hb1⟩
  | false =>
    rw [hl1] at e1
    rw [hl1, if_neg (by simp)] at H5
    cases hl2 : ltN b.data.toList a.data.toList with
    | true =>
      rw [hl2] at e2
      rw [hl2, if_pos rfl] at H5
      rw [hl2, if_pos rfl] at H6
      clear hl1 hl2
      cases x <;> cases y
      all_goals
        go_enter Try.func5, Try.ntmps5
        go_wp2_with fail
        refine (Hid.out H1).mono ?_
        rintro e w1 ⟨rfl, rfl⟩
        go_wp2_with fail
        refine (Hid.out H2).mono ?_
        rintro e w1 ⟨rfl, rfl⟩
        go_wp2_with fail
        refine (Hid.out H3).mono ?_
        rintro e w1 ⟨rfl, rfl⟩
        go_wp2_with fail
        refine (Hid.out H4).mono ?_
        rintro e w1 ⟨rfl, rfl⟩
        go_wp2_with fail
        refine (Hid.out H5).mono ?_
        rintro e w1 ⟨rfl, rfl⟩
        go_wp2_with fail
        refine (Hid.out H6).mono ?_
        rintro e w1 ⟨rfl, rfl⟩
        go_wp2_with fail
        refine (Hid.out HK).mono ?_
        rintro e w1 ⟨rfl, hb1⟩
        go_wp2
        go_ret
        exact ⟨rfl, hb1⟩
    | false =>
      rw [hl2] at e2
      rw [hl2, if_neg (by simp)] at H5
      rw [hl2, if_neg (by simp), hl1, if_neg (by simp)] at H6
      clear hl1 hl2
      cases x <;> cases y
      all_goals
        go_enter Try.func5, Try.ntmps5
        go_wp2_with fail
        refine (Hid.out H1).mono ?_
        rintro e w1 ⟨rfl, rfl⟩
        go_wp2_with fail
        refine (Hid.out H2).mono ?_
        rintro e w1 ⟨rfl, rfl⟩
        go_wp2_with fail
        refine (Hid.out H3).mono ?_
        rintro e w1 ⟨rfl, rfl⟩
        go_wp2_with fail
        refine (Hid.out H4).mono ?_
        rintro e w1 ⟨rfl, rfl⟩
        go_wp2_with fail
        refine (Hid.out H5).mono ?_
        rintro e w1 ⟨rfl, rfl⟩
        go_wp2_with fail
        refine (Hid.out H6).mono ?_
        rintro e w1 ⟨rfl, rfl⟩
        go_wp2_with fail
        refine (Hid.out HK).mono ?_
        rintro e w1 ⟨rfl, hb1⟩
        go_wp2
        go_ret
        exact ⟨rfl, hb1⟩
theorem law (a b : ByteArray) (w : World) (ha : a.size ≤ maxLen) (hb : b.size ≤ maxLen) :
    Calls Try.prog 5 #[.string a, .string b] w (Fin w) := by
  unfold maxLen at ha hb
  by_cases h : 300 < (a.size : Int) ∨ 300 < (b.size : Int)
  · exact early a b w (by omega) (by omega) h
  · exact main a b w (by omega) (by omega)

set_option maxRecDepth 100000 in
theorem lifted (os : Os) (started : os.Started) (H : Type) (enc : TypeId × Value → H) :
    ReturnsInHanded {} Try.checked os 5 .any (Rows.labelWordsSpec.pre6 enc Try.prog Try.f5 Rows.labelWordsRow.domain false) (Rows.labelWordsSpec.post enc Try.prog Try.f5 false true false false) := by
  refine returnsInHanded_of_change (C := Try.checked) own started (by kernel_rfl) Try.func5
    (ChangeSpec.witness6 (enc := enc) (C := Try.checked) false ⟨#[], #[.string ⟨#[]⟩, .string ⟨#[]⟩], []⟩ 8 (by kernel_rfl) (by kernel_rfl) (by kernel_rfl) (by kernel_rfl)) ?_
  intro W base args ds gs before hval0 hW hcnd _
  have hval : ∀ (j : Nat) t v, Try.f5.params[j]? = some t → args[j]? = some v → Value.okWide Try.prog W .any base t v := hval0
  have hW' := hW
  obtain ⟨p, q, hA0, hV, rfl, hfz, hnd⟩ := hW
  have hA : DataW.TrodAll enc Try.prog W 0 (fun _ => true) true Try.f5.params.toList args.toList ds p := hA0
  rw [Try.params5] at hA hval
  obtain ⟨v0, vs0, d0, ds0, p0, q0, hargs, rfl, rfl, h0, r0⟩ := trodAll_cons hA
  obtain ⟨v1, vs1, d1, ds1, p1, q1, rfl, rfl, rfl, h1, r1⟩ := trodAll_cons r0
  obtain ⟨rfl, rfl, rfl⟩ := trodAll_nil r1
  obtain rfl : args = #[v0, v1] := by cases args; simp_all
  obtain ⟨rfl, rfl⟩ := trodVars_none hV
  obtain ⟨a, rfl, rfl, rfl, wa⟩ := Go.ChangeMaps.open_string Try.underlying9 (hval 0 9 v0 rfl rfl) h0
  obtain ⟨b, rfl, rfl, rfl, wb⟩ := Go.ChangeMaps.open_string Try.underlying9 (hval 1 9 v1 rfl rfl) h1
  clear hA0 hval0
  refine (law a b W wa wb).mono fun e W' ⟨he, bel⟩ => ?_
  subst he
  exact ⟨_, rfl, _, _, _, [], _, [], hW', trodAll_mk1 (shut_bool Try.underlying4 _), (trodAll_cons_mk (Go.ChangeMaps.shut_string Try.underlying9 wa) (trodAll_cons_mk (Go.ChangeMaps.shut_string Try.underlying9 wb) trodAll_mk0)), rfl, bel.frame _, fun h => by cases h⟩

theorem holds : Rows.LabelWordsSaid :=
  OpenClaim.holds_of_wide 5 Try.f5 rfl rfl rfl rfl rfl rfl rfl ⟨rfl, rfl, rfl, rfl, rfl⟩ rfl rfl rfl rfl rfl (by kernel_rfl) Try.func5 (by kernel_rfl)
    (of_decide_eq_true (by kernel_rfl)) (by unfold Func.isWrapper; first | (rw [if_pos (by decide +kernel)]; kernel_rfl) | (rw [if_neg (by decide +kernel)]; exact ⟨rfl, rfl⟩))
    (fun os started H enc _ => lifted os started H enc)
#print axioms holds
end Go.Proofs.Ytlbnlgmgfghpoaa.labelWords
