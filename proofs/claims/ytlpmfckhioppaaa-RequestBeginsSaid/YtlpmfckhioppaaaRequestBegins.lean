/- RequestBegins: for every host, path and number, a beginning of their request is none, and what stands behind one is not read; the chapter's row holds; no condition. -/
import Derived.Test.YtlpmfckhioppaaaReqBeginsW
import Derived.Test.YtlpmfckhioppaaaOpenBytes
import Derived.Test.YtlpmfckhioppaaaLaidMax
namespace Go.Proofs.Ytlpmfckhioppaaa.requestBegins
open Go.ChangeShapes Go.WideShapes Go.ChangeAt Go.RowKit

theorem law (a b : ByteArray) (n : Int) (w : World) (ha : a.size ≤ maxLen) (hb : b.size ≤ maxLen) (hm : MX w) (h0 : 0 < w.heap.size) :
    Calls Try.prog 7 #[.string a, .string b, .int .i64 n] w (Fin w) := by
  unfold maxLen at ha hb
  by_cases h : 1500 < a.size ∨ 1500 < b.size ∨ mayHost a.data.toList = false ∨ mayPath b.data.toList = false
  · exact early a b n w (by omega) (by omega) h
  · have h1 : mayHost a.data.toList = true := by
      cases hq : mayHost a.data.toList with
      | true => rfl
      | false => exact absurd (.inr (.inr (.inl hq))) h
    have h2 : mayPath b.data.toList = true := by
      cases hq : mayPath b.data.toList with
      | true => rfl
      | false => exact absurd (.inr (.inr (.inr hq))) h
    exact main a b n w (by omega) (by omega) h1 h2 hm h0

set_option maxRecDepth 100000 in
theorem lifted (os : Os) (started : os.Started) (H : Type) (enc : TypeId × Value → H) :
    ReturnsInHanded {} Try.checked os 7 .any (Rows.requestBeginsSpec.pre6 enc Try.prog Try.f7 Rows.requestBeginsRow.domain false) (Rows.requestBeginsSpec.post enc Try.prog Try.f7 false true false false) := by
  refine returnsInHanded_of_change_shaped (C := Try.checked) own started (by kernel_rfl) Try.func7
    (ChangeSpec.witness6 (enc := enc) (C := Try.checked) false ⟨#[], #[.string ⟨#[]⟩, .string ⟨#[]⟩, .int .i64 0], []⟩ 8 (by kernel_rfl) (by kernel_rfl) (by kernel_rfl) (by kernel_rfl)) ?_
  intro W base args ds gs before hval0 hW hcnd hsz0 hsh _
  have hval : ∀ (j : Nat) t v, Try.f7.params[j]? = some t → args[j]? = some v → Value.okWide Try.prog W .any base t v := hval0
  have hW' := hW
  obtain ⟨p, q, hA0, hV, rfl, hfz, hnd⟩ := hW
  have hA : DataW.TrodAll enc Try.prog W 0 (fun _ => true) true Try.f7.params.toList args.toList ds p := hA0
  rw [Try.params7] at hA hval
  obtain ⟨v0, vs0, d0, ds0, p0, q0, hargs, rfl, rfl, h0, r0⟩ := trodAll_cons hA
  obtain ⟨v1, vs1, d1, ds1, p1, q1, rfl, rfl, rfl, h1, r1⟩ := trodAll_cons r0
  obtain ⟨v2, vs2, d2, ds2, p2, q2, rfl, rfl, rfl, h2, r2⟩ := trodAll_cons r1
  obtain ⟨rfl, rfl, rfl⟩ := trodAll_nil r2
  obtain rfl : args = #[v0, v1, v2] := by cases args; simp_all
  obtain ⟨rfl, rfl⟩ := trodVars_none hV
  obtain ⟨a0, rfl, rfl, rfl, m0⟩ := Go.ChangeMaps.open_string Try.underlying9 (hval 0 9 v0 rfl rfl) h0
  obtain ⟨a1, rfl, rfl, rfl, m1⟩ := Go.ChangeMaps.open_string Try.underlying9 (hval 1 9 v1 rfl rfl) h1
  obtain ⟨a2, rfl, rfl, rfl, m2⟩ := open_int Try.underlying3 (hval 2 3 v2 rfl rfl) h2
  obtain ⟨mx, hpos⟩ := mx_of hsh
  clear hA0 hval0 hsz0
  refine (law a0 a1 a2 W m0 m1 mx hpos).mono fun e W' ⟨he, bel⟩ => ?_
  subst he
  exact ⟨_, rfl, _, _, _, [], _, [], hW', trodAll_mk1 (shut_bool Try.underlying4 _), (trodAll_cons_mk (Go.ChangeMaps.shut_string Try.underlying9 m0) (trodAll_cons_mk (Go.ChangeMaps.shut_string Try.underlying9 m1) (trodAll_cons_mk (shut_int Try.underlying3 m2) trodAll_mk0))), rfl, bel.frame _, fun h => by cases h⟩

theorem holds : Rows.RequestBeginsSaid :=
  OpenClaim.holds_of_wide 7 Try.f7 rfl rfl rfl rfl rfl rfl rfl ⟨rfl, rfl, rfl, rfl, rfl⟩ rfl rfl rfl rfl rfl (by kernel_rfl) Try.func7 (by kernel_rfl)
    (of_decide_eq_true (by kernel_rfl)) (by unfold Func.isWrapper; first | (rw [if_pos (by decide +kernel)]; kernel_rfl) | (rw [if_neg (by decide +kernel)]; exact ⟨rfl, rfl⟩))
    (fun os started H enc _ => lifted os started H enc)
#print axioms holds
end Go.Proofs.Ytlpmfckhioppaaa.requestBegins
