/- ConfigCopies: for every two configs, the program's Same is the document's, and a copy shares nothing; no condition. -/
import Derived.Test.YtnbghappfclnjaaCfCopiesW
import Derived.Test.YtnbghappfclnjaaCfSame13
import Derived.Test.YtnbghappfclnjaaCfKnown13
import Derived.Test.YtnbghappfclnjaaCfOpenC
import Derived.Test.YtnbghappfclnjaaRows
import Derived.HandedShaped
namespace Go.Proofs.Ytnbghappfclnjaa.configCopies
open Go.ChangeShapes Go.WideShapes Go.ChangeAt Go.RowKit

theorem own : ownKnob Try.prog.godebug = none := by kernel_rfl
theorem laidOut : laidOutB Try.prog = true := by kernel_rfl
set_option maxRecDepth 100000 in
theorem lifted (os : Os) (started : os.Started) (H : Type) (enc : TypeId × Value → H) :
    ReturnsInHanded {} Try.checked os 5 .any (Rows.configCopiesSpec.pre6 enc Try.prog Try.f5 Rows.configCopiesRow.domain false) (Rows.configCopiesSpec.post enc Try.prog Try.f5 false true false false) := by
  refine returnsInHanded_of_change_shaped (C := Try.checked) own started (by kernel_rfl) Try.func5
    (ChangeSpec.witness6 (enc := enc) (C := Try.checked) false ⟨#[], #[.agg #[.slice none 0 0, .int .i64 0, .int .i64 0, .slice none 0 0, .int .i64 0, .int .i64 0, .int .i64 0, .int .i64 0, .int .i64 0, .int .i64 0, .int .i64 0], .agg #[.slice none 0 0, .int .i64 0, .int .i64 0, .slice none 0 0, .int .i64 0, .int .i64 0, .int .i64 0, .int .i64 0, .int .i64 0, .int .i64 0, .int .i64 0]], []⟩ 8 (by kernel_rfl) (by kernel_rfl) (by kernel_rfl) (by kernel_rfl)) ?_
  intro W base args ds gs before hval0 hW hcnd hsz0 hsh _
  have hval : ∀ (j : Nat) t v, Try.f5.params[j]? = some t → args[j]? = some v → Value.okWide Try.prog W .any base t v := hval0
  have hsz : (DataW.weightsEach Try.prog (Try.f5.params.toList ++ Rows.configCopiesSpec.plain.varTypes Try.prog) (ds ++ gs)).all (· ≤ reachBytes) = true := hsz0
  have hW' := hW
  obtain ⟨p, q, hA0, hV, rfl, hfz, hnd⟩ := hW
  have hA : DataW.TrodAll enc Try.prog W 0 (fun _ => true) true Try.f5.params.toList args.toList ds p := hA0
  rw [Try.params5] at hA hval hsz
  obtain ⟨v0, vs0, d0, ds0, p0, q0, hargs, rfl, rfl, h0, r0⟩ := trodAll_cons hA
  obtain ⟨v1, vs1, d1, ds1, p1, q1, rfl, rfl, rfl, h1, r1⟩ := trodAll_cons r0
  obtain ⟨rfl, rfl, rfl⟩ := trodAll_nil r1
  obtain rfl : args = #[v0, v1] := by cases args; simp_all
  obtain ⟨rfl, rfl⟩ := trodVars_none hV
  have k0 := h0
  have lt0 : ∀ x ∈ p0, x.block < W.heap.size := by obtain ⟨m, hm⟩ := k0; exact DataW.trod_lt m _ _ _ hm
  have k1 := h1
  have lt1 : ∀ x ∈ p1, x.block < W.heap.size := by obtain ⟨m, hm⟩ := k1; exact DataW.trod_lt m _ _ _ hm
  obtain ⟨c, rfl, hr, wt, ws⟩ := open_cf (hval 0 38 v0 rfl rfl) h0
  obtain ⟨e, rfl, hr2, wt2, ws2⟩ := open_cf (hval 1 38 v1 rfl rfl) h1
  have hb := reachBytes_lt
  have small : ∀ n : Nat, n ∈ d0.weights Try.prog 38 → n ≤ 281474976710656 := fun n hn => by
    have e := List.all_eq_true.1 hsz _ (DataW.weights_mem_each (j := 0) (t := 38) rfl rfl _ hn)
    simp only [decide_eq_true_eq] at e
    omega
  have small2 : ∀ n : Nat, n ∈ d1.weights Try.prog 38 → n ≤ 281474976710656 := fun n hn => by
    have e := List.all_eq_true.1 hsz _ (DataW.weights_mem_each (j := 1) (t := 38) rfl rfl _ hn)
    simp only [decide_eq_true_eq] at e
    omega
  have hg : e.Fits := ⟨fun t ht => ⟨small2 _ (wt2 t ht).1, small2 _ (wt2 t ht).2.1, small2 _ (wt2 t ht).2.2⟩, fun s hs => small2 _ (ws2 s hs)⟩
  have hf : c.Fits := ⟨fun t ht => ⟨small _ (wt t ht).1, small _ (wt t ht).2.1, small _ (wt t ht).2.2⟩, fun s hs => small _ (ws s hs)⟩
  clear hA0 hval0 hsz0
  refine (copies_law same13_any known13_yes c e W hr hr2 hf hg).mono fun x W' ⟨he, bel⟩ => ?_
  subst he
  exact ⟨_, rfl, _, _, _, [], _, [], hW', trodAll_mk1 (shut_bool Try.underlying4 _), (trodAll_cons_mk (Below.trod laidOut (by kernel_rfl) (of_decide_eq_true (by kernel_rfl)) k0 bel lt0) (trodAll_cons_mk (Below.trod laidOut (by kernel_rfl) (of_decide_eq_true (by kernel_rfl)) k1 bel lt1) trodAll_mk0)), rfl, bel.frame _, fun h => by cases h⟩

theorem holds : Rows.ConfigCopiesSaid :=
  OpenClaim.holds_of_wide 5 Try.f5 rfl rfl rfl rfl rfl rfl rfl ⟨rfl, rfl, rfl, rfl, rfl⟩ rfl rfl rfl rfl rfl (by kernel_rfl) Try.func5 (by kernel_rfl)
    (of_decide_eq_true (by kernel_rfl)) (by unfold Func.isWrapper; first | (rw [if_pos (by decide +kernel)]; kernel_rfl) | (rw [if_neg (by decide +kernel)]; exact ⟨rfl, rfl⟩))
    (fun os started H enc _ => lifted os started H enc)
#print axioms holds
end Go.Proofs.Ytnbghappfclnjaa.configCopies
