/- DeltaPlays: scrape by scrape the gains, and the counts: true; no condition. -/
import Derived.Test.YtcjmieofmogeiaaDlPlaysW
import Derived.Test.YtcjmieofmogeiaaDlOpen
namespace Go.Proofs.Ytcjmieofmogeiaa.deltaPlays
open Go.ChangeShapes Go.WideShapes Go.ChangeAt Go.RowKit Go.Deep

theorem own : ownKnob Try.prog.godebug = none := by kernel_rfl
theorem laidOut : laidOutB Try.prog = true := by kernel_rfl
theorem law (C : MeC) (most : Int) (A0 : Option Addr) (cap : Nat) (l : List Pt) (w : World) (hl : l.length ≤ maxLen) (hr : PReads w w.heap.size A0 l) (hm : -9223372036854775808 ≤ most ∧ most ≤ 9223372036854775807) :
    Calls Try.prog 3 #[.int .i64 most, .slice A0 l.length cap] w (FinD w) := by
  unfold maxLen at hl
  cases hf : fewP l 30 with
  | false => exact deltaPlays_early C most A0 cap l w (by omega) hr hf
  | true => exact deltaPlays_main C most A0 cap l w (by omega) hr hf hm
set_option maxRecDepth 100000 in
theorem lifted (C : MeC) (os : Os) (started : os.Started) (H : Type) (enc : TypeId × Value → H) :
    ReturnsInHanded {} Try.checked os 3 .any (Rows.deltaPlaysSpec.pre6 enc Try.prog Try.f3 Rows.deltaPlaysRow.domain false) (Rows.deltaPlaysSpec.post enc Try.prog Try.f3 false true false false) := by
  refine returnsInHanded_of_change_shaped (C := Try.checked) own started (by kernel_rfl) Try.func3
    (ChangeSpec.witness6 (enc := enc) (C := Try.checked) false ⟨#[], #[.int .i64 0, .slice none 0 0], []⟩ 8 (by kernel_rfl) (by kernel_rfl) (by kernel_rfl) (by kernel_rfl)) ?_
  intro W base args ds gs before hval0 hW hcnd hsz0 hsh _
  have hval : ∀ (j : Nat) t v, Try.f3.params[j]? = some t → args[j]? = some v → Value.okWide Try.prog W .any base t v := hval0
  have hsz : (DataW.weightsEach Try.prog (Try.f3.params.toList ++ Rows.deltaPlaysSpec.plain.varTypes Try.prog) (ds ++ gs)).all (· ≤ reachBytes) = true := hsz0
  have hW' := hW
  obtain ⟨p, q, hA0, hV, rfl, hfz, hnd⟩ := hW
  have hA : DataW.TrodAll enc Try.prog W 0 (fun _ => true) true Try.f3.params.toList args.toList ds p := hA0
  rw [Try.params3] at hA hval hsz
  obtain ⟨v0, vs0, d0, ds0, p0, q0, hargs, rfl, rfl, h0, r0⟩ := trodAll_cons hA
  obtain ⟨v1, vs1, d1, ds1, p1, q1, rfl, rfl, rfl, h1, r1⟩ := trodAll_cons r0
  obtain ⟨rfl, rfl, rfl⟩ := trodAll_nil r1
  obtain rfl : args = #[v0, v1] := by cases args; simp_all
  obtain ⟨rfl, rfl⟩ := trodVars_none hV
  obtain ⟨n0, rfl, rfl, rfl, wn0⟩ := open_int Try.underlying3 (hval 0 3 v0 rfl rfl) h0
  obtain ⟨a1, len1, cap1, rfl⟩ := okWide_slice Try.underlying22 (hval 1 22 v1 rfl rfl)
  have k1 := h1
  have lt1 : ∀ x ∈ p1, x.block < W.heap.size := by obtain ⟨m, hm⟩ := k1; exact DataW.trod_lt m _ _ _ hm
  obtain ⟨l1, rfl, hm1, hr1, hx1⟩ := open_putsD h1
  have hh1 : PReads W W.heap.size a1 l1 := hr1.full fun a ha => by
    obtain ⟨e1, e2⟩ := hx1 a ha
    have hw : ∀ k ∈ d1.weights Try.prog 22, k ≤ 140737488355328 := fun k hk => by
      have f1 := List.all_eq_true.1 hsz _ (DataW.weights_mem_each (j := 1) (t := 22) rfl rfl _ hk)
      unfold reachBytes at f1
      simp only [decide_eq_true_eq] at f1
      omega
    refine ⟨?_, fun x hx => ⟨hw _ (e2 x hx).2.2, (e2 x hx).1, (e2 x hx).2.1⟩⟩
    rcases e1 with e1 | ⟨q, e3, e4⟩
    · omega
    · exact Nat.le_trans e4 (hw _ e3)
  clear hA0 hval0 hsz0
  refine (law C n0 a1 cap1 l1 W hm1 hh1 (in64_of wn0)).mono fun e W' ⟨he, ht⟩ => ?_
  have bel : Below W.heap.size W W' := ht.below (by simp) (Nat.le_refl _)
  subst he
  exact ⟨_, rfl, _, _, _, [], _, [], hW', trodAll_mk1 (shut_bool Try.underlying4 _), (trodAll_cons_mk (shut_int Try.underlying3 wn0) (trodAll_cons_mk (Below.trod laidOut (by kernel_rfl) (of_decide_eq_true (by kernel_rfl)) k1 bel lt1) trodAll_mk0)), rfl, bel.frame _, fun h => by cases h⟩

theorem holds_of (C : MeC) : Rows.DeltaPlaysSaid :=
  OpenClaim.holds_of_wide 3 Try.f3 rfl rfl rfl rfl rfl rfl rfl ⟨rfl, rfl, rfl, rfl, rfl⟩ rfl rfl rfl rfl rfl (by kernel_rfl) Try.func3 (by kernel_rfl)
    (of_decide_eq_true (by kernel_rfl)) (by unfold Func.isWrapper; first | (rw [if_pos (by decide +kernel)]; kernel_rfl) | (rw [if_neg (by decide +kernel)]; exact ⟨rfl, rfl⟩))
    (fun os started H enc _ => lifted C os started H enc)
#print axioms holds_of
end Go.Proofs.Ytcjmieofmogeiaa.deltaPlays
