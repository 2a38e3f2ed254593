/- DeltaCopies: a copy goes on apart; which meters are the same: true; no condition. -/
import Derived.Test.YtcjmieofmogeiaaDlCopiesW
import Derived.Test.YtcjmieofmogeiaaDlCopiesE
import Derived.Test.YtcjmieofmogeiaaDlOpen
namespace Go.Proofs.Ytcjmieofmogeiaa.deltaCopies
open Go.ChangeShapes Go.WideShapes Go.ChangeAt Go.RowKit Go.Deep

theorem own : ownKnob Try.prog.godebug = none := by kernel_rfl
theorem laidOut : laidOutB Try.prog = true := by kernel_rfl
theorem law (C : MeC) (most : Int) (A0 A1 A2 : Option Addr) (cap cap1 cap2 : Nat) (l a b : List Pt) (w : World) (hl : l.length ≤ maxLen) (ha : a.length ≤ maxLen) (hb : b.length ≤ maxLen) (hr : PReads w w.heap.size A0 l) (hra : PReads w w.heap.size A1 a) (hrb : PReads w w.heap.size A2 b) (hm : -9223372036854775808 ≤ most ∧ most ≤ 9223372036854775807) :
    Calls Try.prog 6 #[.int .i64 most, .slice A0 l.length cap, .slice A1 a.length cap1, .slice A2 b.length cap2] w (FinD w) := by
  unfold maxLen at hl ha hb
  cases hf : fewP l 10 with
  | false => exact deltaCopies_early1 C most A0 A1 A2 cap cap1 cap2 l a b w (by omega) (by omega) (by omega) hr hra hrb hf
  | true =>
    cases hf1 : fewP a 10 with
    | false => exact deltaCopies_early2 C most A0 A1 A2 cap cap1 cap2 l a b w (by omega) (by omega) (by omega) hr hra hrb ⟨hf, hf1⟩
    | true =>
      cases hf2 : fewP b 10 with
      | false => exact deltaCopies_early3 C most A0 A1 A2 cap cap1 cap2 l a b w (by omega) (by omega) (by omega) hr hra hrb ⟨hf, hf1, hf2⟩
      | true => exact deltaCopies_main C most A0 A1 A2 cap cap1 cap2 l a b w (by omega) (by omega) (by omega) hr hra hrb hf hf1 hf2 hm
set_option maxRecDepth 100000 in
theorem lifted (C : MeC) (os : Os) (started : os.Started) (H : Type) (enc : TypeId × Value → H) :
    ReturnsInHanded {} Try.checked os 6 .any (Rows.deltaCopiesSpec.pre6 enc Try.prog Try.f6 Rows.deltaCopiesRow.domain false) (Rows.deltaCopiesSpec.post enc Try.prog Try.f6 false true false false) := by
  refine returnsInHanded_of_change_shaped (C := Try.checked) own started (by kernel_rfl) Try.func6
    (ChangeSpec.witness6 (enc := enc) (C := Try.checked) false ⟨#[], #[.int .i64 0, .slice none 0 0, .slice none 0 0, .slice none 0 0], []⟩ 8 (by kernel_rfl) (by kernel_rfl) (by kernel_rfl) (by kernel_rfl)) ?_
  intro W base args ds gs before hval0 hW hcnd hsz0 hsh _
  have hval : ∀ (j : Nat) t v, Try.f6.params[j]? = some t → args[j]? = some v → Value.okWide Try.prog W .any base t v := hval0
  have hsz : (DataW.weightsEach Try.prog (Try.f6.params.toList ++ Rows.deltaCopiesSpec.plain.varTypes Try.prog) (ds ++ gs)).all (· ≤ reachBytes) = true := hsz0
  have hW' := hW
  obtain ⟨p, q, hA0, hV, rfl, hfz, hnd⟩ := hW
  have hA : DataW.TrodAll enc Try.prog W 0 (fun _ => true) true Try.f6.params.toList args.toList ds p := hA0
  rw [Try.params6] at hA hval hsz
  obtain ⟨v0, vs0, d0, ds0, p0, q0, hargs, rfl, rfl, h0, r0⟩ := trodAll_cons hA
  obtain ⟨v1, vs1, d1, ds1, p1, q1, rfl, rfl, rfl, h1, r1⟩ := trodAll_cons r0
  obtain ⟨v2, vs2, d2, ds2, p2, q2, rfl, rfl, rfl, h2, r2⟩ := trodAll_cons r1
  obtain ⟨v3, vs3, d3, ds3, p3, q3, rfl, rfl, rfl, h3, r3⟩ := trodAll_cons r2
  obtain ⟨rfl, rfl, rfl⟩ := trodAll_nil r3
  obtain rfl : args = #[v0, v1, v2, v3] := by cases args; simp_all
  obtain ⟨rfl, rfl⟩ := trodVars_none hV
  obtain ⟨n0, rfl, rfl, rfl, wn0⟩ := open_int Try.underlying3 (hval 0 3 v0 rfl rfl) h0
  obtain ⟨a1, len1, cap1, rfl⟩ := okWide_slice Try.underlying22 (hval 1 22 v1 rfl rfl)
  have k1 := h1
  have lt1 : ∀ x ∈ p1, x.block < W.heap.size := by obtain ⟨m, hm⟩ := k1; exact DataW.trod_lt m _ _ _ hm
  obtain ⟨l1, rfl, hm1, hr1, hx1⟩ := open_putsD h1
  have hh1 : PReads W W.heap.size a1 l1 := hr1.full fun a ha => by
    obtain ⟨e1, e2⟩ := hx1 a ha
    have hw : ∀ k ∈ d1.weights Try.prog 22, k ≤ 140737488355328 := fun k hk => by
      have f1 := List.all_eq_true.1 hsz _ (DataW.weights_mem_each (j := 1) (t := 22) rfl rfl _ hk)
      unfold reachBytes at f1
      simp only [decide_eq_true_eq] at f1
      omega
    refine ⟨?_, fun x hx => ⟨hw _ (e2 x hx).2.2, (e2 x hx).1, (e2 x hx).2.1⟩⟩
    rcases e1 with e1 | ⟨q, e3, e4⟩
    · omega
    · exact Nat.le_trans e4 (hw _ e3)
  obtain ⟨a2, len2, cap2, rfl⟩ := okWide_slice Try.underlying22 (hval 2 22 v2 rfl rfl)
  have k2 := h2
  have lt2 : ∀ x ∈ p2, x.block < W.heap.size := by obtain ⟨m, hm⟩ := k2; exact DataW.trod_lt m _ _ _ hm
  obtain ⟨l2, rfl, hm2, hr2, hx2⟩ := open_putsD h2
  have hh2 : PReads W W.heap.size a2 l2 := hr2.full fun a ha => by
    obtain ⟨e1, e2⟩ := hx2 a ha
    have hw : ∀ k ∈ d2.weights Try.prog 22, k ≤ 140737488355328 := fun k hk => by
      have f1 := List.all_eq_true.1 hsz _ (DataW.weights_mem_each (j := 2) (t := 22) rfl rfl _ hk)
      unfold reachBytes at f1
      simp only [decide_eq_true_eq] at f1
      omega
    refine ⟨?_, fun x hx => ⟨hw _ (e2 x hx).2.2, (e2 x hx).1, (e2 x hx).2.1⟩⟩
    rcases e1 with e1 | ⟨q, e3, e4⟩
    · omega
    · exact Nat.le_trans e4 (hw _ e3)
  obtain ⟨a3, len3, cap3, rfl⟩ := okWide_slice Try.underlying22 (hval 3 22 v3 rfl rfl)
  have k3 := h3
  have lt3 : ∀ x ∈ p3, x.block < W.heap.size := by obtain ⟨m, hm⟩ := k3; exact DataW.trod_lt m _ _ _ hm
  obtain ⟨l3, rfl, hm3, hr3, hx3⟩ := open_putsD h3
  have hh3 : PReads W W.heap.size a3 l3 := hr3.full fun a ha => by
    obtain ⟨e1, e2⟩ := hx3 a ha
    have hw : ∀ k ∈ d3.weights Try.prog 22, k ≤ 140737488355328 := fun k hk => by
      have f1 := List.all_eq_true.1 hsz _ (DataW.weights_mem_each (j := 3) (t := 22) rfl rfl _ hk)
      unfold reachBytes at f1
      simp only [decide_eq_true_eq] at f1
      omega
    refine ⟨?_, fun x hx => ⟨hw _ (e2 x hx).2.2, (e2 x hx).1, (e2 x hx).2.1⟩⟩
    rcases e1 with e1 | ⟨q, e3, e4⟩
    · omega
    · exact Nat.le_trans e4 (hw _ e3)
  clear hA0 hval0 hsz0
  refine (law C n0 a1 a2 a3 cap1 cap2 cap3 l1 l2 l3 W hm1 hm2 hm3 hh1 hh2 hh3 (in64_of wn0)).mono fun e W' ⟨he, ht⟩ => ?_
  have bel : Below W.heap.size W W' := ht.below (by simp) (Nat.le_refl _)
  subst he
  exact ⟨_, rfl, _, _, _, [], _, [], hW', trodAll_mk1 (shut_bool Try.underlying4 _), (trodAll_cons_mk (shut_int Try.underlying3 wn0) (trodAll_cons_mk (Below.trod laidOut (by kernel_rfl) (of_decide_eq_true (by kernel_rfl)) k1 bel lt1) (trodAll_cons_mk (Below.trod laidOut (by kernel_rfl) (of_decide_eq_true (by kernel_rfl)) k2 bel lt2) (trodAll_cons_mk (Below.trod laidOut (by kernel_rfl) (of_decide_eq_true (by kernel_rfl)) k3 bel lt3) trodAll_mk0)))), rfl, bel.frame _, fun h => by cases h⟩

theorem holds_of (C : MeC) : Rows.DeltaCopiesSaid :=
  OpenClaim.holds_of_wide 6 Try.f6 rfl rfl rfl rfl rfl rfl rfl ⟨rfl, rfl, rfl, rfl, rfl⟩ rfl rfl rfl rfl rfl (by kernel_rfl) Try.func6 (by kernel_rfl)
    (of_decide_eq_true (by kernel_rfl)) (by unfold Func.isWrapper; first | (rw [if_pos (by decide +kernel)]; kernel_rfl) | (rw [if_neg (by decide +kernel)]; exact ⟨rfl, rfl⟩))
    (fun os started H enc _ => lifted C os started H enc)
#print axioms holds_of
end Go.Proofs.Ytcjmieofmogeiaa.deltaCopies
