/- WheelCopies: a copy goes on apart; which wheels are the same: true; no condition. -/
import Derived.Test.YtaepgcicgmbbeaaWhCopiesW
import Derived.Test.YtaepgcicgmbbeaaWhActs
import Derived.HandedShaped
namespace Go.Proofs.Ytaepgcicgmbbeaa.wheelCopies
open Go.ChangeShapes Go.WideShapes Go.ChangeAt Go.RowKit Go.Deep

theorem own : ownKnob Try.prog.godebug = none := by kernel_rfl
theorem laidOut : laidOutB Try.prog = true := by kernel_rfl
theorem law (A0 A1 A2 : Option Addr) (c0 c1 c2 : Nat) (l m o : List Ac) (w : World) (hr : aK.Reads w w.heap.size A0 l) (hr1 : aK.Reads w w.heap.size A1 m) (hr2 : aK.Reads w w.heap.size A2 o) (ha : Acts l) (ha1 : Acts m) (ha2 : Acts o) :
    Calls Try.prog 4 #[.slice A0 l.length c0, .slice A1 m.length c1, .slice A2 o.length c2] w (Fin w) := by
  by_cases h : 40 < l.length ∨ 20 < m.length ∨ 20 < o.length
  · exact copies_early A0 A1 A2 c0 c1 c2 _ _ _ w h
  · exact copies_main A0 A1 A2 c0 c1 c2 l m o w (by omega) (by omega) (by omega) hr hr1 hr2 ha ha1 ha2
set_option maxRecDepth 100000 in
theorem lifted (os : Os) (started : os.Started) (H : Type) (enc : TypeId × Value → H) :
    ReturnsInHanded {} Try.checked os 4 .any (Rows.wheelCopiesSpec.pre6 enc Try.prog Try.f4 Rows.wheelCopiesRow.domain false) (Rows.wheelCopiesSpec.post enc Try.prog Try.f4 false true false false) := by
  refine returnsInHanded_of_change (C := Try.checked) own started (by kernel_rfl) Try.func4
    (ChangeSpec.witness6 (enc := enc) (C := Try.checked) false ⟨#[], #[.slice none 0 0, .slice none 0 0, .slice none 0 0], []⟩ 8 (by kernel_rfl) (by kernel_rfl) (by kernel_rfl) (by kernel_rfl)) ?_
  intro W base args ds gs before hval0 hW hcnd _
  have hval : ∀ (j : Nat) t v, Try.f4.params[j]? = some t → args[j]? = some v → Value.okWide Try.prog W .any base t v := hval0
  have hW' := hW
  obtain ⟨p, q, hA0, hV, rfl, hfz, hnd⟩ := hW
  have hA : DataW.TrodAll enc Try.prog W 0 (fun _ => true) true Try.f4.params.toList args.toList ds p := hA0
  rw [Try.params4] at hA hval
  obtain ⟨v0, vs0, d0, ds0, p0, q0, hargs, rfl, rfl, h0, r0⟩ := trodAll_cons hA
  obtain ⟨v1, vs1, d1, ds1, p1, q1, rfl, rfl, rfl, h1, r1⟩ := trodAll_cons r0
  obtain ⟨v2, vs2, d2, ds2, p2, q2, rfl, rfl, rfl, h2, r2⟩ := trodAll_cons r1
  obtain ⟨rfl, rfl, rfl⟩ := trodAll_nil r2
  obtain rfl : args = #[v0, v1, v2] := by cases args; simp_all
  obtain ⟨rfl, rfl⟩ := trodVars_none hV
  obtain ⟨a0, len0, cap0, rfl⟩ := okWide_slice Try.underlying22 (hval 0 22 v0 rfl rfl)
  obtain ⟨a1, len1, cap1, rfl⟩ := okWide_slice Try.underlying22 (hval 1 22 v1 rfl rfl)
  obtain ⟨a2, len2, cap2, rfl⟩ := okWide_slice Try.underlying22 (hval 2 22 v2 rfl rfl)
  have k0 := h0
  have k1 := h1
  have k2 := h2
  have lt0 : ∀ x ∈ p0, x.block < W.heap.size := by obtain ⟨m, hm⟩ := k0; exact DataW.trod_lt m _ _ _ hm
  have lt1 : ∀ x ∈ p1, x.block < W.heap.size := by obtain ⟨m, hm⟩ := k1; exact DataW.trod_lt m _ _ _ hm
  have lt2 : ∀ x ∈ p2, x.block < W.heap.size := by obtain ⟨m, hm⟩ := k2; exact DataW.trod_lt m _ _ _ hm
  obtain ⟨l0, rfl, _, hr0, ha0⟩ := open_acts h0
  obtain ⟨l1, rfl, _, hr1, ha1⟩ := open_acts h1
  obtain ⟨l2, rfl, _, hr2, ha2⟩ := open_acts h2
  clear hA0 hval0
  refine (law a0 a1 a2 cap0 cap1 cap2 l0 l1 l2 W hr0 hr1 hr2 ha0 ha1 ha2).mono fun e W' ⟨he, ht⟩ => ?_
  have bel : Below W.heap.size W W' := ht.below (by simp) (Nat.le_refl _)
  subst he
  have kk {v d p} (k : DataW.Trod enc Try.prog W 0 (fun _ => true) true 22 v d p) (lt : ∀ x ∈ p, x.block < W.heap.size) := Below.trod laidOut (by kernel_rfl) (of_decide_eq_true (by kernel_rfl)) k bel lt
  exact ⟨_, rfl, _, _, _, [], _, [], hW', trodAll_mk1 (shut_bool Try.underlying4 _), (trodAll_cons_mk (kk k0 lt0) (trodAll_cons_mk (kk k1 lt1) (trodAll_cons_mk (kk k2 lt2) trodAll_mk0))), rfl, bel.frame _, fun h => by cases h⟩

theorem holds : Rows.WheelCopiesSaid :=
  OpenClaim.holds_of_wide 4 Try.f4 rfl rfl rfl rfl rfl rfl rfl ⟨rfl, rfl, rfl, rfl, rfl⟩ rfl rfl rfl rfl rfl (by kernel_rfl) Try.func4 (by kernel_rfl)
    (of_decide_eq_true (by kernel_rfl)) (by unfold Func.isWrapper; first | (rw [if_pos (by decide +kernel)]; kernel_rfl) | (rw [if_neg (by decide +kernel)]; exact ⟨rfl, rfl⟩))
    (fun os started H enc _ => lifted os started H enc)
#print axioms holds
end Go.Proofs.Ytaepgcicgmbbeaa.wheelCopies
