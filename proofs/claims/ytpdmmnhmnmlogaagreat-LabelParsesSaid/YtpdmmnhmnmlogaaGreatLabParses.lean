/- LabelParses: for every text, labels and words, the program's Parse, May, With, Only and Get answer as the document's; no condition. -/
import Derived.Test.YtpdmmnhmnmlogaaGreatLabParsesW
import Derived.Test.YtpdmmnhmnmlogaaGreatOpenLabs
import Derived.HandedShaped
import Derived.Deep.Strs
namespace Go.Proofs.YtpdmmnhmnmlogaaGreat.labelParses
open Go.ChangeShapes Go.WideShapes Go.ChangeAt Go.RowKit Go.Deep

theorem own : ownKnob Tryz.prog.godebug = none := by kernel_rfl
theorem laidOut : laidOutB Tryz.prog = true := by kernel_rfl
theorem ml_of {W : World} (h : W.ShapedOpen Tryz.prog) : ∃ m, ML m W := by
  obtain ⟨m, hm⟩ := Tryz.laysM145.s1_3 W h
  exact ⟨m, hm⟩
theorem open_words {H : Type} {enc : TypeId × Value → H} {W : World} {a : Option Addr} {len cap : Nat} {d : DataW H} {p : List MemPlace}
    (h : DataW.Trod enc Tryz.prog W 0 (fun _ => true) true 23 (.slice a len cap) d p) :
    ∃ l : List (List UInt8), l.length = len ∧ len ≤ cap ∧ cap ≤ maxLen ∧ SReads W W.heap.size a l := by
  obtain ⟨fuel, hf⟩ := h
  rcases open_strs Tryz.underlying23 Tryz.underlying9 cells_str hf with ⟨hcs, _⟩ | ⟨x, ln, c, m, Sx, hcs, _, hl, hm, hmm, _, hi⟩
  · simp [Value.cells] at hcs
    obtain ⟨rfl, rfl, rfl⟩ := hcs
    exact ⟨[], rfl, Nat.le_refl _, Nat.zero_le _, .inl rfl⟩
  · simp [Value.cells] at hcs
    obtain ⟨rfl, rfl, rfl⟩ := hcs
    have hmc : m = cap := by simpa using hmm
    subst hmc
    refine ⟨(List.range len).map fun i => (Sx i).data.toList, by simp, hl, hm, ?_⟩
    rcases Nat.eq_zero_or_pos len with h0 | h0
    · subst h0
      exact .inl rfl
    · obtain ⟨b, off, spot⟩ := x
      have h1 := (hi 0 (by omega)).1
      obtain rfl : spot = none := by simpa [Addr.add] using World.cell?_spot h1
      have hb : b < W.heap.size := by
        have := World.block_lt_of_cell? _ _ h1
        simpa [Addr.add] using this
      refine .inr ⟨b, off, rfl, hb, fun j s hj => ?_⟩
      have hjl : j < len := by
        have := (List.getElem?_eq_some_iff.1 hj).1
        simpa using this
      have hat := (hi j (by omega)).1
      rw [add_plain'] at hat
      simp [hjl] at hj
      rw [hat, ← hj]
      unfold strV
      rw [Lib.mk_data]
theorem law (m : ByteArray) (A1 A2 : Option Addr) (c1 c2 : Nat) (l : List Lbl) (bs : List (List UInt8)) (mx : Int) (w : World) (hm : m.size ≤ maxLen) (hl : l.length ≤ maxLen) (hb : bs.length ≤ maxLen) (hh : hugeL l) (hr : LReads w w.heap.size A1 l) (hrb : SReads w w.heap.size A2 bs) (hml : ML mx w) :
    Calls Tryz.prog 3 #[.string m, .slice A1 l.length c1, .slice A2 bs.length c2] w (Fin w) := by
  unfold maxLen at hm hl hb
  by_cases h : 3000 < m.size ∨ muchP l = true ∨ 20 < bs.length
  · exact early m A1 A2 c1 c2 l bs w (by omega) (by omega) (by omega) hh hr h
  · have h1 : muchP l = false := by
      cases hq : muchP l with
      | true => exact absurd (.inr (.inl hq)) h
      | false => rfl
    exact main m A1 A2 c1 c2 l bs mx w (by omega) h1 (by omega) hh hr hrb hml

set_option maxRecDepth 100000 in
theorem lifted (os : Os) (started : os.Started) (H : Type) (enc : TypeId × Value → H) :
    ReturnsInHanded {} Tryz.checked os 3 .any (Rows.labelParsesSpec.pre6 enc Tryz.prog Tryz.f3 Rows.labelParsesRow.domain false) (Rows.labelParsesSpec.post enc Tryz.prog Tryz.f3 false true false false) := by
  refine returnsInHanded_of_change_shaped (C := Tryz.checked) own started (by kernel_rfl) Tryz.func3
    (ChangeSpec.witness6 (enc := enc) (C := Tryz.checked) false ⟨#[], #[.string ⟨#[]⟩, .slice none 0 0, .slice none 0 0], []⟩ 8 (by kernel_rfl) (by kernel_rfl) (by kernel_rfl) (by kernel_rfl)) ?_
  intro W base args ds gs before hval0 hW hcnd hsz0 hsh _
  have hval : ∀ (j : Nat) t v, Tryz.f3.params[j]? = some t → args[j]? = some v → Value.okWide Tryz.prog W .any base t v := hval0
  have hsz : (DataW.weightsEach Tryz.prog (Tryz.f3.params.toList ++ Rows.labelParsesSpec.plain.varTypes Tryz.prog) (ds ++ gs)).all (· ≤ reachBytes) = true := hsz0
  have hW' := hW
  obtain ⟨p, q, hA0, hV, rfl, hfz, hnd⟩ := hW
  have hA : DataW.TrodAll enc Tryz.prog W 0 (fun _ => true) true Tryz.f3.params.toList args.toList ds p := hA0
  rw [Tryz.params3] at hA hval hsz
  obtain ⟨v0, vs0, d0, ds0, p0, q0, hargs, rfl, rfl, h0, r0⟩ := trodAll_cons hA
  obtain ⟨v1, vs1, d1, ds1, p1, q1, rfl, rfl, rfl, h1, r1⟩ := trodAll_cons r0
  obtain ⟨v2, vs2, d2, ds2, p2, q2, rfl, rfl, rfl, h2, r2⟩ := trodAll_cons r1
  obtain ⟨rfl, rfl, rfl⟩ := trodAll_nil r2
  obtain rfl : args = #[v0, v1, v2] := by cases args; simp_all
  obtain ⟨rfl, rfl⟩ := trodVars_none hV
  obtain ⟨a, rfl, rfl, rfl, wa⟩ := Go.ChangeMaps.open_string Tryz.underlying9 (hval 0 9 v0 rfl rfl) h0
  obtain ⟨a1, len1, cap1, rfl⟩ := okWide_slice Tryz.underlying22 (hval 1 22 v1 rfl rfl)
  obtain ⟨a2, len2, cap2, rfl⟩ := okWide_slice Tryz.underlying23 (hval 2 23 v2 rfl rfl)
  have k1 := h1
  have k2 := h2
  have lt1 : ∀ x ∈ p1, x.block < W.heap.size := by obtain ⟨m, hm⟩ := k1; exact DataW.trod_lt m _ _ _ hm
  have lt2 : ∀ x ∈ p2, x.block < W.heap.size := by obtain ⟨m, hm⟩ := k2; exact DataW.trod_lt m _ _ _ hm
  obtain ⟨l, rfl, hcap, hcm, hr, hwt⟩ := open_labs h1
  obtain ⟨bs, rfl, hcap2, hcm2, hrb⟩ := open_words h2
  have hh : hugeL l := fun x hx => by
    have hb := reachBytes_lt
    have e1 := List.all_eq_true.1 hsz _ (DataW.weights_mem_each (j := 1) (t := 22) rfl rfl _ (hwt x hx).1)
    have e2 := List.all_eq_true.1 hsz _ (DataW.weights_mem_each (j := 1) (t := 22) rfl rfl _ (hwt x hx).2)
    simp only [decide_eq_true_eq] at e1 e2
    omega
  obtain ⟨mx, hml⟩ := ml_of hsh
  clear hA0 hval0 hsz0
  refine (law a a1 a2 cap1 cap2 l bs mx W wa (Nat.le_trans hcap hcm) (Nat.le_trans hcap2 hcm2) hh hr hrb hml).mono fun e W' ⟨he, bel⟩ => ?_
  subst he
  exact ⟨_, rfl, _, _, _, [], _, [], hW', trodAll_mk1 (shut_bool Tryz.underlying4 _), (trodAll_cons_mk (Go.ChangeMaps.shut_string Tryz.underlying9 wa) (trodAll_cons_mk (Below.trod laidOut (by kernel_rfl) (of_decide_eq_true (by kernel_rfl)) k1 bel lt1) (trodAll_cons_mk (Below.trod laidOut (by kernel_rfl) (of_decide_eq_true (by kernel_rfl)) k2 bel lt2) trodAll_mk0))), rfl, bel.frame _, fun h => by cases h⟩

theorem holds : Rows.LabelParsesSaid :=
  OpenClaim.holds_of_wide 3 Tryz.f3 rfl rfl rfl rfl rfl rfl rfl ⟨rfl, rfl, rfl, rfl, rfl⟩ rfl rfl rfl rfl rfl (by kernel_rfl) Tryz.func3 (by kernel_rfl)
    (of_decide_eq_true (by kernel_rfl)) (by unfold Func.isWrapper; first | (rw [if_pos (by decide +kernel)]; kernel_rfl) | (rw [if_neg (by decide +kernel)]; exact ⟨rfl, rfl⟩))
    (fun os started H enc _ => lifted os started H enc)
#print axioms holds
end Go.Proofs.YtpdmmnhmnmlogaaGreat.labelParses
