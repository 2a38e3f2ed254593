/- FixParses: for every text the program's Parse answers as the document's (texts of at most 400 bytes), and the chapter's rows hold; no condition beside the tables of Go's library that the card ties. -/
import Derived.Test.YtmbdggbppbkojaaDoorFixRow
import Derived.Test.YtmbdggbppbkojaaDoorRefParse
namespace Go.Proofs.YtmbdggbppbkojaaDoor.fixParses
open Go.ChangeShapes Go.WideShapes Go.ChangeAt Go.RowKit

theorem fold_lower {x y : UInt8} (hy : plainLetter y.toNat) : Lib.foldEq x y = (lowerB x == y) := by
  obtain ⟨h1, h2, _, _⟩ := hy
  have hxb := x.toNat_lt
  unfold Lib.foldEq lowerB
  rw [Bool.eq_iff_iff, decide_eq_true_eq, beq_iff_eq]
  by_cases h : 65 ≤ x.toNat ∧ x.toNat ≤ 90
  · rw [if_pos h, ← UInt8.toNat_inj]
    simp only [UInt8.toNat_add]
    have : (32 : UInt8).toNat = 32 := rfl
    rw [this]
    omega
  · rw [if_neg h, ← UInt8.toNat_inj]
    omega
theorem equalFold_lower : ∀ (l t : List UInt8), (∀ y ∈ t, plainLetter y.toNat) → Lib.equalFold l t = (l.map lowerB == t)
  | [], [], _ => rfl
  | [], _ :: _, _ => rfl
  | _ :: _, [], _ => rfl
  | x :: l, y :: t, h => by
    have h1 := fold_lower (x := x) (h y (List.mem_cons_self ..))
    have h2 := equalFold_lower l t (fun z hz => h z (List.mem_cons_of_mem _ hz))
    simp only [Lib.equalFold, List.map_cons, h1, h2]
    rfl
theorem word_eq (l : List UInt8) : isWordB l = isWordR l := by
  have hu : unsign l = (signOf l).2 := by
    cases l with
    | nil => rfl
    | cons c l =>
      simp only [unsign, signOf, sg]
      by_cases h45 : c.toNat = 45
      · simp [h45]
      · by_cases h43 : c.toNat = 43
        · simp [h43]
        · simp [h45, h43]
  have pl : ∀ (t : List UInt8), (t.all fun b => decide (97 ≤ b.toNat ∧ b.toNat ≤ 122 ∧ b.toNat ≠ 107 ∧ b.toNat ≠ 115)) = true → ∀ y ∈ t, plainLetter y.toNat := fun t ht y hy => by
    have := List.all_eq_true.1 ht y hy
    simpa [plainLetter] using this
  unfold isWordB wordB isWordR
  rw [hu, equalFold_lower _ _ (pl _ (by decide)), equalFold_lower _ _ (pl _ (by decide)), equalFold_lower _ _ (pl _ (by decide))]
  generalize (signOf l).2 = t
  by_cases h10 : t.length < 10
  · simp [h10]
  · have hl : ∀ u : List UInt8, u.length < 10 → (t.map lowerB == u) = false := fun u hu => by
      rw [beq_eq_false_iff_ne]
      intro e
      have := congrArg List.length e
      simp at this
      omega
    rw [hl _ (by decide), hl _ (by decide), hl _ (by decide)]
    simp

theorem tail_parts {neg : Bool} {A B t : List UInt8} {s : Shape} (h : tailS neg A B t = some s) : s.ahead = A ∧ s.behind = B := by
  cases t with
  | nil => simp only [tailS, Option.some.injEq] at h; subst h; exact ⟨rfl, rfl⟩
  | cons c l =>
    simp only [tailS] at h
    split at h
    · split at h
      · cases h
      · simp only [Option.some.injEq] at h; subst h; exact ⟨rfl, rfl⟩
    · cases h
theorem shape_parts {l : List UInt8} {s : Shape} (h : shape l = some s) : (∀ c ∈ s.ahead ++ s.behind, isD c = true) ∧ (s.ahead ++ s.behind).length ≤ 2 * l.length := by
  unfold shape at h
  rw [bodyS_eq] at h
  have hl := signOf_len l
  generalize (signOf l).2 = u at *
  split at h
  · cases h
  · obtain ⟨h1, h2⟩ := tail_parts h
    rw [h1, h2]
    have hB : (∀ c ∈ dotB (u.dropWhile isD), isD c = true) ∧ (dotB (u.dropWhile isD)).length ≤ u.length := by
      unfold dotB
      split
      · refine ⟨span_all _, ?_⟩
        have a1 := (List.takeWhile_sublist (l := (u.dropWhile isD).drop 1) isD).length_le
        have a2 := (List.drop_sublist 1 (u.dropWhile isD)).length_le
        have a3 := (List.dropWhile_sublist (l := u) isD).length_le
        omega
      · exact ⟨fun c hc => by (cases hc), Nat.zero_le _⟩
    refine ⟨fun c hc => ?_, ?_⟩
    · rcases List.mem_append.1 hc with h | h
      · exact span_all _ c h
      · exact hB.1 c h
    · have a1 := (List.takeWhile_sublist (l := u) isD).length_le
      have a2 := hB.2
      rw [List.length_append]
      omega

/-- The two answers are one. -/
theorem same {l : List UInt8} (hl : l.length ≤ 400) {r : Int × Int} (h : if isWordR l then r = (0, 4) else MeetsR (shape l) r) : parseF l = r := by
  by_cases hw : isWordR l = true
  · rw [if_pos hw] at h
    rw [h]
    simp [parseF, word_eq, hw]
  · rw [if_neg hw] at h
    have hm := parse_meets l (by rw [word_eq]; simpa using hw)
    cases hs : shape l with
    | none =>
      rw [hs] at h hm
      exact Eq.trans (show parseF l = (0, 3) from hm) (show r = (0, 3) from h).symm
    | some s =>
      rw [hs] at h hm
      obtain ⟨h1, h2⟩ := shape_parts hs
      exact (Ans.capped h1 (by omega) (show Ans s.neg (valF 0 (s.ahead ++ s.behind)) (powS s) (parseF l) from hm)).unique h

set_option maxRecDepth 100000 in
set_option maxHeartbeats 400000 in
theorem law_short (s : ByteArray) (w : World) (hs : (s.size : Int) ≤ 400) (hT : FoldTab w) (hlt : 2 < w.heap.size) :
    Calls Tryd.prog 3 #[.string s] w fun e w' => e = .returned (.bool true) ∧ Below w.heap.size w w' := by
  have HP := Lib.hid (parse_any s w (by omega) hT hlt)
  have HR := Lib.hid (fun w => rparse_any s w (by omega))
  have HK := Lib.hid (fun w1 hb => known_yes w w1 hT hlt hb)
  have HS := Lib.hid (fun r => same (l := s.data.toList) (r := r) (by rw [← Lib.size_eq]; omega))
  clear hT
  go_enter Tryd.func3, Tryd.ntmps3
  go_wp2_with fail
  refine (Hid.out HP).mono ?_
  rintro e w1 ⟨rfl, hb1⟩
  have HB1 := Lib.hid hb1
  clear hb1
  go_wp2_with fail
  refine (Hid.out HR w1).mono ?_
  rintro e w2 ⟨⟨r1, r2, rfl, hr⟩, hb2⟩
  have hsm := Hid.out HS (r1, r2) hr
  have HB2 := Lib.hid (HB1.out.trans (hb2.mono HB1.out.size))
  clear hr hb2
  rw [hsm]
  clear hsm
  have h1 : (r1 == r1) = true := beq_iff_eq.2 rfl
  have h2 : (r2 == r2) = true := beq_iff_eq.2 rfl
  go_wp2_with fail
  refine (Hid.out HK _ HB2.out).mono ?_
  rintro e w3 ⟨rfl, hb3⟩
  go_wp2
  go_ret
  exact ⟨rfl, hb3⟩
set_option maxRecDepth 100000 in
set_option maxHeartbeats 400000 in
theorem law_long (s : ByteArray) (w : World) (hs : ¬ (s.size : Int) ≤ 400) (hT : FoldTab w) (hlt : 2 < w.heap.size) :
    Calls Tryd.prog 3 #[.string s] w fun e w' => e = .returned (.bool true) ∧ Below w.heap.size w w' := by
  have HK := Lib.hid (known_yes w w hT hlt (Below.refl _ _))
  have hs' : (s.size : Int) > 400 := by omega
  clear hT hs
  go_enter Tryd.func3, Tryd.ntmps3
  go_wp2_with fail
  refine (Hid.out HK).mono ?_
  rintro e w3 ⟨rfl, hb3⟩
  go_wp2
  go_ret
  exact ⟨rfl, hb3⟩

set_option maxRecDepth 100000 in
theorem lifted (os : Os) (started : os.Started) (H : Type) (enc : TypeId × Value → H) :
    ReturnsInHanded {} Tryd.checked os 3 .any (fun w args => (Rows.fixParsesSpec.pre enc Tryd.prog Tryd.f3 [] false w args ∧ laidMetH Tryd.prog Rows.fixParsesRow.laid w) ∧ sizedMet enc Tryd.prog Tryd.f3 (OpenSpec.ofChange Rows.fixParsesSpec) false w args)
      (Rows.fixParsesSpec.post enc Tryd.prog Tryd.f3 false true false false) := by
  refine returnsInHanded_of_change_and (C := Tryd.checked) (X := fun w _ => laidMetH Tryd.prog Rows.fixParsesRow.laid w) (fun _ _ _ hh h => h.of_heap hh) own started (by kernel_rfl) Tryd.func3
    (ChangeSpec.witness_shaped (enc := enc) (C := Tryd.checked) (os := os) (X := fun w _ => laidMetH Tryd.prog Rows.fixParsesRow.laid w) false (World.laidAll Tryd.prog os Rows.fixParsesRow.laid) #[.string ByteArray.empty] 8 (World.laidAll_os _ _ _)
      (World.shaped_of_ZipB (by kernel_rfl) (by kernel_rfl)) (by kernel_rfl) (by kernel_rfl) (by kernel_rfl)
      (by rw [MakeChecks.laidMetH_plain _ _ _ (by kernel_rfl)]; exact laidMet_laidAll _ (by kernel_rfl) (by kernel_rfl))) ?_
  intro W base args ds gs before hval0 hW hc _ hL _
  have hval : ∀ (j : Nat) t v, Tryd.f3.params[j]? = some t → args[j]? = some v → Value.okWide Tryd.prog W .any base t v := hval0
  have hW' := hW
  obtain ⟨p, q, hA0, hV, rfl, _, _⟩ := hW
  have hA : DataW.TrodAll enc Tryd.prog W 0 (fun _ => true) true Tryd.f3.params.toList args.toList ds p := hA0
  rw [Tryd.params3] at hA hval
  obtain ⟨v0, d0, rfl, rfl, h0⟩ := trodAll_one hA
  obtain ⟨rfl, rfl⟩ := trodVars_none hV
  obtain ⟨s, rfl, rfl, rfl, ws⟩ := Go.ChangeMaps.open_string Tryd.underlying9 (hval 0 9 v0 rfl rfl) h0
  simp only [List.append_nil] at hW'
  rw [MakeChecks.laidMetH_plain _ _ _ (by kernel_rfl)] at hL
  have hT := fold_of_laid (l := Rows.fixParsesRow.laid) (by simp [Rows.fixParsesRow]) hL
  have law : Calls Tryd.prog 3 #[.string s] W fun e w' => e = .returned (.bool true) ∧ Below W.heap.size W w' := by
    by_cases hs : (s.size : Int) ≤ 400
    · exact law_short s W hs hT.1 hT.2
    · exact law_long s W hs hT.1 hT.2
  refine law.mono fun e W' ⟨he, hb⟩ => ?_
  subst he
  exact ⟨_, rfl, _, _, _, [], [], [], hW', trodAll_mk1 (shut_bool Tryd.underlying4 _), trodAll_mk1 (Go.ChangeMaps.shut_string Tryd.underlying9 ws), rfl, hb.frame _, fun h => by cases h⟩

theorem holds : Rows.FixParsesSaid :=
  OpenClaim.holds_of_wide 3 Tryd.f3 rfl rfl rfl rfl rfl rfl rfl ⟨rfl, rfl, rfl, rfl, rfl⟩ rfl rfl rfl rfl rfl (by kernel_rfl) Tryd.func3 (by kernel_rfl)
    (of_decide_eq_true (by kernel_rfl)) (by unfold Func.isWrapper; first | (rw [if_pos (by decide +kernel)]; kernel_rfl) | (rw [if_neg (by decide +kernel)]; exact ⟨rfl, rfl⟩))
    (fun os started H enc _ => lifted os started H enc)

theorem card_holds : Rows.FixParsesCardSaid :=
  Claim7.holds_tied_plain_at .later [] _ _ _ _ holds (fun _ h => by cases h) (by kernel_rfl) (fun _ h => by cases h) fixParses_row_tie rfl ⟨rfl, rfl⟩ (by kernel_rfl) rfl
    (fun f fn hf hfn => by
      obtain rfl : f = 3 := Option.some.inj ((show Tryd.prog.funcNamed Rows.fixParsesRow.func = some 3 by kernel_rfl).symm.trans hf) |>.symm
      obtain rfl : fn = Tryd.f3 := (Option.some.inj (Tryd.func3.symm.trans hfn)).symm
      exact ⟨by kernel_rfl, fun j t ht => by
        rw [Tryd.params3] at ht
        obtain rfl : t = 9 := by simpa using Array.mem_of_getElem? ht
        exact (show Tryd.prog.wantsStandIn 9 = false by kernel_rfl)⟩)
    (by kernel_rfl)
#print axioms card_holds
end Go.Proofs.YtmbdggbppbkojaaDoor.fixParses
