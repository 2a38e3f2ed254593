/- RequestBytes: the walk. -/
import Derived.Test.YtlpmfckhioppaaaReqKnown
import Derived.Deep.RegionHeld3
namespace Go.Proofs.Ytlpmfckhioppaaa
open Go.RowKit

namespace requestBytes
def Fin (w : World) (e : Ending) (w' : World) : Prop := e = .returned (.bool true) ∧ Below w.heap.size w w'
set_option maxRecDepth 100000 in
set_option maxHeartbeats 1000000 in
theorem early (a b : ByteArray) (w : World) (ha : a.size ≤ 9223372036854775807) (hb : b.size ≤ 9223372036854775807) (h : 2000 < (a.size : Int) ∨ 2000 < (b.size : Int)) :
    Calls Try.prog 5 #[.string a, .string b] w (Fin w) := by
  have HK := Lib.hid (known_yes w)
  by_cases h1 : 2000 < (a.size : Int)
  · go_enter Try.func5, Try.ntmps5
    go_wp2_with fail
    refine (Hid.out HK).mono ?_
    rintro e w1 ⟨rfl, hb1⟩
    go_wp2
    go_ret
    exact ⟨rfl, hb1⟩
  · have h1' : decide (2000 < (a.size : Int)) = false := by rw [decide_eq_false_iff_not]; exact h1
    have h2 : 2000 < (b.size : Int) := by omega
    clear h
    go_enter Try.func5, Try.ntmps5
    go_wp2_with fail
    refine (Hid.out HK).mono ?_
    rintro e w1 ⟨rfl, hb1⟩
    go_wp2
    go_ret
    exact ⟨rfl, hb1⟩
set_option maxRecDepth 100000 in
set_option maxHeartbeats 4000000 in
theorem no (a b : ByteArray) (w : World) (ha : a.size ≤ 2000) (hb : b.size ≤ 2000) (hm : ¬ (mayHost a.data.toList = true ∧ mayPath b.data.toList = true)) :
    Calls Try.prog 5 #[.string a, .string b] w (Fin w) := by
  have h1 : decide (2000 < (a.size : Int)) = false := by rw [decide_eq_false_iff_not]; omega
  have h2 : decide (2000 < (b.size : Int)) = false := by rw [decide_eq_false_iff_not]; omega
  have HK := Lib.hid (known_yes w)
  have H1 := Lib.hid (rhost_any a w (by omega))
  have H2 := Lib.hid (rpath_any b w (by omega))
  have H3 := Lib.hid (bytes_no a b w (by omega) (by omega) hm)
  have H4 := Lib.hid (mayHost_any a w (by omega))
  have H5 := Lib.hid (mayPath_any b w (by omega))
  generalize mayHost a.data.toList = x at H1 H4 hm
  generalize mayPath b.data.toList = y at H2 H5 hm
  cases x <;> cases y
  case true.true => simp at hm
  all_goals
    clear hm
    go_enter Try.func5, Try.ntmps5
    go_wp2_with (first | (go_at_call 20; refine (Hid.out H1).mono ?_; rintro e w1 ⟨rfl, rfl⟩) | (go_at_call 21; refine (Hid.out H2).mono ?_; rintro e w1 ⟨rfl, rfl⟩) | (go_at_call 22; refine (Hid.out H3).mono ?_; rintro e w1 ⟨rfl, rfl⟩) | (go_at_call 23; refine (Hid.out H4).mono ?_; rintro e w1 ⟨rfl, rfl⟩) | (go_at_call 24; refine (Hid.out H5).mono ?_; rintro e w1 ⟨rfl, rfl⟩) | (go_at_call 19; refine (Hid.out HK).mono ?_; rintro e w1 ⟨rfl, hb1⟩))
    go_ret
    exact ⟨rfl, hb1⟩
theorem whole_text {a b : ByteArray} (hx : mayHost a.data.toList = true) (hy : mayPath b.data.toList = true) : OV (textL a.data.toList b.data.toList) = .tuple #[.string a, .string b, .int .i64 0] ∧ aheadB (textL a.data.toList b.data.toList) = (textL a.data.toList b.data.toList).length := by
  have hf := firstB_self hx hy []
  rw [List.append_nil] at hf
  constructor
  · unfold OV wholeB
    rw [hf]
    show (if (decide ((textL a.data.toList b.data.toList).length ≠ 0) && decide ((textL a.data.toList b.data.toList).length = (textL a.data.toList b.data.toList).length)) = true then _ else _) = _
    rw [decide_eq_true (by rw [textL_len]; omega), decide_eq_true rfl]
    show (if true = true then (.tuple #[.string ⟨a.data.toList.toArray⟩, .string ⟨b.data.toList.toArray⟩, .int .i64 0] : Value) else _) = _
    rw [if_pos rfl, Lib.mk_data, Lib.mk_data]
  · have h := aheadB_self hx hy []
    rw [List.append_nil] at h
    rw [h, aheadB_stop, Nat.add_zero]
    have := sizeB_le []
    simpa using this
set_option maxRecDepth 100000 in
set_option maxHeartbeats 60000000 in
theorem yes (a b : ByteArray) (w : World) (hx : mayHost a.data.toList = true) (hy : mayPath b.data.toList = true) (hm : MX w) (h0 : 0 < w.heap.size) :
    Calls Try.prog 5 #[.string a, .string b] w (Fin w) := by
  have ha := (mayHost_iff.1 hx).2.1
  have hb := (mayPath_iff.1 hy).2.1
  rw [← Lib.size_eq] at ha hb
  have h1 : decide (2000 < (a.size : Int)) = false := by rw [decide_eq_false_iff_not]; omega
  have h2 : decide (2000 < (b.size : Int)) = false := by rw [decide_eq_false_iff_not]; omega
  have HK := Lib.hid (fun W => known_yes W)
  have H1 := Lib.hid (fun W => rhost_any a W (by omega))
  have H2 := Lib.hid (fun W => rpath_any b W (by omega))
  have H3 := Lib.hid (bytes_yes a b w hx hy)
  have H4 := Lib.hid (fun W => mayHost_any a W (by omega))
  have H5 := Lib.hid (fun W => mayPath_any b W (by omega))
  have HT := Lib.hid (fun W => text_any a b W (by omega) (by omega))
  obtain ⟨ho, hah⟩ := whole_text hx hy
  have HO := Lib.hid ho
  have HAH := Lib.hid hah
  have HL := Lib.hid (textL_len a.data.toList b.data.toList)
  have hlz := HL.out
  rw [← Lib.size_eq, ← Lib.size_eq] at hlz
  have HLB := Lib.hid (show (textL a.data.toList b.data.toList).length ≤ 1000000 by omega)
  have HLP := Lib.hid (show 0 < (textL a.data.toList b.data.toList).length by omega)
  have HTB : Hid (textB a.data.toList b.data.toList = ⟨(textL a.data.toList b.data.toList).toArray⟩) := Lib.hid rfl
  rw [hx] at H1 H4
  rw [hy] at H2 H5
  generalize textB a.data.toList b.data.toList = T at HT HTB
  generalize textL a.data.toList b.data.toList = TL at H3 HO HAH HLB HLP HTB
  have HM := Lib.hid hm
  have H0 := Lib.hid h0
  clear hx hy ho hah hlz ha hb hm h0 HL
  go_enter Try.func5, Try.ntmps5
  go_upto_region 4 with (first | (go_at_call 20; refine (H1.out _).mono ?_; rintro e w1 ⟨rfl, rfl⟩) | (go_at_call 21; refine (H2.out _).mono ?_; rintro e w1 ⟨rfl, rfl⟩))
  go_wp2_with fail
  refine (Hid.out H3).mono ?_
  rintro e w1 ⟨⟨v, rfl, hown⟩, hb1⟩
  rcases hown.form with ⟨_, h0⟩ | ⟨g, cap, rfl, _, hg, hlc, _⟩
  · have := HLP.out
    rw [h0] at this
    simp at this
  have HB1 := Lib.hid hb1
  obtain ⟨A, c, hv, hr, hc, _⟩ := hown.reads
  obtain ⟨rfl, -, rfl⟩ := Value.slice.inj hv
  have HR := Lib.hid hr
  have HC := Lib.hid hc
  have HOF := Lib.hid (of_any hr hc (fun h => by cases h) HLB.out (HM.out.below H0.out HB1.out) (Nat.lt_of_lt_of_le H0.out HB1.out.size))
  rw [HO.out] at HOF
  obtain ⟨n, hn⟩ : ∃ n, n = TL.length := ⟨_, rfl⟩
  have HN := Lib.hid hn
  rw [← hn] at HOF ⊢
  clear hb1 hown hg hlc hv hr hc hn
  go_wp2_with (first | (go_at_call 20; refine (H1.out _).mono ?_; rintro e w2 ⟨rfl, rfl⟩) | (go_at_call 21; refine (H2.out _).mono ?_; rintro e w2 ⟨rfl, rfl⟩) | (go_at_call 23; refine (H4.out _).mono ?_; rintro e w2 ⟨rfl, rfl⟩) | (go_at_call 24; refine (H5.out _).mono ?_; rintro e w2 ⟨rfl, rfl⟩))
  refine (Hid.out HOF).mono ?_
  rintro e w2 ⟨rfl, hb2⟩
  have HB2 := Lib.hid (HB1.out.trans (hb2.mono HB1.out.size))
  have HR2 := Lib.hid (HR.out.up (Nat.le_refl _) hb2)
  have HCV : Hid (∀ W, Below w2.heap.size w2 W → (convert 30 9 (.slice (some ⟨g, 0, none⟩) n cap)).run Try.prog W = .ok (.string T) W) := Lib.hid (fun W hW => by
    rw [HTB.out, HN.out]
    exact run_bytes_text W 9 30 Try.underlying30 Try.underlying9 cap (HR2.out.below hW))
  have hcv0 := HCV.out w2 (Below.refl _ _)
  have hcv1 := HCV.out w2.drew (Below.refl _ _).drew
  have HAC : Hid (∀ W, Below w2.heap.size w2 W → Calls Try.prog 27 #[.slice (some ⟨g, 0, none⟩) n cap] W fun e w' => e = .returned (.int .i64 (n : Int)) ∧ Below W.heap.size W w') := Lib.hid (fun W hW => by
    have h := ahead_any (HR2.out.up (Nat.le_refl _) hW) HC.out (fun h => by cases h) HLB.out (HM.out.below H0.out (HB2.out.trans (hW.mono HB2.out.size))) (Nat.lt_of_lt_of_le H0.out (Nat.le_trans HB2.out.size hW.size))
    rw [HAH.out, ← HN.out] at h
    exact h)
  clear hb2 HOF HR
  go_upto_region 10 with fail
  have HSK : Hid (∀ w', Hid (Below w2.heap.size w2 w') → ((convert 30 9 (.slice (some ⟨g, 0, none⟩) n cap)).run Try.prog w' = .ok (.string T) w' ∧ Hid (Below w2.heap.size w2 w'))) := Lib.hid (fun w' hb => ⟨HCV.out _ hb.out, hb⟩)
  have HAD : Hid (∀ W, Hid (Below w2.heap.size w2 W) → Calls Try.prog 27 #[.slice (some ⟨g, 0, none⟩) n cap] W fun e w' => e = .returned (.int .i64 (n : Int)) ∧ Hid (Below w2.heap.size w2 w')) := Lib.hid (fun W hW => (HAC.out W hW.out).mono fun e w' h => ⟨h.1, Lib.hid (hW.out.trans (h.2.mono hW.out.size))⟩)
  have HKD : Hid (∀ W, Hid (Below w2.heap.size w2 W) → Calls Try.prog 19 #[] W fun e w' => e = .returned (.bool true) ∧ Hid (Below w2.heap.size w2 w')) := Lib.hid (fun W hW => (HK.out W).mono fun e w' h => ⟨h.1, Lib.hid (hW.out.trans (h.2.mono hW.out.size))⟩)
  clear hcv0 hcv1 HCV HK HAC HO HAH HLB HLP HTB HM H0 HR2 HC HN H1 H2 H4 H5 H3
  refine wp_region_noPanic ?_
  go_region_held3 (fun w' => (convert 30 9 (.slice (some ⟨g, 0, none⟩) n cap)).run Try.prog w' = .ok (.string T) w' ∧ Hid (Below w2.heap.size w2 w')) (first | exact HSK.out _ (Lib.hid (Below.refl _ _).drew) | (refine HSK.out _ ?_; assumption) | (refine HSK.out _ ?_; go_split_ands; assumption)) ((first | (go_at_call 26; refine (HT.out _).mono ?_; rintro e w3 ⟨rfl, rfl⟩) | (go_at_call 27; refine (HAD.out _ (by go_split_ands; assumption)).mono ?_; rintro e w3 ⟨rfl, hb3⟩) | (go_at_call 19; refine (HKD.out _ (by go_split_ands; assumption)).mono ?_; rintro e w4 ⟨rfl, hb4⟩)))
  refine NoPanic.normal ?_
  go_wp2
  go_ret
  exact ⟨rfl, HB2.out.trans (hb4.out.mono HB2.out.size)⟩
end requestBytes
end Go.Proofs.Ytlpmfckhioppaaa
