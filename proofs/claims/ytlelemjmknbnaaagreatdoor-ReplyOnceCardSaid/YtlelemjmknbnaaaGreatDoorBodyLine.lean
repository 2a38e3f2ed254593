/- The parts of a line: its end, its digits; a trailer. -/
import Derived.Test.YtlelemjmknbnaaaGreatDoorBodySt
namespace Go.Proofs.YtlelemjmknbnaaaGreatDoor
open Go.RowKit

theorem ext_take {S : ByteArray} (k : Nat) : S.extract 0 k = ⟨(S.data.toList.take k).toArray⟩ := ba_eq (by rw [ByteArray.data_extract]; simp)
theorem suf_len {l : List UInt8} (h : Lib.hasSuffix l tEnd = true) : 2 ≤ l.length := by
  unfold Lib.hasSuffix at h
  rw [List.isSuffixOf_iff_suffix] at h
  exact h.length_le
set_option maxRecDepth 100000 in
set_option maxHeartbeats 1000000 in
theorem chop0_any (s : ByteArray) (w : World) (hs : s.size ≤ 1000000) :
    Calls Tryz.prog 79 #[.string s, .string ⟨#[13, 10]⟩] w fun e w' => e = .returned (.tuple #[.string ⟨(chopL s.data.toList).toArray⟩, .bool (Lib.hasSuffix s.data.toList tEnd)]) ∧ w = w' := by
  have HSF := Lib.hid (Tryz.stringslite_HasSuffix s ⟨#[13, 10]⟩ w (by omega))
  change Hid (Calls _ _ _ _ fun e w' => e = .returned (.bool (Lib.hasSuffix s.data.toList tEnd)) ∧ w' = w) at HSF
  cases hb : Lib.hasSuffix s.data.toList tEnd with
  | true =>
    have hl := suf_len hb
    rw [hb] at HSF
    have hl2 : 2 ≤ s.size := by rw [Lib.size_eq]; exact hl
    have HX := Lib.hid (show s.extract 0 (s.size - 2) = ⟨(chopL s.data.toList).toArray⟩ by
      unfold chopL
      rw [if_pos hb, ext_take, Lib.size_eq])
    have hi : (2 : Int) ≤ (s.size : Int) := by omega
    clear hb hl
    go_enter Tryz.func79, Tryz.ntmps79
    go_wp2_with (go_at_call 90; refine (Hid.out HSF).mono ?_; rintro e w1 ⟨rfl, rfl⟩)
    go_ret2
    rw [HX.out]
    exact ⟨rfl, rfl⟩
  | false =>
    rw [hb] at HSF
    have HX := Lib.hid (show (⟨(chopL s.data.toList).toArray⟩ : ByteArray) = s by
      unfold chopL
      rw [if_neg (by rw [hb]; decide)])
    clear hb
    go_enter Tryz.func79, Tryz.ntmps79
    go_wp2_with (go_at_call 90; refine (Hid.out HSF).mono ?_; rintro e w1 ⟨rfl, rfl⟩)
    go_ret2
    rw [HX.out]
    exact ⟨rfl, rfl⟩
set_option maxRecDepth 100000 in
theorem chop_any (s : ByteArray) (w : World) (hs : s.size ≤ 1000000) :
    Calls Tryz.prog 57 #[.string s, .string ⟨#[13, 10]⟩] w fun e w' => e = .returned (.tuple #[.string ⟨(chopL s.data.toList).toArray⟩, .bool (Lib.hasSuffix s.data.toList tEnd)]) ∧ w = w' := by
  have HC := Lib.hid (chop0_any s w hs)
  generalize (⟨(chopL s.data.toList).toArray⟩ : ByteArray) = T at HC ⊢
  generalize Lib.hasSuffix s.data.toList tEnd = b at HC ⊢
  go_enter Tryz.func57, Tryz.ntmps57
  go_wp2_with (go_at_call 79; refine (Hid.out HC).mono ?_; rintro e w1 ⟨rfl, rfl⟩)
  go_ret2
  exact ⟨rfl, rfl⟩
theorem chop_len (l : List UInt8) : (chopL l).length ≤ l.length := by
  unfold chopL
  split
  · rw [List.length_take]; omega
  · exact Nat.le_refl _
set_option maxRecDepth 100000 in
set_option maxHeartbeats 1000000 in
theorem isTrailer_any (s : ByteArray) (w : World) (hs : s.size ≤ 1000000) (hm : MX w) :
    Calls Tryz.prog 61 #[.string s] w fun e w' => e = .returned (.bool (trailL s.data.toList)) ∧ ∃ n, w' = w.drewN n := by
  have HC := Lib.hid (chop_any s w hs)
  have hl := chop_len s.data.toList
  rw [← Lib.size_eq] at hl
  have HT : Hid (trailL s.data.toList = (Lib.hasSuffix s.data.toList tEnd && (Lib.cut (chopL s.data.toList) [58]).2.2 && mayName (Lib.cut (chopL s.data.toList) [58]).1 && mayText (Lib.cut (chopL s.data.toList) [58]).2.1)) := Lib.hid rfl
  generalize trailL s.data.toList = tr at HT ⊢
  generalize chopL s.data.toList = T at HC hl HT
  have HCU := Lib.hid (cutS_any ⟨T.toArray⟩ ⟨#[58]⟩ w (by rw [Lib.size_eq]; show T.length ≤ _; omega) hm)
  have hcl := cut_len (s := T) (sep := [58])
  change Hid (Calls Tryz.prog 52 _ _ fun e w' => e = .returned (.tuple #[.string ⟨(Lib.cut T [58]).1.toArray⟩, .string ⟨(Lib.cut T [58]).2.1.toArray⟩, .bool (Lib.cut T [58]).2.2]) ∧ ∃ n, w' = w.drewN n) at HCU
  obtain ⟨⟨a, r, is⟩, h1⟩ : ∃ t, t = Lib.cut T [58] := ⟨_, rfl⟩
  rw [← h1] at HCU HT hcl
  simp only [] at HCU HT hcl
  have HN := Lib.hid (fun W => mayName_any ⟨a.toArray⟩ W (by rw [Lib.size_eq]; show a.length ≤ _; omega))
  have HX := Lib.hid (fun W => mayText_any ⟨r.toArray⟩ W (by rw [Lib.size_eq]; show r.length ≤ _; omega))
  change Hid (∀ W, Calls _ _ _ _ fun e w' => e = .returned (.bool (mayName a)) ∧ _) at HN
  change Hid (∀ W, Calls _ _ _ _ fun e w' => e = .returned (.bool (mayText r)) ∧ _) at HX
  generalize mayName a = ma at HN HT
  generalize mayText r = mt at HX HT
  generalize Lib.hasSuffix s.data.toList tEnd = hb at HC HT
  clear h1 hcl hl hm hs
  cases hb <;> cases is <;> cases ma <;> cases mt
  all_goals
    go_enter Tryz.func61, Tryz.ntmps61
    go_wp2_with (first | (go_at_call 57; refine (Hid.out HC).mono ?_; rintro e w1 ⟨rfl, rfl⟩) | (go_at_call 52; refine (Hid.out HCU).mono ?_; rintro e w2 ⟨rfl, n, rfl⟩) | (go_at_call 55; refine (HN.out _).mono ?_; rintro e w3 ⟨rfl, rfl⟩) | (go_at_call 54; refine (HX.out _).mono ?_; rintro e w4 ⟨rfl, rfl⟩))
    go_ret
    rw [HT.out]
    exact ⟨rfl, _, rfl⟩
end Go.Proofs.YtlelemjmknbnaaaGreatDoor
