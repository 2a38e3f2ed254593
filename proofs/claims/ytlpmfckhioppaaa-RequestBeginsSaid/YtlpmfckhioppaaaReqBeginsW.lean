/- RequestBegins: the walk. -/
import Derived.Test.YtlpmfckhioppaaaReqKnown
import Derived.Test.YtlpmfckhioppaaaBuf
namespace Go.Proofs.Ytlpmfckhioppaaa
open Go.RowKit

theorem Buf.parts {B : Nat} {w : World} {v : Value} {l : List UInt8} (h : Buf B w v l) (n : Nat) (hn : l.length = n) : ∃ g cap, v = .slice (some ⟨g, 0, none⟩) n cap ∧ BReads w w.heap.size (some ⟨g, 0, none⟩) l ∧ l.length ≤ cap := by
  subst hn
  obtain ⟨g, cap, rfl, h1, h2, h3, h4, h5, _⟩ := h
  exact ⟨g, cap, rfl, .inr ⟨g, 0, rfl, h2, fun j c hj => by rw [Nat.zero_add]; exact h5 j c hj⟩, h3⟩
namespace requestBegins
def Fin (w : World) (e : Ending) (w' : World) : Prop := e = .returned (.bool true) ∧ Below w.heap.size w w'
set_option maxRecDepth 100000 in
set_option maxHeartbeats 2000000 in
theorem early (a b : ByteArray) (n : Int) (w : World) (ha : a.size ≤ 9223372036854775807) (hb : b.size ≤ 9223372036854775807) (h : 1500 < a.size ∨ 1500 < b.size ∨ mayHost a.data.toList = false ∨ mayPath b.data.toList = false) :
    Calls Try.prog 7 #[.string a, .string b, .int .i64 n] w (Fin w) := by
  have HK := Lib.hid (known_yes w)
  have H1 := Lib.hid (rhost_any a w ha)
  have H2 := Lib.hid (rpath_any b w hb)
  by_cases h1 : 1500 < a.size
  · have h1' : (1500 : Int) < (a.size : Int) := by omega
    clear h H1 H2
    go_enter Try.func7, Try.ntmps7
    go_wp2_with (refine (Hid.out HK).mono ?_; rintro e w1 ⟨rfl, hb1⟩)
    go_ret
    exact ⟨rfl, hb1⟩
  · have h1' : decide ((1500 : Int) < (a.size : Int)) = false := by rw [decide_eq_false_iff_not]; omega
    by_cases h2 : 1500 < b.size
    · have h2' : (1500 : Int) < (b.size : Int) := by omega
      clear h H1 H2
      go_enter Try.func7, Try.ntmps7
      go_wp2_with (refine (Hid.out HK).mono ?_; rintro e w1 ⟨rfl, hb1⟩)
      go_ret
      exact ⟨rfl, hb1⟩
    · have h2' : decide ((1500 : Int) < (b.size : Int)) = false := by rw [decide_eq_false_iff_not]; omega
      have h3 : mayHost a.data.toList = false ∨ mayPath b.data.toList = false := by
        rcases h with h | h | h
        · exact absurd h h1
        · exact absurd h h2
        · exact h
      generalize mayHost a.data.toList = x at H1 h3
      generalize mayPath b.data.toList = y at H2 h3
      cases x <;> cases y
      case true.true => simp at h3
      all_goals
        clear h h3
        go_enter Try.func7, Try.ntmps7
        go_wp2_with (first | (go_at_call 20; refine (Hid.out H1).mono ?_; rintro e w1 ⟨rfl, rfl⟩) | (go_at_call 21; refine (Hid.out H2).mono ?_; rintro e w1 ⟨rfl, rfl⟩) | (go_at_call 19; refine (Hid.out HK).mono ?_; rintro e w1 ⟨rfl, hb1⟩))
        go_ret
        exact ⟨rfl, hb1⟩
theorem begin_ov {h p : List UInt8} (hh : mayHost h = true) (hp : mayPath p = true) {k : Nat} (hk : k < (textL h p).length) : OV ((textL h p).take k) = .tuple #[.string ⟨#[]⟩, .string ⟨#[]⟩, .int .i64 2] ∧ aheadB ((textL h p).take k) = 0 ∧ aheadB (textL h p ++ (textL h p).take k) = (textL h p).length := by
  have hf := firstB_begin hh hp hk
  have h0 : sizeB (firstB ((textL h p).take k)) = 0 := by rw [hf]; rfl
  refine ⟨?_, aheadB_stop h0, ?_⟩
  · unfold OV wholeB
    rw [h0, if_neg (by simp)]
  · rw [aheadB_self hh hp, aheadB_stop h0, Nat.add_zero]
set_option maxRecDepth 100000 in
set_option maxHeartbeats 4000000 in
theorem main (a b : ByteArray) (n : Int) (w : World) (ha : a.size ≤ 1500) (hb : b.size ≤ 1500) (hx : mayHost a.data.toList = true) (hy : mayPath b.data.toList = true) (hm : MX w) (h0 : 0 < w.heap.size) :
    Calls Try.prog 7 #[.string a, .string b, .int .i64 n] w (Fin w) := by
  have h1 : decide ((1500 : Int) < (a.size : Int)) = false := by rw [decide_eq_false_iff_not]; omega
  have h2 : decide ((1500 : Int) < (b.size : Int)) = false := by rw [decide_eq_false_iff_not]; omega
  have HK := Lib.hid (fun W => known_yes W)
  have H1 := Lib.hid (rhost_any a w (by omega))
  have H2 := Lib.hid (rpath_any b w (by omega))
  have HT := Lib.hid (text_any a b w (by omega) (by omega))
  rw [hx] at H1
  rw [hy] at H2
  obtain ⟨T, hT⟩ : ∃ T, T = textB a.data.toList b.data.toList := ⟨_, rfl⟩
  have hTl : T.data.toList = textL a.data.toList b.data.toList := by rw [hT, textB_list]
  have hTz : T.size ≤ 4000 := by rw [Lib.size_eq, hTl, textL_len, ← Lib.size_eq, ← Lib.size_eq]; omega
  rw [← hT] at HT
  have HX := Lib.hid hx
  have HY := Lib.hid hy
  have HTL := Lib.hid hTl
  by_cases hn : 0 ≤ n ∧ n < (T.size : Int)
  · obtain ⟨k, rfl⟩ : ∃ k : Nat, n = (k : Int) := ⟨n.toNat, by omega⟩
    have hkz : k < T.size := by omega
    have hk0 : decide ((k : Int) < 0) = false := by rw [decide_eq_false_iff_not]; omega
    have hk1 : decide ((T.size : Int) ≤ (k : Int)) = false := by rw [decide_eq_false_iff_not]; omega
    have hk2 : (k : Int) ≤ (T.size : Int) := by omega
    have hk3 : (0 : Int) ≤ (k : Int) := by omega
    obtain ⟨e1, e2, e3⟩ := begin_ov hx hy (k := k) (by rw [← hTl, ← Lib.size_eq]; exact hkz)
    have hPl : (T.extract 0 k).data.toList = (textL a.data.toList b.data.toList).take k := by rw [ext_list T 0 k (by omega), List.drop_zero, hTl]; rfl
    have hPs : (T.extract 0 k).size = k := by simp; omega
    have z1 : ¬ (9223372036854775807 < T.size + k) := by omega
    rw [← hPl] at e1 e2 e3
    rw [← hTl] at e3
    have HE1 := Lib.hid e1
    have HE2 := Lib.hid e2
    have HE3 := Lib.hid e3
    have HPS := Lib.hid hPs
    have HTS := Lib.hid (Lib.size_eq T)
    obtain ⟨v1, w1, hrun1, hbuf1, hb1⟩ := conv_bytes w (T.extract 0 k) (by rw [hPs]; unfold maxLen; omega)
    have HB1 := Lib.hid hb1
    have hlen : (T.extract 0 k).data.toList.length = k := by rw [← Lib.size_eq, hPs]
    have HLEN := Lib.hid hlen
    obtain ⟨g1, c1, rfl, hr1, hc1⟩ := hbuf1.parts k hlen
    have hof := of_any hr1 hc1 (fun h => by cases h) (by rw [hlen]; omega) (hm.below h0 hb1) (Nat.lt_of_lt_of_le h0 hb1.size)
    rw [HE1.out, hlen] at hof
    have HOF := Lib.hid hof
    have HM := Lib.hid hm
    have H0 := Lib.hid h0
    have HKZ := Lib.hid hkz
    have HTZ := Lib.hid hTz
    have hkd : decide (T.size ≤ k) = false := by rw [decide_eq_false_iff_not]; omega
    clear hx hy hm h0 hn hPl e1 e2 e3 hbuf1 hr1 hc1 hb1 hT hTl hof hlen hPs
    go_enter Try.func7, Try.ntmps7
    go_wp2_with (first | (go_at_call 20; refine (Hid.out H1).mono ?_; rintro e w2 ⟨rfl, rfl⟩) | (go_at_call 21; refine (Hid.out H2).mono ?_; rintro e w2 ⟨rfl, rfl⟩) | (go_at_call 26; refine (Hid.out HT).mono ?_; rintro e w2 ⟨rfl, rfl⟩))
    refine (Hid.out HOF).mono ?_
    rintro e w2 ⟨rfl, hb2⟩
    have HB2 := Lib.hid (HB1.out.trans (hb2.mono HB1.out.size))
    obtain ⟨v3, w3, hrun3, hbuf3, hb3⟩ := conv_bytes w2 (T.extract 0 k) (by rw [HPS.out]; unfold maxLen; omega)
    have HB3 := Lib.hid (HB2.out.trans (hb3.mono HB2.out.size))
    obtain ⟨g3, c3, rfl, hr3, hc3⟩ := hbuf3.parts k HLEN.out
    have hah := ahead_any hr3 hc3 (fun h => by cases h) (by rw [HLEN.out]; omega) (HM.out.below H0.out HB3.out) (Nat.lt_of_lt_of_le H0.out HB3.out.size)
    rw [HE2.out, HLEN.out] at hah
    have HA3 := Lib.hid hah
    clear hb2 hbuf3 hr3 hc3 hb3 hah hrun1
    go_wp2_with fail
    refine (Hid.out HA3).mono ?_
    rintro e w4 ⟨rfl, hb4⟩
    have HB4 := Lib.hid (HB3.out.trans (hb4.mono HB3.out.size))
    have hl5 : (T ++ T.extract 0 k).data.toList = T.data.toList ++ (T.extract 0 k).data.toList := ba_app _ _
    obtain ⟨v5, w5, hrun5, hbuf5, hb5⟩ := conv_bytes w4 (T ++ T.extract 0 k) (by rw [Lib.size_eq, hl5, List.length_append, HLEN.out, ← Lib.size_eq]; unfold maxLen; omega)
    have HB5 := Lib.hid (HB4.out.trans (hb5.mono HB4.out.size))
    rw [hl5] at hbuf5
    have hlen5 : (T.data.toList ++ (T.extract 0 k).data.toList).length = T.size + k := by rw [List.length_append, HLEN.out, ← Lib.size_eq]
    obtain ⟨g5, c5, rfl, hr5, hc5⟩ := hbuf5.parts (T.size + k) hlen5
    have hah5 := ahead_any hr5 hc5 (fun h => by cases h) (by rw [hlen5]; omega) (HM.out.below H0.out HB5.out) (Nat.lt_of_lt_of_le H0.out HB5.out.size)
    rw [HE3.out, hlen5, ← Lib.size_eq] at hah5
    have HA5 := Lib.hid hah5
    have hPs : (T.extract 0 k).size = k := HPS.out
    clear hb4 hbuf5 hr5 hc5 hb5 hah5 hrun3 hl5 hlen5
    go_wp2_with fail
    refine (Hid.out HA5).mono ?_
    rintro e w6 ⟨rfl, hb6⟩
    have HB6 := Lib.hid (HB5.out.trans (hb6.mono HB5.out.size))
    clear hb6 hrun5
    go_wp2_with fail
    refine (HK.out _).mono ?_
    rintro e w7 ⟨rfl, hb7⟩
    have HB7 := Lib.hid (HB6.out.trans (hb7.mono HB6.out.size))
    clear hb7
    go_wp2
    go_ret
    exact ⟨rfl, HB7.out⟩
  · by_cases hn0 : 0 ≤ n
    · have hk0 : decide (n < 0) = false := by rw [decide_eq_false_iff_not]; omega
      have hk1 : (T.size : Int) ≤ n := by omega
      clear hx hy hm h0 hn hT hTl
      go_enter Try.func7, Try.ntmps7
      go_wp2_with (first | (go_at_call 20; refine (Hid.out H1).mono ?_; rintro e w2 ⟨rfl, rfl⟩) | (go_at_call 21; refine (Hid.out H2).mono ?_; rintro e w2 ⟨rfl, rfl⟩) | (go_at_call 26; refine (Hid.out HT).mono ?_; rintro e w2 ⟨rfl, rfl⟩) | (go_at_call 19; refine (HK.out _).mono ?_; rintro e w7 ⟨rfl, hb7⟩))
      go_ret
      exact ⟨rfl, hb7⟩
    · have hk0 : n < 0 := by omega
      clear hx hy hm h0 hn hT hTl
      go_enter Try.func7, Try.ntmps7
      go_wp2_with (first | (go_at_call 20; refine (Hid.out H1).mono ?_; rintro e w2 ⟨rfl, rfl⟩) | (go_at_call 21; refine (Hid.out H2).mono ?_; rintro e w2 ⟨rfl, rfl⟩) | (go_at_call 26; refine (Hid.out HT).mono ?_; rintro e w2 ⟨rfl, rfl⟩) | (go_at_call 19; refine (HK.out _).mono ?_; rintro e w7 ⟨rfl, hb7⟩))
      go_ret
      exact ⟨rfl, hb7⟩
end requestBegins
end Go.Proofs.Ytlpmfckhioppaaa
