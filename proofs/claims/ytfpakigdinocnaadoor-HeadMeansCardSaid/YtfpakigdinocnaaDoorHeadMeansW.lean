/- HeadMeans: the walk. -/
import Derived.Test.YtfpakigdinocnaaDoorHeadMeansP
import Derived.Test.YtfpakigdinocnaaDoorHeadKnown
namespace Go.Proofs.YtfpakigdinocnaaDoor
open Go.RowKit

theorem psv_form (x : Ps) : ∃ (a b : Int) (c d : Bool) (m e : Int), PsV x = .tuple #[.agg #[.int .i64 a, .int .i64 b, .bool c, .bool d], .int .i64 m, .int .i64 e] := by
  cases x with
  | err e => exact ⟨_, _, _, _, _, _, rfl⟩
  | part => exact ⟨_, _, _, _, _, _, rfl⟩
  | whole h n => exact ⟨_, _, _, _, _, _, rfl⟩
def FinB (w : World) (e : Ending) (w' : World) : Prop := e = .returned (.bool true) ∧ Below w.heap.size w w'
set_option maxRecDepth 100000 in
set_option maxHeartbeats 1000000 in
theorem means_early (A A2 : Option Addr) (n c n2 c2 : Nat) (p : Int) (w : World) (hm : MX w) (h1 : n ≤ 9223372036854775807) (h2 : n2 ≤ 9223372036854775807) (h : (n : Int) > 9000 ∨ (n2 : Int) > 9000 ∨ p < 0 ∨ (n : Int) < p) :
    Calls Tryd.prog 5 #[.slice A n c, .slice A2 n2 c2, .int .i64 p] w (FinB w) := by
  have HK := Lib.hid (known_yes w hm)
  clear hm
  by_cases a1 : (n : Int) > 9000
  · clear h
    go_enter Tryd.func5, Tryd.ntmps5
    go_wp2_with fail
    refine (Hid.out HK).mono ?_
    rintro e w3 ⟨rfl, hb3⟩
    go_wp2
    go_ret
    exact ⟨rfl, hb3⟩
  · have b1 : decide ((9000 : Int) < (n : Int)) = false := by simp; omega
    by_cases a2 : (n2 : Int) > 9000
    · clear h a1
      go_enter Tryd.func5, Tryd.ntmps5
      go_wp2_with fail
      refine (Hid.out HK).mono ?_
      rintro e w3 ⟨rfl, hb3⟩
      go_wp2
      go_ret
      exact ⟨rfl, hb3⟩
    · have b2 : decide ((9000 : Int) < (n2 : Int)) = false := by simp; omega
      by_cases a3 : p < 0
      · clear h a1 a2
        go_enter Tryd.func5, Tryd.ntmps5
        go_wp2_with fail
        refine (Hid.out HK).mono ?_
        rintro e w3 ⟨rfl, hb3⟩
        go_wp2
        go_ret
        exact ⟨rfl, hb3⟩
      · have b3 : decide (p < 0) = false := by simp; omega
        have a4 : (n : Int) < p := by omega
        clear h a1 a2 a3
        go_enter Tryd.func5, Tryd.ntmps5
        go_wp2_with fail
        refine (Hid.out HK).mono ?_
        rintro e w3 ⟨rfl, hb3⟩
        go_wp2
        go_ret
        exact ⟨rfl, hb3⟩
set_option maxRecDepth 100000 in
set_option maxHeartbeats 3000000 in
theorem means_main (A A2 : Option Addr) (l l2 : List UInt8) (c c2 : Nat) (t : Nat) (w : World) (hm : MX w) (h1 : l.length ≤ 9000) (h2 : l2.length ≤ 9000) (ht : t ≤ l.length)
    (hr : BReads w w.heap.size A l) (hc : l.length ≤ c) (hn : A = none → c = 0) (hr2 : BReads w w.heap.size A2 l2) (hn2 : A2 = none → c2 = 0) :
    Calls Tryd.prog 5 #[.slice A l.length c, .slice A2 l2.length c2, .int .i64 (t : Int)] w (FinB w) := by
  have HP1 := Lib.hid (parse_any (w := w) (A := A) (c := c) (l := l.take t) (hr.take t) (by rw [List.length_take]; omega) hn (by rw [List.length_take]; omega) hm)
  have e1 : (l.take t).length = t := by rw [List.length_take]; omega
  rw [e1] at HP1
  have HPM := Lib.hid (parseL_more (l.take t) (l.drop t ++ l2))
  have HPM2 := Lib.hid (show l.take t ++ (l.drop t ++ l2) = l ++ l2 by rw [← List.append_assoc, List.take_append_drop])
  rw [HPM2.out] at HPM
  have HPE := Lib.hid (fun e => parseL_err (l := l.take t) (e := e))
  have HPS := Lib.hid (fun h n => parseL_le (l := l.take t) (h := h) (n := n))
  rw [e1] at HPS
  have HPW : Hid (∀ (W : World) (v : Value), MX W → Owned w.heap.size W v (l ++ l2) → Calls Tryd.prog 9 #[v] W fun e w' => e = .returned (PsV (parseL (l ++ l2))) ∧ Below W.heap.size W w') := Lib.hid (fun W v hmx ho => by
    obtain ⟨A3, c3, hv, hr3, hc3, hn3⟩ := ho.sl
    rw [hv]
    exact parse_any hr3 hc3 hn3 (by rw [List.length_append]; omega) hmx)
  have HK : Hid (∀ W, Below w.heap.size w W → Calls Tryd.prog 8 #[] W fun e w' => e = .returned (.bool true) ∧ Below W.heap.size W w') := Lib.hid (fun W hb => known_yes W (mx_up hm hb))
  have HMX := Lib.hid hm
  obtain ⟨n, hnn⟩ : ∃ n, n = l.length := ⟨_, rfl⟩
  obtain ⟨n2, hnn2⟩ : ∃ n2, n2 = l2.length := ⟨_, rfl⟩
  have HRA := Lib.hid (fun (W : World) (hb : Below w.heap.size w W) => hr.below hb)
  have HRB := Lib.hid (fun (W : World) (hb : Below w.heap.size w W) => hr2.below hb)
  have HN := Lib.hid hn
  have HN2 := Lib.hid hn2
  have HL := Lib.hid hnn
  have HL2 := Lib.hid hnn2
  have HLE1 := Lib.hid (show 0 + l.length ≤ 1000000 by omega)
  have HLE2 := Lib.hid (show ([] ++ l).length + l2.length ≤ 1000000 by simp; omega)
  rw [← hnn] at h1 ht hc
  rw [← hnn2] at h2
  rw [← hnn, ← hnn2]
  have b1 : decide ((9000 : Int) < (n : Int)) = false := by simp; omega
  have b2 : decide ((9000 : Int) < (n2 : Int)) = false := by simp; omega
  have b3 : decide ((t : Int) < 0) = false := by simp
  have b4 : decide ((n : Int) < (t : Int)) = false := by simp; omega
  have b5 : (t : Int) ≤ (c : Int) := by omega
  have b6 : (0 : Int) ≤ (t : Int) := by omega
  clear hnn hnn2 hr hr2 hn hn2 hm e1
  cases hp1 : parseL (l.take t) with
  | err e0 =>
    have he := HPE.out e0 hp1
    rw [hp1] at HP1 HPM
    have HE := Lib.hid (show parseL (l ++ l2) = .err e0 from HPM.out)
    rw [HE.out] at HPW
    clear hp1 HPE HPS HPM
    go_enter Tryd.func5, Tryd.ntmps5
    go_wp2_with fail
    refine (Hid.out HP1).mono ?_
    rintro e w1 ⟨rfl, hb1⟩
    have HB1 := Lib.hid (hb1.alloc hb1.size (.cells #[.int .i64 0, .int .i64 0, .bool false, .bool false] 25))
    clear hb1 HP1
    unfold PsV zeroH
    go_wp2_with (first | (at_builtin; refine wpList_append_bytes rfl (.const (.slice none 0 0)) (.tmp 41) rfl w.heap.size (.slice none 0 0) [] rfl (World.ownsRow_nil _ _ _ _) w.heap.size A l c (by rw [← HL.out]; rfl) (HRA.out _ HB1.out) HN.out HLE1.out HB1.out.size ?_; intro v2 w2 hown2 hb2; have HO2 := Lib.hid hown2; have HB2 := Lib.hid (HB1.out.trans hb2); clear hown2 hb2) | (at_builtin; refine wpList_append_bytes rfl (.tmp 42) (.tmp 43) rfl w.heap.size v2 ([] ++ l) rfl HO2.out w.heap.size A2 l2 c2 (by rw [← HL2.out]; rfl) (HRB.out _ HB2.out) HN2.out HLE2.out HB2.out.size ?_; intro v3 w3 hown3 hb3; have HO3 := Lib.hid (show Owned w.heap.size w3 v3 (l ++ l2) from hown3); have HB3 := Lib.hid (HB2.out.trans hb3); clear hown3 hb3))
    refine (HPW.out w3 v3 (mx_up HMX.out HB3.out) HO3.out).mono ?_
    rintro e w4 ⟨rfl, hb4⟩
    have HB4 := Lib.hid ((HB3.out.trans (hb4.mono HB3.out.size)).alloc (Nat.le_trans HB3.out.size hb4.size) (.cells #[.int .i64 0, .int .i64 0, .bool false, .bool false] 25))
    clear hb4 HPW
    unfold PsV zeroH
    rcases he with rfl | rfl | rfl | rfl | rfl
    all_goals
      go_wp2_with (go_at_call 8; refine (HK.out _ HB4.out).mono ?_; rintro e w5 ⟨rfl, hb5⟩)
      go_ret
      exact ⟨rfl, HB4.out.trans (hb5.mono HB4.out.size)⟩
  | part =>
    rw [hp1] at HP1
    obtain ⟨x0, hx0⟩ : ∃ x0, x0 = parseL (l ++ l2) := ⟨_, rfl⟩
    rw [← hx0] at HPW
    obtain ⟨ya, yb, yc, yd, ym, ye, hx⟩ := psv_form x0
    rw [hx] at HPW
    clear hp1 HPE HPS HPM hx hx0
    go_enter Tryd.func5, Tryd.ntmps5
    go_wp2_with fail
    refine (Hid.out HP1).mono ?_
    rintro e w1 ⟨rfl, hb1⟩
    have HB1 := Lib.hid (hb1.alloc hb1.size (.cells #[.int .i64 0, .int .i64 0, .bool false, .bool false] 25))
    clear hb1 HP1
    unfold PsV zeroH
    go_wp2_with (first | (at_builtin; refine wpList_append_bytes rfl (.const (.slice none 0 0)) (.tmp 41) rfl w.heap.size (.slice none 0 0) [] rfl (World.ownsRow_nil _ _ _ _) w.heap.size A l c (by rw [← HL.out]; rfl) (HRA.out _ HB1.out) HN.out HLE1.out HB1.out.size ?_; intro v2 w2 hown2 hb2; have HO2 := Lib.hid hown2; have HB2 := Lib.hid (HB1.out.trans hb2); clear hown2 hb2) | (at_builtin; refine wpList_append_bytes rfl (.tmp 42) (.tmp 43) rfl w.heap.size v2 ([] ++ l) rfl HO2.out w.heap.size A2 l2 c2 (by rw [← HL2.out]; rfl) (HRB.out _ HB2.out) HN2.out HLE2.out HB2.out.size ?_; intro v3 w3 hown3 hb3; have HO3 := Lib.hid (show Owned w.heap.size w3 v3 (l ++ l2) from hown3); have HB3 := Lib.hid (HB2.out.trans hb3); clear hown3 hb3))
    refine (HPW.out w3 v3 (mx_up HMX.out HB3.out) HO3.out).mono ?_
    rintro e w4 ⟨rfl, hb4⟩
    have HB4 := Lib.hid ((HB3.out.trans (hb4.mono HB3.out.size)).alloc (Nat.le_trans HB3.out.size hb4.size) (.cells #[.int .i64 ya, .int .i64 yb, .bool yc, .bool yd] 25))
    clear hb4 HPW
    go_wp2_with (go_at_call 8; refine (HK.out _ HB4.out).mono ?_; rintro e w5 ⟨rfl, hb5⟩)
    go_ret
    exact ⟨rfl, HB4.out.trans (hb5.mono HB4.out.size)⟩
  | whole h m =>
    obtain ⟨hm0, hmt⟩ := HPS.out h m hp1
    rw [hp1] at HP1 HPM
    have HE := Lib.hid (show parseL (l ++ l2) = .whole h m from HPM.out)
    rw [HE.out] at HPW
    obtain ⟨ya, yb, yc, yd⟩ := h
    have g1 : ((m : Int) == 0) = false := by simp; omega
    have g2 : (m == 0) = false := by simp; omega
    have g3 : (m : Int) ≤ (t : Int) := by omega
    have g4 : (yb == yb) = true := by simp
    have g5 : (yc == yc) = true := by simp
    have g6 : (yd == yd) = true := by simp
    clear hp1 HPE HPS HPM
    go_enter Tryd.func5, Tryd.ntmps5
    go_wp2_with fail
    refine (Hid.out HP1).mono ?_
    rintro e w1 ⟨rfl, hb1⟩
    have HB1 := Lib.hid (hb1.alloc hb1.size (.cells #[.int .i64 (ya : Int), .int .i64 yb, .bool yc, .bool yd] 25))
    have HH1 := Lib.hid (heap_alloc_new w1 (.cells #[.int .i64 (ya : Int), .int .i64 yb, .bool yc, .bool yd] 25))
    have HBB0 := Lib.hid hb1.size
    have HS1 := Lib.hid (show w1.heap.size + 1 ≤ (w1.alloc (.cells #[.int .i64 (ya : Int), .int .i64 yb, .bool yc, .bool yd] 25)).heap.size by simp)
    clear hb1 HP1
    unfold PsV HdV
    go_wp2_with (first | (at_builtin; refine wpList_append_bytes rfl (.const (.slice none 0 0)) (.tmp 41) rfl (w1.heap.size + 1) (.slice none 0 0) [] rfl (World.ownsRow_nil _ _ _ _) w.heap.size A l c (by rw [← HL.out]; rfl) (HRA.out _ HB1.out) HN.out HLE1.out HS1.out ?_; intro v2 w2 hown2 hb2; have HO2 := Lib.hid hown2; have HG2 := Lib.hid hb2; have HB2 := Lib.hid (HB1.out.trans (hb2.mono (Nat.le_succ_of_le HBB0.out))); have HS2 := Lib.hid (Nat.le_trans HS1.out hb2.size); clear hown2 hb2) | (at_builtin; refine wpList_append_bytes rfl (.tmp 42) (.tmp 43) rfl (w1.heap.size + 1) v2 ([] ++ l) rfl HO2.out w.heap.size A2 l2 c2 (by rw [← HL2.out]; rfl) (HRB.out _ HB2.out) HN2.out HLE2.out HS2.out ?_; intro v3 w3 hown3 hb3; have HO3 := Lib.hid (show Owned (w1.heap.size + 1) w3 v3 (l ++ l2) from hown3); have HG3 := Lib.hid (HG2.out.trans hb3); have HB3 := Lib.hid (HB2.out.trans (hb3.mono (Nat.le_succ_of_le HBB0.out))); clear hown3 hb3))
    refine (HPW.out w3 v3 (mx_up HMX.out HB3.out) (HO3.out.low (Nat.le_succ_of_le HBB0.out))).mono ?_
    rintro e w4 ⟨rfl, hb4⟩
    have HB4 := Lib.hid ((HB3.out.trans (hb4.mono HB3.out.size)).alloc (Nat.le_trans HB3.out.size hb4.size) (.cells #[.int .i64 (ya : Int), .int .i64 yb, .bool yc, .bool yd] 25))
    have hlt3 : w1.heap.size < w3.heap.size := Nat.lt_of_lt_of_le (by simp) HG3.out.size
    have hh4 : w4.heap[w1.heap.size]? = some (.cells #[.int .i64 (ya : Int), .int .i64 yb, .bool yc, .bool yd] 25 (0, 0)) := (hb4.block _ hlt3).trans ((HG3.out.block _ (Nat.lt_succ_self _)).trans HH1.out)
    have hh5 := (heap_alloc_old w4 (.cells #[.int .i64 (ya : Int), .int .i64 yb, .bool yc, .bool yd] 25) (lt_of_block hh4)).trans hh4
    obtain ⟨c0, c1, c2', c3, -⟩ := read_cells hh5
    clear hb4 HPW hlt3 hh4 hh5
    unfold PsV HdV
    go_wp2_with (go_at_call 8; refine (HK.out _ HB4.out).mono ?_; rintro e w5 ⟨rfl, hb5⟩)
    go_ret
    exact ⟨rfl, HB4.out.trans (hb5.mono HB4.out.size)⟩
end Go.Proofs.YtfpakigdinocnaaDoor
