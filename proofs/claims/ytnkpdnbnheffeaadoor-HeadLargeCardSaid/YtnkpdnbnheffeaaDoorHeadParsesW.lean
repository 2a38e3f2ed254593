/- HeadParses: the walk. -/
import Derived.Test.YtnkpdnbnheffeaaDoorHeadRWhole
import Derived.Test.YtnkpdnbnheffeaaDoorHeadKnown
namespace Go.Proofs.YtnkpdnbnheffeaaDoor
open Go.RowKit

theorem rparse_any {w : World} {A : Option Addr} {c : Nat} {l : List UInt8} (hr : BReads w w.heap.size A l) (hc : l.length ≤ c) (hn : A = none → c = 0) (hl : l.length ≤ 1000000) :
    Calls Tryd.prog 9 #[.slice A l.length c] w fun e w' => e = .returned (PsV (parseL l)) ∧ Below w.heap.size w w' := by
  by_cases h : ∃ old st fs m, readL l = .whole old st fs m
  · obtain ⟨old, st, fs, m, h⟩ := h
    refine (rparse_whole hr hc hn hl h).mono fun e w' hh => ⟨?_, hh.2⟩
    rw [hh.1]
    show _ = Ending.returned (PsV (parseR (readL l)))
    rw [h]
    rfl
  · exact rparse_short hr hc hn hl (fun old st fs m e => h ⟨_, _, _, _, e⟩)
theorem psv_form' (x : Ps) : ∃ (a b : Int) (c d : Bool) (m e : Int), PsV x = .tuple #[.agg #[.int .i64 a, .int .i64 b, .bool c, .bool d], .int .i64 m, .int .i64 e] := by
  cases x with
  | err e => exact ⟨_, _, _, _, _, _, rfl⟩
  | part => exact ⟨_, _, _, _, _, _, rfl⟩
  | whole h n => exact ⟨_, _, _, _, _, _, rfl⟩
def FinP (w : World) (e : Ending) (w' : World) : Prop := e = .returned (.bool true) ∧ Below w.heap.size w w'
set_option maxRecDepth 100000 in
theorem parses_early (A : Option Addr) (n c : Nat) (w : World) (hm : MX w) (h1 : n ≤ 9223372036854775807) (h : (n : Int) > 20000) :
    Calls Tryd.prog 3 #[.slice A n c] w (FinP w) := by
  have HK := Lib.hid (known_yes w hm)
  clear hm
  go_enter Tryd.func3, Tryd.ntmps3
  go_wp2_with fail
  refine (Hid.out HK).mono ?_
  rintro e w3 ⟨rfl, hb3⟩
  go_wp2
  go_ret
  exact ⟨rfl, hb3⟩
set_option maxRecDepth 100000 in
set_option maxHeartbeats 3000000 in
theorem parses_main (A : Option Addr) (l : List UInt8) (c : Nat) (w : World) (hm : MX w) (h1 : l.length ≤ 20000)
    (hr : BReads w w.heap.size A l) (hc : l.length ≤ c) (hn : A = none → c = 0) :
    Calls Tryd.prog 3 #[.slice A l.length c] w (FinP w) := by
  obtain ⟨ya, yb, yc, yd, ym, ye, hx⟩ := psv_form' (parseL l)
  have HPW : Hid (∀ (W : World) (v : Value), MX W → Owned w.heap.size W v l → Calls Tryd.prog 8 #[v] W fun e w' => e = .returned (.tuple #[.agg #[.int .i64 ya, .int .i64 yb, .bool yc, .bool yd], .int .i64 ym, .int .i64 ye]) ∧ Below W.heap.size W w') := Lib.hid (fun W v hmx ho => by
    obtain ⟨A3, c3, hv, hr3, hc3, hn3⟩ := ho.sl
    rw [hv, ← hx]
    exact parse_any hr3 hc3 hn3 (by omega) hmx)
  have HRP : Hid (∀ (W : World), Below w.heap.size w W → Calls Tryd.prog 9 #[.slice A l.length c] W fun e w' => e = .returned (.tuple #[.agg #[.int .i64 ya, .int .i64 yb, .bool yc, .bool yd], .int .i64 ym, .int .i64 ye]) ∧ Below W.heap.size W w') := Lib.hid (fun W hb => by
    rw [← hx]
    exact rparse_any ((hr.below hb).more hb.size) hc hn (by omega))
  have HK : Hid (∀ W, Below w.heap.size w W → Calls Tryd.prog 7 #[] W fun e w' => e = .returned (.bool true) ∧ Below W.heap.size W w') := Lib.hid (fun W hb => known_yes W (mx_up hm hb))
  have HMX := Lib.hid hm
  have HT : Hid (∀ W, Below w.heap.size w W → (convert 22 9 (.slice A l.length c)).run Tryd.prog W = .ok (.string ⟨l.toArray⟩) W) := Lib.hid (fun W hb => run_bytes_text W 9 22 Tryd.underlying22 Tryd.underlying9 c (hr.below hb))
  obtain ⟨n, hnn⟩ : ∃ n, n = l.length := ⟨_, rfl⟩
  have HRA := Lib.hid (fun (W : World) (hb : Below w.heap.size w W) => hr.below hb)
  have HN := Lib.hid hn
  have HL := Lib.hid hnn
  have HLE1 := Lib.hid (show 0 + l.length ≤ 1000000 by omega)
  rw [← hnn] at h1 hc HRP HT
  rw [← hnn]
  have b1 : decide ((20000 : Int) < (n : Int)) = false := by simp; omega
  have g3 : (ya == ya) = true := by simp
  have g4 : (yb == yb) = true := by simp
  have g5 : (yc == yc) = true := by simp
  have g6 : (yd == yd) = true := by simp
  have g7 : (ym == ym) = true := by simp
  have g8 : (ye == ye) = true := by simp
  have hB0 : w.heap.size ≤ w.heap.size := Nat.le_refl _
  clear hnn hr hn hm hx
  go_enter Tryd.func3, Tryd.ntmps3
  go_wp2_with (at_builtin; refine wpList_append_bytes rfl (.const (.slice none 0 0)) (.tmp 14) rfl w.heap.size (.slice none 0 0) [] rfl (World.ownsRow_nil _ _ _ _) w.heap.size A l c (by rw [← HL.out]; rfl) (HRA.out _ (Below.refl _ _)) HN.out HLE1.out (Nat.le_refl _) ?_; intro v2 w2 hown2 hb2; have HO2 := Lib.hid (show Owned w.heap.size w2 v2 l from hown2); have HB2 := Lib.hid hb2; clear hown2 hb2)
  refine (HPW.out w2 v2 (mx_up HMX.out HB2.out) HO2.out).mono ?_
  rintro e w3 ⟨rfl, hb3⟩
  have HA3 := Lib.hid (heap_alloc_new w3 (.cells #[.int .i64 ya, .int .i64 yb, .bool yc, .bool yd] 25))
  have HB3 := Lib.hid ((HB2.out.trans (hb3.mono HB2.out.size)).alloc (Nat.le_trans HB2.out.size hb3.size) (.cells #[.int .i64 ya, .int .i64 yb, .bool yc, .bool yd] 25))
  have HO3 := Lib.hid ((HO2.out.below hb3).alloc (.cells #[.int .i64 ya, .int .i64 yb, .bool yc, .bool yd] 25))
  have HZ3 := Lib.hid (show w3.heap.size + 1 ≤ (w3.alloc (.cells #[.int .i64 ya, .int .i64 yb, .bool yc, .bool yd] 25)).heap.size by simp)
  clear hb3 HPW HO2 HB2
  go_wp2_with fail
  refine (HRP.out _ HB3.out).mono ?_
  rintro e w4 ⟨rfl, hb4⟩
  have hh4 := (hb4.block w3.heap.size (Nat.lt_of_succ_le HZ3.out)).trans HA3.out
  have HB4 := Lib.hid ((HB3.out.trans (hb4.mono HB3.out.size)).alloc (Nat.le_trans HB3.out.size hb4.size) (.cells #[.int .i64 ya, .int .i64 yb, .bool yc, .bool yd] 25))
  have hh5 := (heap_alloc_old w4 (.cells #[.int .i64 ya, .int .i64 yb, .bool yc, .bool yd] 25) (lt_of_block hh4)).trans hh4
  obtain ⟨c0, c1, c2', c3, -⟩ := read_cells hh5
  have HO4 := Lib.hid ((HO3.out.below hb4).alloc (.cells #[.int .i64 ya, .int .i64 yb, .bool yc, .bool yd] 25))
  obtain ⟨A5, c5, hv5, ht5⟩ := owned_text HO4.out
  have ht6 := HT.out _ HB4.out
  subst hv5
  rw [← HL.out] at ht5
  have e5 : l.length = n := HL.out.symm
  rw [e5]
  clear hb4 HRP hh4 hh5 HO3 HO4 e5
  go_wp2_with (go_at_call 7; refine (HK.out _ HB4.out).mono ?_; rintro e w5 ⟨rfl, hb5⟩)
  go_ret
  exact ⟨rfl, HB4.out.trans (hb5.mono HB4.out.size)⟩
end Go.Proofs.YtnkpdnbnheffeaaDoor
