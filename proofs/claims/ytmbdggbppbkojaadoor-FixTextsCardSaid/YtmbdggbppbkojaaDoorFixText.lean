/- fix.Text: the walk, and the document's text: one and the same. -/
import Derived.Test.YtmbdggbppbkojaaDoorFmtUint
import Derived.Test.YtmbdggbppbkojaaDoorText
import Derived.Deep.DeepCutAuto
import Derived.WalkSmall
namespace Go.Proofs.YtmbdggbppbkojaaDoor
open Go.RowKit Go.Lib

theorem ba_eq {T : ByteArray} {l : List UInt8} (h : T.data.toList = l) : T = ⟨l.toArray⟩ := by
  obtain ⟨⟨l'⟩⟩ := T
  simp at h
  subst h
  rfl
/-- The six digits of the part behind the point. -/
def pad6 (p : Nat) : List UInt8 := List.replicate (6 - (decDigits p).length) 48 ++ decDigits p
def fracF (p : Nat) : List UInt8 := if p = 0 then [] else 46 :: trimRightB (pad6 p) 48
def textF (n : Int) : List UInt8 := (if n < 0 then [45] else []) ++ decDigits (n.natAbs / 1000000) ++ fracF (n.natAbs % 1000000)
def textB (n : Int) : ByteArray := ⟨(textF n).toArray⟩

theorem fmtUint' (u : Nat) (x : Int) (hx : x = u) (hu64 : u < 18446744073709551616) (w : World) (htab : Lib.TabIs Tryd.prog w "internal/strconv.uint64pow10" .u64 Lib.pow10Tab) :
    Calls Tryd.prog 29 #[.int .u64 x, .int .i64 10] w fun e w' => ∃ D : ByteArray, e = .returned (.string D) ∧ (D.data.toList = decDigits u ∧ D.size = nDigits u) ∧ Below w.heap.size w w' := by
  subst hx
  exact (fmtUint u hu64 w htab).mono fun _ _ h => ⟨_, h.1, ⟨rfl, by rw [Lib.size_eq]; exact decDigits_length u⟩, h.2⟩
theorem nDigits_6 {p : Nat} (h : p < 1000000) : nDigits p ≤ 6 := by
  rcases Nat.lt_or_ge (nDigits p) 7 with h1 | h1
  · omega
  · exfalso
    have h2 : 10 ^ 6 ≤ p := by
      by_cases hp : p < 10
      · rw [nDigits_small hp] at h1; omega
      · have h3 := decDigits_length p
        rcases Nat.lt_or_ge p (10 ^ 6) with h4 | h4
        · exfalso
          have : ∀ k, p < 10 ^ (k + 1) → nDigits p ≤ k + 1 := by
            clear h h1 h3 h4 hp
            intro k
            induction k generalizing p with
            | zero => intro h; rw [nDigits_small (by omega)]; exact Nat.le_refl _
            | succ k ih =>
              intro h
              by_cases hp : p < 10
              · rw [nDigits_small hp]; omega
              · rw [nDigits_big hp]
                have := ih (p := p / 10) (by rw [Nat.pow_succ] at h; omega)
                omega
          have := this 5 (by omega)
          omega
        · exact h4
    omega
theorem tab_below {B : Nat} {w w' : World} (h : Lib.TabIs Tryd.prog w "internal/strconv.uint64pow10" .u64 Lib.pow10Tab) (hb : Below B w w') (hB : 5 < B) : Lib.TabIs Tryd.prog w' "internal/strconv.uint64pow10" .u64 Lib.pow10Tab := by
  exact var?_below hb (by kernel_rfl) hB h


theorem repeat_48 (c : Nat) : Lib.repeatL [48] c = List.replicate c 48 := by
  induction c with
  | zero => rfl
  | succ c ih => simp [Lib.repeatL, ih, List.replicate_succ]

theorem fmtUintB (u : Nat) (x : Int) (w w1 : World) (hx : x = u) (hu64 : u < 18446744073709551616) (htab : Lib.TabIs Tryd.prog w "internal/strconv.uint64pow10" .u64 Lib.pow10Tab) (hlt : 5 < w.heap.size) (hb : Below w.heap.size w w1) :
    Calls Tryd.prog 29 #[.int .u64 x, .int .i64 10] w1 fun e w' => ∃ D : ByteArray, e = .returned (.string D) ∧ (D.data.toList = decDigits u ∧ D.size = nDigits u) ∧ Below w.heap.size w w' :=
  (fmtUint' u x hx hu64 w1 (tab_below htab hb hlt)).mono fun _ _ ⟨D, h1, h2, h3⟩ => ⟨D, h1, h2, hb.trans (h3.mono hb.size)⟩
theorem repeatB (c : Nat) (x : Int) (w w1 : World) (hx : x = c) (hc : c ≤ 6) (hb : Below w.heap.size w w1) :
    Calls Tryd.prog 30 #[.string ⟨#[48]⟩, .int .i64 x] w1 fun e w' => ∃ D : ByteArray, e = .returned (.string D) ∧ (D.data.toList = List.replicate c 48 ∧ D.size = c) ∧ Below w.heap.size w w' := by
  subst hx
  refine (Tryd.strings_Repeat ⟨#[48]⟩ c w1 (by omega) (by show 1 * c ≤ _; omega)).mono fun _ _ h => ?_
  have e : Lib.repeatL (⟨#[48]⟩ : ByteArray).data.toList c = List.replicate c 48 := repeat_48 c
  exact ⟨_, h.1, ⟨e, by rw [Lib.size_eq]; show (Lib.repeatL (⟨#[48]⟩ : ByteArray).data.toList c).length = c; rw [e, List.length_replicate]⟩, hb.trans (h.2.mono hb.size)⟩
theorem trimB (T : ByteArray) (w1 : World) (hT : T.size ≤ 100) :
    Calls Tryd.prog 31 #[.string T, .string ⟨#[48]⟩] w1 fun e w' => ∃ D : ByteArray, e = .returned (.string D) ∧ (D.data.toList = trimRightB T.data.toList 48 ∧ D.size ≤ 100) ∧ w1 = w' := by
  refine (Tryd.strings_TrimRight_one T 48 (by decide) w1 (by omega)).mono fun _ _ h => ⟨_, h.1, ⟨rfl, ?_⟩, h.2.symm⟩
  rw [Lib.size_eq]
  show (trimRightB T.data.toList 48).length ≤ 100
  unfold trimRightB
  rw [List.length_reverse]
  have := (List.dropWhile_sublist (l := T.data.toList.reverse) (· == 48)).length_le
  rw [List.length_reverse, ← Lib.size_eq] at this
  omega
def TextPost (n : Int) (w : World) (e : Ending) (w' : World) : Prop := e = .returned (.string (textB n)) ∧ Below w.heap.size w w'

set_option maxHeartbeats 2000000 in
set_option maxRecDepth 100000 in
theorem text_any (n : Int) (w : World) (h0 : -9223372036854775808 ≤ n) (h1 : n ≤ 9223372036854775807)
    (htab : Lib.TabIs Tryd.prog w "internal/strconv.uint64pow10" .u64 Lib.pow10Tab) (hlt : 5 < w.heap.size) :
    Calls Tryd.prog 11 #[.int .i64 n] w (TextPost n w) := by
  have HSZ := Lib.hid (fun w => size_any n w h0 h1)
  obtain ⟨m, hm⟩ : ∃ m, n.natAbs = m := ⟨_, rfl⟩
  rw [hm] at HSZ
  have HM := Lib.hid hm
  have hm64 : m ≤ 9223372036854775808 := by omega
  have hF1 := fun w1 (hb : Below w.heap.size w w1) => fmtUintB (m / 1000000) ((m : Int) / 1000000) w w1 (by omega) (by omega) htab hlt hb
  have hF2 := fun w1 (hb : Below w.heap.size w w1) => fmtUintB (m % 1000000) ((m : Int) % 1000000) w w1 (by omega) (by omega) htab hlt hb
  have HF1 := Lib.hid hF1
  have HF2 := Lib.hid hF2
  have hq20 := nDigits_le20 (m / 1000000) (by omega)
  clear hF1 hF2 htab hm
  go_enter Tryd.func11, Tryd.ntmps11
  go_upto_if 8 with (fail)
  go_cut [3] (fun v wx => w = wx ∧ ∃ S : ByteArray, v = .string S ∧ S.size ≤ 1 ∧ Hid (S.data.toList = if n < 0 then [45] else []))
  case first =>
    by_cases hn : n < 0
    · go_wp2
      go_meet
      case rel => exact ⟨rfl, ⟨#[45]⟩, rfl, by decide, Lib.hid (by rw [if_pos (by omega)])⟩
    · go_wp2
      go_meet
      case rel => exact ⟨rfl, ⟨#[]⟩, rfl, by decide, Lib.hid (by rw [if_neg (by omega)])⟩
  case rest =>
    obtain ⟨rfl, S, rfl, hS, HS⟩ := hcut
    go_wp2_with fail
    refine (Hid.out HSZ _).mono ?_
    rintro e w1 ⟨rfl, rfl⟩
    go_wp2_with fail
    refine (Hid.out HF1 _ (Below.refl _ _)).mono ?_
    rintro e w1 ⟨D, rfl, ⟨hD, hDs⟩, hb1⟩
    have HD := Lib.hid hD
    have HB1 := Lib.hid hb1
    have hDs' : D.size ≤ 20 := by omega
    have HDs := Lib.hid hDs
    clear hD hb1 hDs
    by_cases hz : m % 1000000 = 0
    · have hz2 : ((m : Int) % 1000000 == 0) = true := beq_iff_eq.2 (by omega)
      have HE := Lib.hid (show (S ++ D : ByteArray) = textB n by
        refine ba_eq ?_
        simp only [ByteArray.data_append, Array.toList_append, HS.out, HD.out, textF, fracF, HM.out, hz]
        simp)
      clear hz
      go_wp2
      go_ret
      exact ⟨by rw [← HE.out]; rfl, HB1.out⟩
    · have hz2 : ((m : Int) % 1000000 == 0) = false := beq_eq_false_iff_ne.2 (by omega)
      have HZ := Lib.hid hz
      clear hz
      have hp6 := nDigits_6 (p := m % 1000000) (by omega)
      have hp1 := nDigits_pos (m % 1000000)
      go_wp2_with fail
      refine (Hid.out HF2 _ HB1.out).mono ?_
      rintro e w2 ⟨E, rfl, ⟨hE, hEs⟩, hb2⟩
      have HEE := Lib.hid hE
      have HB2 := Lib.hid hb2
      have hE6 : E.size ≤ 6 := by omega
      have HR := Lib.hid (repeatB (6 - E.size) (6 - (E.size : Int)) w w2 (by omega) (by omega) hb2)
      have HEs := Lib.hid hEs
      clear hE hb2 hEs
      go_wp2_with fail
      refine (Hid.out HR).mono ?_
      rintro e w3 ⟨Z, rfl, ⟨hZ, hZs⟩, hb3⟩
      have HZZ := Lib.hid hZ
      have HB3 := Lib.hid hb3
      have hZ6 : Z.size ≤ 6 := by omega
      clear hZ hb3 hZs
      have HT := Lib.hid (trimB (Z ++ E) w3 (by simp; omega))
      go_wp2_with fail
      refine (Hid.out HT).mono ?_
      rintro e w4 ⟨T, rfl, ⟨hT, hTs⟩, rfl⟩
      have HTT := Lib.hid (show (S ++ D ++ ⟨#[46]⟩ ++ T : ByteArray) = textB n by
        refine ba_eq ?_
        have hz := HZ.out
        simp only [ByteArray.data_append, Array.toList_append, HS.out, HD.out, hT, textF, fracF, HM.out, HEE.out, HZZ.out, if_neg hz, pad6, HEs.out, decDigits_length]
        simp)
      clear hT
      go_wp2_with fail
      go_ret
      exact ⟨by rw [← HTT.out]; rfl, HB3.out⟩
end Go.Proofs.YtmbdggbppbkojaaDoor
