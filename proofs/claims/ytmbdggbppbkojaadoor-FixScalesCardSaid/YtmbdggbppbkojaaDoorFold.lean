/- The contract of strings.EqualFold at a second text of small letters other than k and s, whatever the first text's bytes are. -/
import Derived.Test.YtmbdggbppbkojaaDoorFixBase
import Derived.Lib.Walk
import Derived.Lib.Strings
import Derived.Laws.Strings3
import Derived.Deep.LoopGhost
import Derived.Lib.Fold
import Derived.Lib.OthersKept
import Derived.WalkMore
import Derived.ScopeJumps
namespace Go.Proofs.YtmbdggbppbkojaaDoor
open Go.RowKit Go.Lib

/-- A scope with one label, to which the run jumps at most once, and only forward. -/
theorem wp_scope_once {P : Program} {a : Act} {w : World} {Q : Exit → Act → World → Prop} {c rest : Code} (l : Nat) (hf : findLabel c l = some rest)
    (first : c.wp P (Exit.jump l (fun a w => rest.wp P (Exit.noGoto Q) a w) Q) a w) : (Code.scope c).wp P Q a w :=
  wp_scope_jumps l _ (fun _ _ => 0) hf first fun _ _ h => wp_mono h fun e a w q => by
    cases e <;> first | exact q | exact q.elim
section
variable {l : Nat} {J : Act → World → Prop} {Q : Exit → Act → World → Prop} {a : Act} {w : World}
theorem jump_normal : Exit.jump l J Q .normal a w = Q .normal a w := rfl
theorem jump_exit (id : Nat) : Exit.jump l J Q (.exit id) a w = Q (.exit id) a w := rfl
theorem jump_ret : Exit.jump l J Q .ret a w = Q .ret a w := rfl
theorem jump_panic (ch : List PanicEntry) : Exit.jump l J Q (.panic ch) a w = Q (.panic ch) a w := rfl
end
attribute [local go_sem] jump_normal jump_exit jump_ret jump_panic

/-- A small letter other than k and s. -/
def plainLetter (c : Nat) : Prop := 97 ≤ c ∧ c ≤ 122 ∧ c ≠ 107 ∧ c ≠ 115
/-- What of the table unicode.asciiFold is read. -/
def FoldTab (w : World) : Prop := ∀ c : Nat, plainLetter c → w.cell? ⟨2, c, none⟩ = some (.int .u16 ((c : Int) - 32)) ∧ w.cell? ⟨2, c - 32, none⟩ = some (.int .u16 (c : Int))

set_option maxRecDepth 100000 in
set_option maxHeartbeats 400000 in
theorem sfold_low (c : Nat) (w : World) (hc : plainLetter c) (hT : FoldTab w) :
    Calls Tryd.prog 54 #[.int .i32 c] w fun e w' => e = .returned (.int .i32 ((c : Int) - 32)) ∧ w = w' := by
  obtain ⟨h1, h2, h3, h4⟩ := hc
  have hk := (hT c ⟨h1, h2, h3, h4⟩).1
  have hc1 : (0 : Int) ≤ c := by omega
  have hc2 : (c : Int) < 128 := by omega
  have hc3 : (97 : Int) ≤ c := by omega
  clear hT h3 h4 h1
  go_enter Tryd.func54, Tryd.ntmps54
  go_wp2
  go_ret
  exact ⟨rfl, rfl⟩
set_option maxRecDepth 100000 in
set_option maxHeartbeats 400000 in
theorem sfold_up (c : Nat) (w : World) (hc : plainLetter c) (hT : FoldTab w) :
    Calls Tryd.prog 54 #[.int .i32 ((c : Int) - 32)] w fun e w' => e = .returned (.int .i32 (c : Int)) ∧ w = w' := by
  obtain ⟨h1, h2, h3, h4⟩ := hc
  have hk := (hT c ⟨h1, h2, h3, h4⟩).2
  obtain ⟨d, rfl⟩ : ∃ d, c = d + 32 := ⟨c - 32, by omega⟩
  rw [show (((d + 32 : Nat) : Int) - 32) = (d : Int) by omega]
  rw [show d + 32 - 32 = d by omega] at hk
  have hc1 : (0 : Int) ≤ d := by omega
  have hc2 : (d : Int) < 128 := by omega
  clear hT h3 h4 h1
  go_enter Tryd.func54, Tryd.ntmps54
  go_wp2
  go_ret
  exact ⟨rfl, rfl⟩

set_option maxRecDepth 100000 in
set_option maxHeartbeats 400000 in
theorem decode_low (t : ByteArray) (w : World) (h0 : 0 < t.size) (h1 : (t[0]'h0).toNat < 128) :
    Calls Tryd.prog 53 #[.string t] w fun e w' => e = .returned (.tuple #[.int .i32 (t[0]'h0).toNat, .int .i64 1]) ∧ w = w' := by
  have he : t.toList.isEmpty = false := by
    rw [toList_data]
    cases h : t.data.toList with
    | nil => exfalso; have hz := size_eq t; rw [h] at hz; exact absurd h0 (by rw [hz]; exact Nat.lt_irrefl 0)
    | cons x l => rfl
  have h2 : ((t[0]'h0).toNat : Int) < 128 := by exact_mod_cast h1
  have h0' : (0 : Int) < t.size := by omega
  go_enter Tryd.func53, Tryd.ntmps53
  go_wp2
  go_ret2
  exact ⟨rfl, rfl⟩

set_option maxHeartbeats 8000000 in
set_option maxRecDepth 1000000 in
theorem fold_any (s t : ByteArray) (w : World) (hs : s.size < 4294967281) (hat : ∀ (j : Nat) b, t.data.toList[j]? = some b → plainLetter b.toNat) (hT : FoldTab w) (hlt : 2 < w.heap.size) :
    Calls Tryd.prog 37 #[.string s, .string t] w fun e w' => e = .returned (.bool (Lib.equalFold s.data.toList t.data.toList)) ∧ Below w.heap.size w w' := by
  have HT : Aside (∀ (j : Nat) b, t.data.toList[j]? = some b → plainLetter b.toNat) := hat
  have HF : Aside (FoldTab w) := hT
  clear hat hT
  obtain ⟨M, hM⟩ : ∃ M : Nat, min (s.size : Int) (t.size : Int) = (M : Int) := ⟨min s.size t.size, by omega⟩
  have hMs : M ≤ s.size := by omega
  have hMt : M ≤ t.size := by omega
  have hMe : M = s.size ∨ M = t.size := by omega
  go_enter Tryd.func37, Tryd.ntmps37
  go_wp2
  refine wp_scope_once 0 rfl ?_
  go_wp2
  go_loopg [5] M (fun g s5 wx => w = wx ∧ ∃ i : Nat, i + g = M ∧ s5 = .int .i64 i ∧ Lib.equalFold (s.data.toList.drop i) (t.data.toList.drop i) = Lib.equalFold s.data.toList t.data.toList)
  case atStart => exact ⟨rfl, 0, by omega, rfl, rfl⟩
  case round =>
    obtain ⟨rfl, i, hig, rfl, hinv⟩ := hrel
    have HI : Aside (Lib.equalFold (s.data.toList.drop i) (t.data.toList.drop i) = Lib.equalFold s.data.toList t.data.toList) := hinv
    clear hinv hM
    cases gk with
    | zero =>
      have hiM : ¬ ((i : Int) < (M : Int)) := by omega
      obtain rfl : i = M := by omega
      have hE : Lib.equalFold s.data.toList t.data.toList = decide (s.size = t.size) := by
        rw [← HI.out, Lib.equalFold_end _ _ (by
          rcases hMe with h | h
          · exact Or.inl (List.drop_eq_nil_of_le (by rw [← Lib.size_eq]; omega))
          · exact Or.inr (List.drop_eq_nil_of_le (by rw [← Lib.size_eq]; omega))), List.length_drop, List.length_drop, ← Lib.size_eq, ← Lib.size_eq]
        exact decide_eq_decide.2 (by omega)
      by_cases hst : s.size = t.size
      · have hb : ((s.size : Int) == (t.size : Int)) = true := beq_iff_eq.2 (by omega)
        go_wp2
        go_ret
        exact ⟨by rw [hE]; simp [hst], Below.refl _ _⟩
      · have hb : ((s.size : Int) == (t.size : Int)) = false := beq_eq_false_iff_ne.2 (by omega)
        go_wp2
        go_ret
        exact ⟨by rw [hE]; simp [hst], Below.refl _ _⟩
    | succ g =>
      have hiM : (i : Int) < (M : Int) := by omega
      have hisz : (i : Int) < (s.size : Int) := by omega
      have hitz : (i : Int) < (t.size : Int) := by omega
      obtain ⟨x, hx⟩ : ∃ x : UInt8, s[i]'(by omega) = x := ⟨_, rfl⟩
      obtain ⟨y, hy⟩ : ∃ y : UInt8, t[i]'(by omega) = y := ⟨_, rfl⟩
      have hxl : s.data.toList[i]? = some x := by rw [← hx]; exact Lib.data_getElem? s i (by omega)
      have hyl : t.data.toList[i]? = some y := by rw [← hy]; exact Lib.data_getElem? t i (by omega)
      have hyp : plainLetter y.toNat := HT.out i y hyl
      have hy128 : y.toNat < 128 := by have := hyp.2.1; omega
      have HYP : Aside (plainLetter y.toNat) := hyp
      clear hyp
      have hor : bits .or .u8 (x.toNat : Int) (y.toNat : Int) = ((x.toNat ||| y.toNat : Nat) : Int) := u8_or_nat _ _ (by have := x.toNat_lt; omega) (by omega)
      have Hx : Aside (s.data.toList[i]? = some x ∧ t.data.toList[i]? = some y) := ⟨hxl, hyl⟩
      clear hxl hyl
      by_cases hx128 : x.toNat < 128
      · have hor128 : ¬ ((128 : Int) ≤ ((x.toNat ||| y.toNat : Nat) : Int)) := by have := Nat.or_lt_two_pow (n := 7) hx128 hy128; omega
        go_wp2
        all_goals (try simp only [beq_iff_eq, beq_eq_false_iff_ne, ne_eq] at *)
        all_goals first
          | (go_roundg g
             case measure => omega
             case rel => exact ⟨rfl, i + 1, by omega, by first | rfl | simp, by rw [← HI.out, Lib.drop_at Hx.out.1, Lib.drop_at Hx.out.2, Lib.equalFold_yes _ _ _ _ (decide_eq_true (by omega))]⟩)
          | (go_ret
             refine ⟨?_, Below.refl _ _⟩
             rw [← HI.out, Lib.drop_at Hx.out.1, Lib.drop_at Hx.out.2, Lib.equalFold_no _ _ _ _ (decide_eq_false (by omega))]
             rfl)
      · have hor128 : ((128 : Int) ≤ ((x.toNat ||| y.toNat : Nat) : Int)) := by have := Nat.left_le_or (n := x.toNat) (m := y.toNat); omega
        go_wp2
        go_step3
        refine ⟨rfl, ?_⟩
        go_wp2
        have hSs : 0 < (s.extract i s.size).size := by simp; omega
        have hTs : 0 < (t.extract i t.size).size := by simp; omega
        have hS0 : (s.extract i s.size)[0]'hSs = x := by rw [← hx]; simp [ByteArray.getElem_extract]
        have hT0 : (t.extract i t.size)[0]'hTs = y := by rw [← hy]; simp [ByteArray.getElem_extract]
        have hE : Lib.equalFold s.data.toList t.data.toList = false := by
          rw [← HI.out, Lib.drop_at Hx.out.1, Lib.drop_at Hx.out.2, Lib.equalFold_no _ _ _ _ (decide_eq_false (by omega))]
        have HE := Lib.hid hE
        clear hE
        generalize s.extract i s.size = S at *
        generalize t.extract i t.size = T at *
        clear hx hy HT
        have hdec := decode_high S 0 hSs (by rw [hS0]; omega)
        go_loopw [1] (fun v wx => v = .string T ∧ wx = w.iter S 0) (fun _ _ => 0)
        case atStart => exact ⟨rfl, rfl⟩
        case round =>
          obtain ⟨rfl, rfl⟩ := hrel
          have hnx := fun ty => Lib.run_next_any_at (P := Tryd.prog) (w.iter S 0) w.heap.size S 0 ty (World.iter_heap w S 0) hSs
          have hbw : Below w.heap.size w (w.iter S 0) := (Below.refl _ _).alloc (Nat.le_refl _) _
          have hbw2 := Lib.below_iterAt hbw (k := w.heap.size) (Nat.le_refl _) S (0 + (Utf8.decode S 0).2)
          obtain ⟨W1, hW1⟩ : ∃ W1, W1 = (w.iter S 0).iterAt w.heap.size S (0 + (Utf8.decode S 0).2) := ⟨_, rfl⟩
          rw [← hW1] at hnx hbw2
          clear hW1 hbw
          have hF1 : FoldTab W1 := fun c hc => by
            have h1 := HF.out c hc
            exact ⟨(hbw2.cell (p := ⟨2, c, none⟩) hlt).trans h1.1, (hbw2.cell (p := ⟨2, c - 32, none⟩) hlt).trans h1.2⟩
          have HB2 := Lib.hid hbw2
          clear hbw2
          have HDEC := Lib.hid (decode_low T W1 hTs (by rw [hT0]; exact hy128))
          rw [hT0] at HDEC
          have HLOW := Lib.hid (sfold_low y.toNat W1 HYP.out hF1)
          have HUP := Lib.hid (sfold_up y.toNat W1 HYP.out hF1)
          clear hF1
          generalize (Utf8.decode S 0).1 = r at *
          have hr1 : (128 : Int) ≤ r := by omega
          have hyl : (97 : Int) ≤ y.toNat := by have := HYP.out.1; omega
          have hyr : ((y.toNat : Int) == (r : Int)) = false := beq_eq_false_iff_ne.2 (by omega)
          have hTz : ((T.size : Int) == 0) = false := beq_eq_false_iff_ne.2 (by omega)
          go_wp2_with fail
          refine (Hid.out HDEC).mono ?_
          rintro e w' ⟨rfl, rfl⟩
          go_wp2_with fail
          refine (Hid.out HLOW).mono ?_
          rintro e w' ⟨rfl, rfl⟩
          go_wp2_with fail
          have hyy : ((y.toNat : Int) == (y.toNat : Int)) = true := beq_iff_eq.2 rfl
          have hy32 : (((y.toNat : Int) - 32) == (y.toNat : Int)) = false := beq_eq_false_iff_ne.2 (by omega)
          have hy32r : decide (((y.toNat : Int) - 32) < (r : Int)) = true := decide_eq_true (by omega)
          go_loop [13] (fun v => v = .int .i32 ((y.toNat : Int) - 32) ∨ v = .int .i32 (y.toNat : Int)) (fun v => ((y.toNat : Int) - RowKit.intOf v).toNat)
          case atStart => exact Or.inl rfl
          case round =>
            rcases hrel with rfl | rfl
            · go_wp2_with fail
              refine (Hid.out HUP).mono ?_
              rintro e w' ⟨rfl, rfl⟩
              go_wp2_with fail
              go_round
              case rel => exact Or.inr rfl
              case measure => simp [RowKit.intOf] <;> omega
            · go_wp2_with fail
              go_ret
              exact ⟨by rw [HE.out]; rfl, HB2.out⟩
end Go.Proofs.YtmbdggbppbkojaaDoor
