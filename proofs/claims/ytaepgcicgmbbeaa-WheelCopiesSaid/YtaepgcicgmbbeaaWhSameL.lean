/- The program's Same, of any two wheels. -/
import Derived.Test.YtaepgcicgmbbeaaWhSame
namespace Go.Proofs.Ytaepgcicgmbbeaa
open Go.RowKit

section
variable {B1 B2 : Nat} {w : World} {b1 b2 : Nat} {T1 T2 : Int} {L1 L2 : List Fi} {F1 F2 : List Nat}
set_option maxRecDepth 100000 in
set_option maxHeartbeats 4000000 in
theorem same_laid {bs bp : Nat} {S : Sl} {P : Pc} (h1 : WhAt B1 w b1 T1 L1 F1) (h2 : WhAt B2 w b2 T2 L2 F2) (h3 : Laid B1 w b1 T1 L1 F1 bs bp S P) (o1 : WOk T1 L1) (o2 : WOk T2 L2) (hT : T1 = T2) (hl : L1.length = L2.length) (hL : L1.length ≤ 1000) :
    Calls Try.prog 13 #[.pointer (some ⟨b1, 0, none⟩), .pointer (some ⟨b2, 0, none⟩)] w fun e w' => e = .returned (.bool (decide (L1 = L2))) ∧ Turns [] w w' := by
  have c1 := h1.cells.1
  have c2 := h2.cells.1
  have HL : Hid (∀ (p : Nat) (W : World) (q : Nat) (v : Value), (p = b1 ∧ v = .int .i64 L1.length) ∨ (p = b2 ∧ v = .int .i64 L2.length) → W = w.drewN q → Calls Try.prog 21 #[.pointer (some ⟨p, 0, none⟩)] W fun e w' => e = .returned v ∧ w' = W) := Lib.hid (by
    rintro p W q v (⟨rfl, rfl⟩ | ⟨rfl, rfl⟩) rfl
    · exact len_q h1 q
    · exact len_q h2 q)
  have e1 : (T1 != T2) = false := by simpa using hT
  have e2 : ((L1.length : Int) != (L2.length : Int)) = false := by simp; omega
  have m2 := h3.cells.2.2.1
  obtain ⟨f, hf⟩ : ∃ f : Int → Option Value, f = fun k => (P k).map placeV := ⟨_, rfl⟩
  have HF := Lib.hid (fun k => show (f k).isSome = (P k).isSome by rw [hf]; simp)
  have HMP := Lib.hid h3.places
  rw [← hf] at HMP
  have H1 := Lib.hid h1
  have H2 := Lib.hid h2
  have H3 := Lib.hid h3
  have O1 := Lib.hid o1
  have O2 := Lib.hid o2
  have HLL := Lib.hid hl
  have HLE := Lib.hid hL
  clear hf h1 h2 h3 o1 o2 hT hl hL
  go_enter Try.func13, Try.ntmps13
  go_wp2
  go_quiet ((go_at_call 21; exact Calls.quiet_of_same (HL.out _ _ _ _ (by first | exact .inl ⟨rfl, rfl⟩ | exact .inr ⟨rfl, rfl⟩) rfl)))
  obtain ⟨W0, hW0⟩ : ∃ W0, W0 = w.drewN nq := ⟨_, rfl⟩
  have t0 : Turns [] w W0 := by rw [hW0]; exact (Turns.refl [] w).drewN nq
  have m0 : W0.cell? ⟨b1, 2, none⟩ = some (.map (some bp)) := by rw [hW0]; exact m2
  have HM0 := Lib.hid (show MapV 3 aread W0 bp f L1.length from HMP.out.turns t0 (by simp))
  have HT0 := Lib.hid t0
  rw [← hW0]
  clear hW0 t0 HL c1 c2 m2
  go_wp2_with (at_range; refine wpList_range_v rfl _ 48 rfl 3 62 keyI Try.underlying48 aread bp L1.length f rfl HM0.out ?_; intro w0 hrg0 ht0 hs0)
  go_frame
  have HR0 := Lib.hid hrg0
  have HT1 := Lib.hid ht0
  clear hrg0 ht0 hs0 e1 e2 m0
  go_loopw [5] (fun _ wr => ∃ left cnt, RangeV 3 aread wr bp W0.heap.size f left cnt ∧ Hid ((∀ x ∈ L1, left x.1 = false → x ∈ L2) ∧ Turns [] W0 wr)) (fun _ wr => wr.rangeLeft bp W0.heap.size)
  case atStart =>
    refine ⟨_, _, HR0.out, Lib.hid ⟨fun x hx h => ?_, HT1.out⟩⟩
    obtain ⟨_, _, _, _, _, e⟩ := H3.out.found hx
    rw [HF.out, e] at h
    cases h
  case round =>
    obtain ⟨left, cnt, hrg, HQ⟩ := hrel
    have HRG := Lib.hid hrg
    clear hrg
    go_wp2_with (at_next; refine wpList_next_v rfl _ rfl 3 keyI Try.underlying3 aread aread_inj bp W0.heap.size f left cnt rfl HRG.out ?_ ?_)
    · intro hl0
      have HL0 := Lib.hid hl0
      clear hl0
      go_wp2
      go_ret
      have e : L1 = L2 := sub_eq O1.out O2.out HLL.out fun x hx => HQ.out.1 x hx (HL0.out x.1)
      exact ⟨by rw [decide_eq_true e]; rfl, HT0.out.then HQ.out.2⟩
    · intro x v w1 cnt1 hwx hlx hfx hrg1 hlt hg1 hs1 hen
      have T1' : Turns [] w w1 := HT0.out.then (HQ.out.2.trans hg1 fun i hi => .inr (by simp at hi; omega))
      have hxP : (P x).isSome = true := by rw [← HF.out, hfx]; rfl
      obtain ⟨q, hq⟩ := Option.isSome_iff_exists.1 hxP
      obtain ⟨v1, l1, y, hy1, hy2, hy3⟩ := (H3.out.place x q.1 q.2).1 hq
      have hyL : y ∈ L1 := ((H3.out.mem hy1 y).1 (List.mem_of_getElem? hy2)).1
      have hgx : getL x L1 = some y := getL_mem O1.out.ids hyL hy3
      have hwx' : -9223372036854775808 ≤ x ∧ x ≤ 9223372036854775807 := by have := O1.out.wf y hyL; rw [hy3] at this; exact this
      have HG1 := Lib.hid (fun W (ht : Turns [] w W) => get_any (H1.out.pre ht) O1.out.ids x hwx' (hpOf O1.out) HLE.out)
      have HG2 := Lib.hid (fun W (ht : Turns [] w W) => get_any (H2.out.pre ht) O2.out.ids x hwx' (hpOf O2.out) (by have := HLL.out; have := HLE.out; omega))
      rw [hgx] at HG1
      have HR1 := Lib.hid hrg1
      have HTT := Lib.hid T1'
      have HW1 := Lib.hid (HQ.out.2.trans hg1 fun i hi => .inr (by simp at hi; omega))
      have HLT := Lib.hid hlt
      have HY := Lib.hid (And.intro hyL (And.intro hy3 hgx))
      clear hrg1 hlt hg1 hs1 hfx hlx hwx T1' hxP hq hy1 hy2 hy3 hyL hgx
      change Hid (∀ W, Turns [] w W → Calls _ _ _ W fun e w' => e = .returned (.tuple #[.int .i64 y.2, .bool true]) ∧ Turns [] W w') at HG1
      cases hg2 : getL x L2 with
      | none =>
        rw [hg2] at HG2
        change Hid (∀ W, Turns [] w W → Calls _ _ _ W fun e w' => e = .returned (.tuple #[.int .i64 0, .bool false]) ∧ Turns [] W w') at HG2
        have HE : Hid (decide (L1 = L2) = false) := Lib.hid (by
          simp
          intro e
          have := HY.out.2.2
          rw [e, hg2] at this
          cases this)
        clear hg2
        go_wp2_with fail
        refine (HG1.out _ HTT.out).mono ?_
        rintro e w2 ⟨rfl, t2⟩
        have HT2 := Lib.hid (HTT.out.then t2)
        clear t2
        go_wp2_with fail
        refine (HG2.out _ HT2.out).mono ?_
        rintro e w3 ⟨rfl, t3⟩
        have HT3 := Lib.hid (HT2.out.then t3)
        clear t3
        go_wp2
        go_ret
        exact ⟨by rw [HE.out]; rfl, HT3.out⟩
      | some z =>
        rw [hg2] at HG2
        change Hid (∀ W, Turns [] w W → Calls _ _ _ W fun e w' => e = .returned (.tuple #[.int .i64 z.2, .bool true]) ∧ Turns [] W w') at HG2
        obtain ⟨hz1, hz2⟩ := getL_some hg2
        by_cases hyz : y.2 = z.2
        · have eb : (y.2 != z.2) = false := by simpa using hyz
          have HYZ : Hid (y ∈ L2) := Lib.hid (by
            have : y = z := Prod.ext (HY.out.2.1.trans hz2.symm) hyz
            rw [this]
            exact hz1)
          clear hg2 hz1 hz2 hyz
          go_wp2_with fail
          refine (HG1.out _ HTT.out).mono ?_
          rintro e w2 ⟨rfl, t2⟩
          have HT2 := Lib.hid (HTT.out.then t2)
          have HS2 := Lib.hid t2
          clear t2
          go_wp2_with fail
          refine (HG2.out _ HT2.out).mono ?_
          rintro e w3 ⟨rfl, t3⟩
          have HS3 := Lib.hid t3
          have HR3 := Lib.hid ((HR1.out.turns HS2.out (by simp) (by simp)).turns t3 (by simp) (by simp))
          clear t3
          go_wp2
          go_roundw
          case rel =>
            refine ⟨_, cnt1, HR3.out, Lib.hid ⟨fun a ha hla => ?_, (HW1.out.then HS2.out).then HS3.out⟩⟩
            by_cases hax : a.1 = x
            · have : a = y := O1.out.ids.eq ha HY.out.1 (hax.trans HY.out.2.1.symm)
              rw [this]
              exact HYZ.out
            · simp [hax] at hla
              exact HQ.out.1 a ha hla
          case measure =>
            rw [HR3.out.left_eq, HRG.out.left_eq]
            exact HLT.out
        · have eb : (y.2 != z.2) = true := by simpa using hyz
          have HE : Hid (decide (L1 = L2) = false) := Lib.hid (by
            simp
            intro e
            have h := HY.out.2.2
            rw [e, hg2] at h
            cases h
            exact hyz rfl)
          clear hg2 hz1 hz2 hyz
          go_wp2_with fail
          refine (HG1.out _ HTT.out).mono ?_
          rintro e w2 ⟨rfl, t2⟩
          have HT2 := Lib.hid (HTT.out.then t2)
          clear t2
          go_wp2_with fail
          refine (HG2.out _ HT2.out).mono ?_
          rintro e w3 ⟨rfl, t3⟩
          have HT3 := Lib.hid (HT2.out.then t3)
          clear t3
          go_wp2
          go_ret
          exact ⟨by rw [HE.out]; rfl, HT3.out⟩
theorem same_any (h1 : WhAt B1 w b1 T1 L1 F1) (h2 : WhAt B2 w b2 T2 L2 F2) (o1 : WOk T1 L1) (o2 : WOk T2 L2) (hL : L1.length ≤ 1000) :
    Calls Try.prog 13 #[.pointer (some ⟨b1, 0, none⟩), .pointer (some ⟨b2, 0, none⟩)] w fun e w' => e = .returned (.bool (decide (T1 = T2 ∧ L1 = L2))) ∧ Turns [] w w' := by
  by_cases hn : T1 ≠ T2 ∨ L1.length ≠ L2.length
  · have e : decide (T1 = T2 ∧ L1 = L2) = false := by
      simp only [decide_eq_false_iff_not]
      rintro ⟨a, b⟩
      rcases hn with h | h
      · exact h a
      · exact h (by rw [b])
    rw [e]
    exact same_no h1 h2 hn
  · have hT : T1 = T2 := Classical.byContradiction fun h => hn (.inl h)
    have hl : L1.length = L2.length := Classical.byContradiction fun h => hn (.inr h)
    have e : decide (T1 = T2 ∧ L1 = L2) = decide (L1 = L2) := by simp [hT]
    rw [e]
    rcases h1.2.2 with ⟨h3, h4⟩ | ⟨bs, bp, S, P, h3⟩
    · subst h4
      have h5 : L2 = [] := List.eq_nil_of_length_eq_zero hl.symm
      subst h5
      exact (same_nil0 h1 h2 h3 hT).mono fun _ _ ⟨a, b⟩ => ⟨by rw [a]; simp, b⟩
    · exact same_laid h1 h2 h3 o1 o2 hT hl hL
end
end Go.Proofs.Ytaepgcicgmbbeaa
