/- The program's each, over targets and over words: a new list of copies; of nil it is nil. -/
import Derived.Test.YtnbghappfclnjaaCfTarget13
namespace Go.Proofs.Ytnbghappfclnjaa
open Go.RowKit

theorem nilT_eql (A : Option Addr) (n cap : Nat) (w : World) : (binOp .eql 35 (.slice A n cap) (.slice none 0 0)).run Try.prog w = .ok (.bool A.isNone) w := by cases A <;> kernel_rfl
theorem nilB_eql (A : Option Addr) (n cap : Nat) (w : World) : (binOp .eql 36 (.slice A n cap) (.slice none 0 0)).run Try.prog w = .ok (.bool A.isNone) w := by cases A <;> kernel_rfl
theorem slT_guard : Try.prog.eqGuardType Try.prog.depth 35 = false := by kernel_rfl
theorem slB_guard : Try.prog.eqGuardType Try.prog.depth 36 = false := by kernel_rfl
/-- A' is nil just if A is, or a row of its own, from block B on, that holds just l. -/
structure Row13 {α : Type} (K : EK α) (B : Nat) (W : World) (A A' : Option Addr) (c' : Nat) (l : List α) : Prop where
  nil : A'.isNone = A.isNone
  none_ : A' = none → l = [] ∧ c' = 0
  le : l.length ≤ c'
  few : c' ≤ 1000
  full : A' = none ∨ c' = l.length
  row : ∀ a, A' = some a → ∃ g, a = ⟨g, 0, none⟩ ∧ B ≤ g ∧ g < W.heap.size ∧ FlatAt K W g l
theorem zer_at {α : Type} {l : List α} {z : α} {k n : Nat} (h : k < l.length ∧ l.length = n) : (l.take k ++ List.replicate (n - k) z)[k]? = some z := by
  rw [List.getElem?_append_right (by rw [List.length_take]; omega), List.length_take, show min k l.length = k by omega, Nat.sub_self, List.getElem?_replicate]
  rw [if_pos (by omega)]
theorem zer_set {α : Type} {l : List α} {z t : α} {k n : Nat} (ht : l[k]? = some t) (h : k < l.length ∧ l.length = n) : (l.take k ++ List.replicate (n - k) z).set k t = l.take (k + 1) ++ List.replicate (n - (k + 1)) z := by
  rw [List.set_append_right _ _ (by rw [List.length_take]; omega), List.length_take, show min k l.length = k by omega, Nat.sub_self, show n - k = n - (k + 1) + 1 by omega, List.replicate_succ, List.set_cons_zero, List.take_add_one, ht]
  simp
set_option maxRecDepth 100000 in
set_option maxHeartbeats 4000000 in
theorem eachT_any (A : Option Addr) (l : List Tg) (cap : Nat) (w : World) (hr : tK.Reads w w.heap.size A l) (hlen : l.length ≤ 1000) (hsz : ∀ t ∈ l, t.size ≤ 6000) :
    Calls Try.prog 28 #[.slice A l.length cap, .func (.func 29) #[] #[]] w fun e w' => (∃ A' c', e = .returned (.slice A' l.length c') ∧ Row13 tK w.heap.size w' A A' c' l) ∧ Below w.heap.size w w' := by
  have hne := fun W => nilT_eql A l.length cap W
  have hgd := slT_guard
  have HR := Lib.hid hr
  have HZ := Lib.hid hsz
  clear hr hsz
  cases A with
  | none =>
    have hl : l = [] := by
      rcases HR.out with h | ⟨b, o, h, _⟩
      · exact h
      · cases h
    subst hl
    simp only [Option.isNone_none, List.length_nil] at hne ⊢
    have HE : Hid (Row13 tK w.heap.size w none none 0 ([] : List Tg)) := Lib.hid ⟨rfl, fun _ => ⟨rfl, rfl⟩, Nat.le_refl _, (by omega), .inl rfl, fun a h => (by cases h)⟩
    have HB := Lib.hid (Below.refl w.heap.size w)
    go_enter Try.func28, Try.ntmps28
    go_wp2_with fail
    go_ret
    exact ⟨⟨none, 0, rfl, HE.out⟩, HB.out⟩
  | some A =>
    simp only [Option.isNone_some] at hne
    obtain ⟨n, hn⟩ : ∃ n, n = l.length := ⟨_, rfl⟩
    rw [← hn] at hlen hne ⊢
    have HN := Lib.hid hn
    clear hn
    obtain ⟨w0, hmk, hf0, ht0⟩ := run_makeT w n hlen
    have HF0 : Hid (FlatAt tK w0 w.heap.size (l.take 0 ++ List.replicate (n - 0) tg00)) := Lib.hid (by simpa using hf0)
    have HB0 := Lib.hid (ht0.below (B := w.heap.size) (by simp) (Nat.le_refl _))
    clear hf0 ht0
    go_enter Try.func28, Try.ntmps28
    go_wp2_with fail
    go_loopw [15] (fun i wr => ∃ k : Nat, k ≤ n ∧ i = .int .i64 k ∧ Hid (Below w.heap.size w wr) ∧ Hid (FlatAt tK wr w.heap.size (l.take k ++ List.replicate (n - k) tg00))) (fun i _ => n - (intOf i).toNat)
    case atStart => exact ⟨0, Nat.zero_le _, rfl, HB0, HF0⟩
    case round =>
      obtain ⟨k, hk, rfl, HB, HF⟩ := hrel
      by_cases hlt : k < n
      · have HK := Lib.hid hlt
        have HZ0 := Lib.hid (show k < l.length ∧ l.length = n from ⟨by rw [← HN.out]; exact hlt, HN.out.symm⟩)
        obtain ⟨t, ht⟩ : ∃ t, l[k]? = some t := ⟨_, List.getElem?_eq_getElem (by rw [← HN.out]; exact hlt)⟩
        obtain ⟨b, off, hA, hb, hc⟩ := (HR.out.below HB.out).at tOk (by rw [← HN.out]; omega)
        injection hA with hA
        have c0 := hc k t ht 0 _ rfl
        have c1 := hc k t ht 1 _ rfl
        have c2 := hc k t ht 2 _ rfl
        have c3 := hc k t ht 3 _ rfl
        have c4 := hc k t ht 4 _ rfl
        simp only [tK, Nat.add_zero] at c0 c1 c2 c3 c4
        rw [← Nat.add_assoc] at c1 c2 c3 c4
        have HM := Lib.hid (fun W => copyT_any t W (HZ.out t (List.mem_of_getElem? ht)))
        unfold Tg.val at HM
        have HS := Lib.hid (zer_set (z := tg00) ht HZ0.out)
        subst hA
        clear hc ht hb
        have hlt' : (k : Int) < (n : Int) := by omega
        have hk0 : (0 : Int) ≤ (k : Int) := by omega
        have HB1 := Lib.hid (HB.out.alloc HB.out.size (.cells #[.string t.job, .string t.host, .string t.path, .int .i64 t.iv, .int .i64 t.tm] 23))
        have HF1 := Lib.hid (HF.out.turns (Turns.alloc (F := []) wr (.cells #[.string t.job, .string t.host, .string t.path, .int .i64 t.iv, .int .i64 t.tm] 23)) (by simp))
        go_wp2_with fail
        refine (HM.out _).mono ?_
        rintro e w1 ⟨rfl, hb⟩
        have HB2 := Lib.hid (HB1.out.trans (hb.mono HB1.out.size))
        have HF2 := Lib.hid (HF1.out.below hb)
        clear hb c0 c1 c2 c3 c4
        have HZC : Hid (∀ j u, (tK.enc tg00)[j]? = some u → w1.cell? ⟨w.heap.size, k * 5 + j, none⟩ = some u) := Lib.hid (fun j u hu => HF2.out.cell (EK.flat_at tOk (zer_at HZ0.out) j u hu))
        have z0 := HZC.out 0 _ rfl
        have z1 := HZC.out 1 _ rfl
        have z2 := HZC.out 2 _ rfl
        have z3 := HZC.out 3 _ rfl
        have z4 := HZC.out 4 _ rfl
        simp only [Nat.add_zero] at z0
        have zf := HF2.out.frozen
        have HB3 := Lib.hid (HB2.out.trans (Turns.below (B := w.heap.size) (putT_turns w1 w.heap.size k t) (by simp) HB2.out.size))
        have HF3 := Lib.hid (HF2.out.putT k t)
        rw [HS.out] at HF3
        unfold Go.Proofs.Ytnbghappfclnjaa.putT at HF3 HB3
        go_wp2_with fail
        go_roundw
        case rel => exact ⟨k + 1, by omega, by go_num, HB3, HF3⟩
        case measure => simp [intOf] <;> omega
      · have hge : decide ((k : Int) < (n : Int)) = false := by rw [decide_eq_false_iff_not]; omega
        have HF3 : Hid (FlatAt tK wr w.heap.size l) := Lib.hid (by
          have h1 := HF.out
          rw [List.take_of_length_le (by rw [← HN.out]; omega), show n - k = 0 by omega] at h1
          simpa using h1)
        have HE : Hid (Row13 tK w.heap.size wr (some A) (some ⟨w.heap.size, 0, none⟩) n l) := Lib.hid ⟨rfl, fun h => (by cases h), (by rw [← HN.out]; exact Nat.le_refl _), hlen, .inr HN.out, fun a h => (by cases h; exact ⟨w.heap.size, rfl, Nat.le_refl _, HF3.out.lt, HF3.out⟩)⟩
        go_wp2_with fail
        go_ret
        exact ⟨⟨some ⟨w.heap.size, 0, none⟩, n, rfl, HE.out⟩, HB.out⟩
set_option maxRecDepth 100000 in
set_option maxHeartbeats 4000000 in
theorem eachB_any (A : Option Addr) (l : List ByteArray) (cap : Nat) (w : World) (hr : bK.Reads w w.heap.size A l) (hlen : l.length ≤ 1000) (hsz : ∀ t ∈ l, t.size ≤ 6000) :
    Calls Try.prog 30 #[.slice A l.length cap, .func (.func 23) #[] #[]] w fun e w' => (∃ A' c', e = .returned (.slice A' l.length c') ∧ Row13 bK w.heap.size w' A A' c' l) ∧ Below w.heap.size w w' := by
  have hne := fun W => nilB_eql A l.length cap W
  have hgd := slB_guard
  have HR := Lib.hid hr
  have HZ := Lib.hid hsz
  clear hr hsz
  cases A with
  | none =>
    have hl : l = [] := by
      rcases HR.out with h | ⟨b, o, h, _⟩
      · exact h
      · cases h
    subst hl
    simp only [Option.isNone_none, List.length_nil] at hne ⊢
    have HE : Hid (Row13 bK w.heap.size w none none 0 ([] : List ByteArray)) := Lib.hid ⟨rfl, fun _ => ⟨rfl, rfl⟩, Nat.le_refl _, (by omega), .inl rfl, fun a h => (by cases h)⟩
    have HB := Lib.hid (Below.refl w.heap.size w)
    go_enter Try.func30, Try.ntmps30
    go_wp2_with fail
    go_ret
    exact ⟨⟨none, 0, rfl, HE.out⟩, HB.out⟩
  | some A =>
    simp only [Option.isNone_some] at hne
    obtain ⟨n, hn⟩ : ∃ n, n = l.length := ⟨_, rfl⟩
    rw [← hn] at hlen hne ⊢
    have HN := Lib.hid hn
    clear hn
    obtain ⟨w0, hmk, hf0, ht0⟩ := run_makeB w n hlen
    have HF0 : Hid (FlatAt bK w0 w.heap.size (l.take 0 ++ List.replicate (n - 0) ⟨#[]⟩)) := Lib.hid (by simpa using hf0)
    have HB0 := Lib.hid (ht0.below (B := w.heap.size) (by simp) (Nat.le_refl _))
    clear hf0 ht0
    go_enter Try.func30, Try.ntmps30
    go_wp2_with fail
    go_loopw [15] (fun i wr => ∃ k : Nat, k ≤ n ∧ i = .int .i64 k ∧ Hid (Below w.heap.size w wr) ∧ Hid (FlatAt bK wr w.heap.size (l.take k ++ List.replicate (n - k) ⟨#[]⟩))) (fun i _ => n - (intOf i).toNat)
    case atStart => exact ⟨0, Nat.zero_le _, rfl, HB0, HF0⟩
    case round =>
      obtain ⟨k, hk, rfl, HB, HF⟩ := hrel
      by_cases hlt : k < n
      · have HK := Lib.hid hlt
        have HZ0 := Lib.hid (show k < l.length ∧ l.length = n from ⟨by rw [← HN.out]; exact hlt, HN.out.symm⟩)
        obtain ⟨t, ht⟩ : ∃ t, l[k]? = some t := ⟨_, List.getElem?_eq_getElem (by rw [← HN.out]; exact hlt)⟩
        obtain ⟨b, off, hA, hb, hc⟩ := (HR.out.below HB.out).at bOk (by rw [← HN.out]; omega)
        injection hA with hA
        have c0 := hc k t ht 0 _ rfl
        simp only [bK, Nat.add_zero, Nat.mul_one] at c0
        have HM := Lib.hid (fun W => clone_str t W (by have := HZ.out t (List.mem_of_getElem? ht); omega))
        have HS := Lib.hid (zer_set (z := ⟨#[]⟩) ht HZ0.out)
        subst hA
        clear hc ht hb
        have hlt' : (k : Int) < (n : Int) := by omega
        have hk0 : (0 : Int) ≤ (k : Int) := by omega
        go_wp2_with fail
        refine (HM.out _).mono ?_
        rintro e w1 ⟨rfl, hb⟩
        have HB2 := Lib.hid (HB.out.trans (hb.mono HB.out.size))
        have HF2 := Lib.hid (HF.out.below hb)
        clear hb c0
        have z0 := HF2.out.cell (EK.flat_at bOk (zer_at HZ0.out) 0 _ rfl)
        simp only [bK, Nat.add_zero, Nat.mul_one] at z0
        have zf := HF2.out.frozen
        have HB3 := Lib.hid (HB2.out.trans (Turns.below (B := w.heap.size) (Turns.setCell (F := [w.heap.size]) w1 ⟨w.heap.size, k, none⟩ (.string t) (by simp)) (by simp) HB2.out.size))
        have HF3 := Lib.hid (HF2.out.putB k t)
        rw [HS.out] at HF3
        skip
        go_wp2_with fail
        go_roundw
        case rel => exact ⟨k + 1, by omega, by go_num, HB3, HF3⟩
        case measure => simp [intOf] <;> omega
      · have hge : decide ((k : Int) < (n : Int)) = false := by rw [decide_eq_false_iff_not]; omega
        have HF3 : Hid (FlatAt bK wr w.heap.size l) := Lib.hid (by
          have h1 := HF.out
          rw [List.take_of_length_le (by rw [← HN.out]; omega), show n - k = 0 by omega] at h1
          simpa using h1)
        have HE : Hid (Row13 bK w.heap.size wr (some A) (some ⟨w.heap.size, 0, none⟩) n l) := Lib.hid ⟨rfl, fun h => (by cases h), (by rw [← HN.out]; exact Nat.le_refl _), hlen, .inr HN.out, fun a h => (by cases h; exact ⟨w.heap.size, rfl, Nat.le_refl _, HF3.out.lt, HF3.out⟩)⟩
        go_wp2_with fail
        go_ret
        exact ⟨⟨some ⟨w.heap.size, 0, none⟩, n, rfl, HE.out⟩, HB.out⟩
end Go.Proofs.Ytnbghappfclnjaa
