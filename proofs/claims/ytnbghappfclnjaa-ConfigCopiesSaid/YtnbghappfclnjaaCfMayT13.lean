/- The program's MayTarget. -/
import Derived.Test.YtnbghappfclnjaaCfMayPl
import Derived.Test.YtnbghappfclnjaaCfReqPath
import Derived.Test.YtnbghappfclnjaaCfNum
import Derived.Test.YtnbghappfclnjaaCfAll
namespace Go.Proofs.Ytnbghappfclnjaa
open Go.RowKit

set_option maxRecDepth 100000 in
set_option maxHeartbeats 1000000 in
theorem withinI_any (n a b : Int) (w : World) :
    Calls Try.prog 33 #[.int .i64 n, .int .i64 a, .int .i64 b] w fun e w' => e = .returned (.bool (decide (a ≤ n) && decide (n ≤ b))) ∧ w = w' := by
  by_cases h1 : a ≤ n
  · by_cases h2 : n ≤ b
    · have HR := Lib.hid (show (decide (a ≤ n) && decide (n ≤ b)) = true by rw [decide_eq_true h1, decide_eq_true h2]; rfl)
      go_enter Try.func33, Try.ntmps33
      go_wp2
      go_ret
      exact ⟨ret_bool' HR.out.symm, rfl⟩
    · have h2' : decide (n ≤ b) = false := decide_eq_false h2
      have HR := Lib.hid (show (decide (a ≤ n) && decide (n ≤ b)) = false by rw [h2', Bool.and_false])
      clear h2
      go_enter Try.func33, Try.ntmps33
      go_wp2
      go_ret
      exact ⟨ret_bool' HR.out.symm, rfl⟩
  · have h1' : decide (a ≤ n) = false := decide_eq_false h1
    have HR := Lib.hid (show (decide (a ≤ n) && decide (n ≤ b)) = false by rw [h1', Bool.false_and])
    clear h1
    go_enter Try.func33, Try.ntmps33
    go_wp2
    go_ret
    exact ⟨ret_bool' HR.out.symm, rfl⟩
section
variable (t : Tg) (b : Nat) (w : World)
theorem may1_any (h : TgAt w b t) : Calls Try.prog 32 #[.pointer (some ⟨b, 0, none⟩)] w fun e w' => e = .returned (.bool (decide (1 ≤ (t.job.size : Int)) && decide ((t.job.size : Int) ≤ 1024))) ∧ w = w' := by
  have HW := Lib.hid (fun W => withinI_any t.job.size 1 1024 W)
  obtain ⟨z, hz⟩ : ∃ z, z = (decide (1 ≤ (t.job.size : Int)) && decide ((t.job.size : Int) ≤ 1024)) := ⟨_, rfl⟩
  rw [← hz] at HW ⊢
  clear hz
  obtain ⟨a0, a1, a2, a3, a4⟩ := h
  go_enter Try.func32, Try.ntmps32
  go_wp2_with fail
  refine (HW.out _).mono ?_
  rintro e w1 ⟨rfl, rfl⟩
  go_wp2
  go_ret
  exact ⟨rfl, rfl⟩
theorem may2_any (h : TgAt w b t) (hs : t.size ≤ 6000) : Calls Try.prog 34 #[.pointer (some ⟨b, 0, none⟩)] w fun e w' => e = .returned (.bool (mayHost t.host.data.toList)) ∧ w = w' := by
  have HW := Lib.hid (fun W => mayHost_any t.host W (by unfold Tg.size at hs; omega))
  generalize mayHost t.host.data.toList = z at HW ⊢
  obtain ⟨a0, a1, a2, a3, a4⟩ := h
  clear hs
  go_enter Try.func34, Try.ntmps34
  go_wp2_with fail
  refine (HW.out _).mono ?_
  rintro e w1 ⟨rfl, rfl⟩
  go_wp2
  go_ret
  exact ⟨rfl, rfl⟩
theorem may3_any (h : TgAt w b t) (hs : t.size ≤ 6000) : Calls Try.prog 36 #[.pointer (some ⟨b, 0, none⟩)] w fun e w' => e = .returned (.bool (mayPath t.path.data.toList)) ∧ w = w' := by
  have HW := Lib.hid (fun W => mayPath_any t.path W (by unfold Tg.size at hs; omega))
  generalize mayPath t.path.data.toList = z at HW ⊢
  obtain ⟨a0, a1, a2, a3, a4⟩ := h
  clear hs
  go_enter Try.func36, Try.ntmps36
  go_wp2_with fail
  refine (HW.out _).mono ?_
  rintro e w1 ⟨rfl, rfl⟩
  go_wp2
  go_ret
  exact ⟨rfl, rfl⟩
theorem may4_any (h : TgAt w b t) : Calls Try.prog 38 #[.pointer (some ⟨b, 0, none⟩)] w fun e w' => e = .returned (.bool t.turnB) ∧ Below w.heap.size w w' := by
  have HW := Lib.hid (fun W => mayTurn_any t W)
  generalize t.turnB = z at HW ⊢
  obtain ⟨a0, a1, a2, a3, a4⟩ := h
  unfold Tg.val at HW
  go_enter Try.func38, Try.ntmps38
  go_wp2_with fail
  refine (HW.out _).mono ?_
  rintro e w1 ⟨rfl, hb⟩
  clear a0 a1 a2 a3 a4
  go_wp2
  go_ret
  exact ⟨rfl, hb⟩
theorem may5_any (h : TgAt w b t) : Calls Try.prog 39 #[.pointer (some ⟨b, 0, none⟩)] w fun e w' => e = .returned (.bool (decide (1 ≤ t.tm) && decide (t.tm ≤ t.iv))) ∧ w = w' := by
  have HW := Lib.hid (fun W => within64_any t.tm 1 t.iv W)
  obtain ⟨z, hz⟩ : ∃ z, z = (decide (1 ≤ t.tm) && decide (t.tm ≤ t.iv)) := ⟨_, rfl⟩
  rw [← hz] at HW ⊢
  clear hz
  obtain ⟨a0, a1, a2, a3, a4⟩ := h
  go_enter Try.func39, Try.ntmps39
  go_wp2_with fail
  refine (HW.out _).mono ?_
  rintro e w1 ⟨rfl, rfl⟩
  go_wp2
  go_ret
  exact ⟨rfl, rfl⟩
end
def may5F (b : Nat) : List (Nat × Array Value) := [(32, #[.pointer (some ⟨b, 0, none⟩)]), (34, #[.pointer (some ⟨b, 0, none⟩)]), (36, #[.pointer (some ⟨b, 0, none⟩)]), (38, #[.pointer (some ⟨b, 0, none⟩)]), (39, #[.pointer (some ⟨b, 0, none⟩)])]
def may5B (t : Tg) : List Bool := [decide (1 ≤ (t.job.size : Int)) && decide ((t.job.size : Int) ≤ 1024), mayHost t.host.data.toList, mayPath t.path.data.toList, t.turnB, decide (1 ≤ t.tm) && decide (t.tm ≤ t.iv)]
theorem may5_all (t : Tg) : (may5B t).all id = t.may := by
  have e1 : (decide (1 ≤ (t.job.size : Int)) && decide ((t.job.size : Int) ≤ 1024)) = decide (1 ≤ t.job.size ∧ t.job.size ≤ 1024) := by
    rw [Bool.eq_iff_iff]
    simp only [Bool.and_eq_true, decide_eq_true_eq]
    omega
  have e2 : t.turnB = decide (1 ≤ t.iv ∧ t.iv ≤ 1073741824) := by
    unfold Tg.turnB
    rw [Bool.eq_iff_iff]
    simp only [Bool.and_eq_true, decide_eq_true_eq]
  have e3 : (decide (1 ≤ t.tm) && decide (t.tm ≤ t.iv)) = decide (1 ≤ t.tm ∧ t.tm ≤ t.iv) := by
    rw [Bool.eq_iff_iff]
    simp only [Bool.and_eq_true, decide_eq_true_eq]
  unfold may5B Tg.may
  rw [e1, e2, e3]
  simp only [List.all_cons, List.all_nil, id, Bool.and_true, Bool.and_assoc]
theorem may5_enter (b : Nat) : ∀ f ∈ may5F b, ∀ args w, (callFunc f.1 args).run Try.prog w = .ok (.enter f.1 args) w := by
  intro f hf
  simp only [may5F, List.mem_cons, List.not_mem_nil, or_false] at hf
  rcases hf with rfl | rfl | rfl | rfl | rfl
  · exact enters_of Try.func32 (by kernel_rfl) rfl
  · exact enters_of Try.func34 (by kernel_rfl) rfl
  · exact enters_of Try.func36 (by kernel_rfl) rfl
  · exact enters_of Try.func38 (by kernel_rfl) rfl
  · exact enters_of Try.func39 (by kernel_rfl) rfl
/-- A target's box and the row of closures are there, and all ahead of them is as it was. -/
structure May5 (w : World) (t : Tg) (W : World) : Prop where
  at_ : TgAt W w.heap.size t
  more : w.heap.size + 1 < W.heap.size
  below : Below w.heap.size w W
  row : ∀ i f, (may5F w.heap.size)[i]? = some f → W.cell? ⟨w.heap.size + 1, i, none⟩ = some (.func (.func f.1) #[] f.2)
theorem May5.next {w W W' : World} {t : Tg} (h : May5 w t W) (hb : Below W.heap.size W W') : May5 w t W' :=
  ⟨h.at_.keep hb (Nat.lt_of_succ_lt h.more), Nat.lt_of_lt_of_le h.more hb.size, h.below.trans (hb.mono (Nat.le_of_lt (Nat.lt_of_succ_lt h.more))), fun i f hi => (hb.cell h.more).trans (h.row i f hi)⟩
theorem May5.calls {w : World} {t : Tg} (hs : t.size ≤ 6000) : ∀ (i : Nat) f b, (may5F w.heap.size)[i]? = some f → (may5B t)[i]? = some b → ∀ W, May5 w t W → Calls Try.prog f.1 f.2 W fun e w' => e = .returned (.bool b) ∧ May5 w t w'
  | 0, _, _, rfl, rfl, W, h => (may1_any t _ W h.at_).mono fun e w' ⟨h1, h2⟩ => ⟨h1, h2 ▸ h⟩
  | 1, _, _, rfl, rfl, W, h => (may2_any t _ W h.at_ hs).mono fun e w' ⟨h1, h2⟩ => ⟨h1, h2 ▸ h⟩
  | 2, _, _, rfl, rfl, W, h => (may3_any t _ W h.at_ hs).mono fun e w' ⟨h1, h2⟩ => ⟨h1, h2 ▸ h⟩
  | 3, _, _, rfl, rfl, W, h => (may4_any t _ W h.at_).mono fun e w' ⟨h1, h2⟩ => ⟨h1, h.next h2⟩
  | 4, _, _, rfl, rfl, W, h => (may5_any t _ W h.at_).mono fun e w' ⟨h1, h2⟩ => ⟨h1, h2 ▸ h⟩
  | _ + 5, _, _, h, _, _, _ => by cases h
theorem May5.new (w : World) (t : Tg) : May5 w t ((w.alloc (.cells #[.string t.job, .string t.host, .string t.path, .int .i64 t.iv, .int .i64 t.tm] 23)).alloc (.cells #[.func (.func 32) #[] #[.pointer (some ⟨w.heap.size, 0, none⟩)], .func (.func 34) #[] #[.pointer (some ⟨w.heap.size, 0, none⟩)], .func (.func 36) #[] #[.pointer (some ⟨w.heap.size, 0, none⟩)], .func (.func 38) #[] #[.pointer (some ⟨w.heap.size, 0, none⟩)], .func (.func 39) #[] #[.pointer (some ⟨w.heap.size, 0, none⟩)]] 24)) := by
  have hb := (Below.refl (w.alloc (.cells #[.string t.job, .string t.host, .string t.path, .int .i64 t.iv, .int .i64 t.tm] 23)).heap.size _).alloc (Nat.le_refl _) (.cells #[.func (.func 32) #[] #[.pointer (some ⟨w.heap.size, 0, none⟩)], .func (.func 34) #[] #[.pointer (some ⟨w.heap.size, 0, none⟩)], .func (.func 36) #[] #[.pointer (some ⟨w.heap.size, 0, none⟩)], .func (.func 38) #[] #[.pointer (some ⟨w.heap.size, 0, none⟩)], .func (.func 39) #[] #[.pointer (some ⟨w.heap.size, 0, none⟩)]] 24)
  refine ⟨(TgAt.new w t).keep hb (by simp), by simp, Below.box hb, fun i f hi => ?_⟩
  match i, hi with
  | 0, hi => cases hi; simp
  | 1, hi => cases hi; simp
  | 2, hi => cases hi; simp
  | 3, hi => cases hi; simp
  | 4, hi => cases hi; simp
  | i + 5, hi => cases hi
set_option maxRecDepth 100000 in
set_option maxHeartbeats 1000000 in
theorem mayT_any (t : Tg) (w : World) (hs : t.size ≤ 6000) :
    Calls Try.prog 19 #[t.val] w fun e w' => e = .returned (.bool t.may) ∧ Below w.heap.size w w' := by
  have hmf : ∀ (fn : Fn) (first cap : Array Value) (w : World), (Instr.makeFunc fn first cap).run Try.prog w = .ok (.func fn first cap) w := fun _ _ _ _ => rfl
  have HA := Lib.hid (all_any (may5F w.heap.size) (may5B t) (w.heap.size + 1) 5 (May5 w t) rfl (by simp [may5F]) (by simp [may5F]) (fun W h => h.row) (May5.calls hs) (may5_enter _) _ (May5.new w t))
  rw [may5_all] at HA
  generalize t.may = z at HA ⊢
  change Hid (Calls _ _ #[.slice (some ⟨w.heap.size + 1, 0, none⟩) 5 5] _ _) at HA
  clear hs
  obtain ⟨j, h, p, iv, tm⟩ := t
  unfold Tg.val
  go_enter Try.func19, Try.ntmps19
  go_wp2_with fail
  refine HA.out.mono ?_
  rintro e w1 ⟨rfl, h5⟩
  have HB := Lib.hid h5.below
  clear h5
  go_wp2
  go_ret
  exact ⟨rfl, HB.out⟩
end Go.Proofs.Ytnbghappfclnjaa
