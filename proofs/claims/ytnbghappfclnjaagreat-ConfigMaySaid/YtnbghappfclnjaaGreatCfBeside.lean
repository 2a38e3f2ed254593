/- The program's May of a config: closures that are asked in turn. -/
import Derived.Test.YtnbghappfclnjaaGreatCfMayW
import Derived.Test.YtnbghappfclnjaaGreatCfApart
import Derived.Test.YtnbghappfclnjaaGreatCfEach13
import Derived.Test.YtnbghappfclnjaaGreatCfGroup13
namespace Go.Proofs.YtnbghappfclnjaaGreat
open Go.RowKit
set_option maxRecDepth 100000
set_option maxHeartbeats 1000000
theorem bes1_any (c : Cf) (b : Nat) (w : World) (h : CfAt w b c) : Calls Tryz.prog 38 #[.pointer (some ⟨b, 0, none⟩)] w fun e w' => e = .returned (.bool (decide (1 ≤ (c.ts.length : Int)) && decide ((c.ts.length : Int) ≤ 16))) ∧ w = w' := by
  have HW := Lib.hid (fun W => withinI_any c.ts.length 1 16 W)
  obtain ⟨z, hz⟩ : ∃ z, z = (decide (1 ≤ (c.ts.length : Int)) && decide ((c.ts.length : Int) ≤ 16)) := ⟨_, rfl⟩
  rw [← hz] at HW ⊢
  clear hz
  obtain ⟨a0, a1, a2, a3, a4, a5, a6, a7, a8, a9, a10⟩ := h
  go_enter Tryz.func38, Tryz.ntmps38
  go_wp2_with fail
  refine (HW.out _).mono ?_
  rintro e w1 ⟨rfl, rfl⟩
  go_wp2
  go_ret
  exact ⟨rfl, rfl⟩
theorem bes4_any (c : Cf) (b : Nat) (w : World) (h : CfAt w b c) : Calls Tryz.prog 44 #[.pointer (some ⟨b, 0, none⟩)] w fun e w' => e = .returned (.bool (decide (1 ≤ c.win) && decide (c.win ≤ 1073741824))) ∧ w = w' := by
  have HW := Lib.hid (fun W => within64_any c.win 1 1073741824 W)
  obtain ⟨z, hz⟩ : ∃ z, z = (decide (1 ≤ c.win) && decide (c.win ≤ 1073741824)) := ⟨_, rfl⟩
  rw [← hz] at HW ⊢
  clear hz
  obtain ⟨a0, a1, a2, a3, a4, a5, a6, a7, a8, a9, a10⟩ := h
  go_enter Tryz.func44, Tryz.ntmps44
  go_wp2_with fail
  refine (HW.out _).mono ?_
  rintro e w1 ⟨rfl, rfl⟩
  go_wp2
  go_ret
  exact ⟨rfl, rfl⟩
theorem bes5_any (c : Cf) (b : Nat) (w : World) (h : CfAt w b c) : Calls Tryz.prog 45 #[.pointer (some ⟨b, 0, none⟩)] w fun e w' => e = .returned (.bool (decide (0 ≤ c.lat) && decide (c.lat ≤ 1073741824))) ∧ w = w' := by
  have HW := Lib.hid (fun W => within64_any c.lat 0 1073741824 W)
  obtain ⟨z, hz⟩ : ∃ z, z = (decide (0 ≤ c.lat) && decide (c.lat ≤ 1073741824)) := ⟨_, rfl⟩
  rw [← hz] at HW ⊢
  clear hz
  obtain ⟨a0, a1, a2, a3, a4, a5, a6, a7, a8, a9, a10⟩ := h
  go_enter Tryz.func45, Tryz.ntmps45
  go_wp2_with fail
  refine (HW.out _).mono ?_
  rintro e w1 ⟨rfl, rfl⟩
  go_wp2
  go_ret
  exact ⟨rfl, rfl⟩
theorem bes6_any (c : Cf) (b : Nat) (w : World) (h : CfAt w b c) : Calls Tryz.prog 46 #[.pointer (some ⟨b, 0, none⟩)] w fun e w' => e = .returned (.bool (decide (1 ≤ c.ser) && decide (c.ser ≤ 4096))) ∧ w = w' := by
  have HW := Lib.hid (fun W => withinI_any c.ser 1 4096 W)
  obtain ⟨z, hz⟩ : ∃ z, z = (decide (1 ≤ c.ser) && decide (c.ser ≤ 4096)) := ⟨_, rfl⟩
  rw [← hz] at HW ⊢
  clear hz
  obtain ⟨a0, a1, a2, a3, a4, a5, a6, a7, a8, a9, a10⟩ := h
  go_enter Tryz.func46, Tryz.ntmps46
  go_wp2_with fail
  refine (HW.out _).mono ?_
  rintro e w1 ⟨rfl, rfl⟩
  go_wp2
  go_ret
  exact ⟨rfl, rfl⟩
theorem bes7_any (c : Cf) (b : Nat) (w : World) (h : CfAt w b c) : Calls Tryz.prog 47 #[.pointer (some ⟨b, 0, none⟩)] w fun e w' => e = .returned (.bool (decide (1 ≤ c.wins) && decide (c.wins ≤ 64))) ∧ w = w' := by
  have HW := Lib.hid (fun W => withinI_any c.wins 1 64 W)
  obtain ⟨z, hz⟩ : ∃ z, z = (decide (1 ≤ c.wins) && decide (c.wins ≤ 64)) := ⟨_, rfl⟩
  rw [← hz] at HW ⊢
  clear hz
  obtain ⟨a0, a1, a2, a3, a4, a5, a6, a7, a8, a9, a10⟩ := h
  go_enter Tryz.func47, Tryz.ntmps47
  go_wp2_with fail
  refine (HW.out _).mono ?_
  rintro e w1 ⟨rfl, rfl⟩
  go_wp2
  go_ret
  exact ⟨rfl, rfl⟩
theorem bes8_any (c : Cf) (b : Nat) (w : World) (h : CfAt w b c) : Calls Tryz.prog 48 #[.pointer (some ⟨b, 0, none⟩)] w fun e w' => e = .returned (.bool (decide (1 ≤ c.que) && decide (c.que ≤ 64))) ∧ w = w' := by
  have HW := Lib.hid (fun W => withinI_any c.que 1 64 W)
  obtain ⟨z, hz⟩ : ∃ z, z = (decide (1 ≤ c.que) && decide (c.que ≤ 64)) := ⟨_, rfl⟩
  rw [← hz] at HW ⊢
  clear hz
  obtain ⟨a0, a1, a2, a3, a4, a5, a6, a7, a8, a9, a10⟩ := h
  go_enter Tryz.func48, Tryz.ntmps48
  go_wp2_with fail
  refine (HW.out _).mono ?_
  rintro e w1 ⟨rfl, rfl⟩
  go_wp2
  go_ret
  exact ⟨rfl, rfl⟩
theorem bes10_any (c : Cf) (b : Nat) (w : World) (h : CfAt w b c) : Calls Tryz.prog 50 #[.pointer (some ⟨b, 0, none⟩)] w fun e w' => e = .returned (.bool (decide (1 ≤ c.bod) && decide (c.bod ≤ 1048576))) ∧ w = w' := by
  have HW := Lib.hid (fun W => withinI_any c.bod 1 1048576 W)
  obtain ⟨z, hz⟩ : ∃ z, z = (decide (1 ≤ c.bod) && decide (c.bod ≤ 1048576)) := ⟨_, rfl⟩
  rw [← hz] at HW ⊢
  clear hz
  obtain ⟨a0, a1, a2, a3, a4, a5, a6, a7, a8, a9, a10⟩ := h
  go_enter Tryz.func50, Tryz.ntmps50
  go_wp2_with fail
  refine (HW.out _).mono ?_
  rintro e w1 ⟨rfl, rfl⟩
  go_wp2
  go_ret
  exact ⟨rfl, rfl⟩
theorem bes9_any (c : Cf) (b : Nat) (w : World) (h : CfAt w b c) : Calls Tryz.prog 49 #[.pointer (some ⟨b, 0, none⟩)] w fun e w' => e = .returned (.bool (decide ((c.ts.length : Int) ≤ c.con) && decide (c.con ≤ 32))) ∧ w = w' := by
  have HW := Lib.hid (fun W => withinI_any c.con c.ts.length 32 W)
  obtain ⟨z, hz⟩ : ∃ z, z = (decide ((c.ts.length : Int) ≤ c.con) && decide (c.con ≤ 32)) := ⟨_, rfl⟩
  rw [← hz] at HW ⊢
  clear hz
  obtain ⟨a0, a1, a2, a3, a4, a5, a6, a7, a8, a9, a10⟩ := h
  go_enter Tryz.func49, Tryz.ntmps49
  go_wp2_with fail
  refine (HW.out _).mono ?_
  rintro e w1 ⟨rfl, rfl⟩
  go_wp2
  go_ret
  exact ⟨rfl, rfl⟩
theorem bes11_any (c : Cf) (b : Nat) (w : World) (h : CfAt w b c) : Calls Tryz.prog 51 #[.pointer (some ⟨b, 0, none⟩)] w fun e w' => e = .returned (.bool (decide (1 ≤ c.base) && decide (c.base ≤ c.most))) ∧ w = w' := by
  have HW := Lib.hid (fun W => within64_any c.base 1 c.most W)
  obtain ⟨z, hz⟩ : ∃ z, z = (decide (1 ≤ c.base) && decide (c.base ≤ c.most)) := ⟨_, rfl⟩
  rw [← hz] at HW ⊢
  clear hz
  obtain ⟨a0, a1, a2, a3, a4, a5, a6, a7, a8, a9, a10⟩ := h
  go_enter Tryz.func51, Tryz.ntmps51
  go_wp2_with fail
  refine (HW.out _).mono ?_
  rintro e w1 ⟨rfl, rfl⟩
  go_wp2
  go_ret
  exact ⟨rfl, rfl⟩
theorem bes2_any (c : Cf) (b : Nat) (w : World) (h : CfAt w b c) (hr : tK.Reads w w.heap.size c.A c.ts) (hlen : c.ts.length ≤ 1000) (hsz : ∀ t ∈ c.ts, t.size ≤ 6000) : Calls Tryz.prog 39 #[.pointer (some ⟨b, 0, none⟩)] w fun e w' => e = .returned (.bool (c.ts.all Tg.may)) ∧ Below w.heap.size w w' := by
  have HW := Lib.hid (containsT_any c.A c.ts c.cap w hr hlen hsz)
  generalize c.ts.all Tg.may = z at HW ⊢
  clear hr hlen hsz
  obtain ⟨a0, a1, a2, a3, a4, a5, a6, a7, a8, a9, a10⟩ := h
  go_enter Tryz.func39, Tryz.ntmps39
  go_wp2_with fail
  refine HW.out.mono ?_
  rintro e w1 ⟨rfl, hb⟩
  have HB := Lib.hid hb
  clear hb a0 a1 a2 a3 a4 a5 a6 a7 a8 a9 a10
  go_wp2
  go_ret
  exact ⟨by cases z <;> rfl, HB.out⟩
theorem bes3_any (c : Cf) (b : Nat) (w : World) (h : CfAt w b c) (hr : tK.Reads w w.heap.size c.A c.ts) (hlen : c.ts.length ≤ 1000) (hsz : ∀ t ∈ c.ts, t.size ≤ 6000) : Calls Tryz.prog 42 #[.pointer (some ⟨b, 0, none⟩)] w fun e w' => e = .returned (.bool (appB c.ts)) ∧ Below w.heap.size w w' := by
  have HW := Lib.hid (apart_any c.A c.ts c.cap w hr hlen hsz)
  generalize appB c.ts = z at HW ⊢
  clear hr hlen hsz
  obtain ⟨a0, a1, a2, a3, a4, a5, a6, a7, a8, a9, a10⟩ := h
  go_enter Tryz.func42, Tryz.ntmps42
  go_wp2_with fail
  refine HW.out.mono ?_
  rintro e w1 ⟨rfl, hb⟩
  have HB := Lib.hid hb
  clear hb a0 a1 a2 a3 a4 a5 a6 a7 a8 a9 a10
  go_wp2
  go_ret
  exact ⟨rfl, HB.out⟩
theorem bes12_any (c : Cf) (b : Nat) (w : World) (h : CfAt w b c) : Calls Tryz.prog 52 #[.pointer (some ⟨b, 0, none⟩)] w fun e w' => e = .returned (.bool (decide (c.most ≤ 1073741824))) ∧ w = w' := by
  obtain ⟨a0, a1, a2, a3, a4, a5, a6, a7, a8, a9, a10⟩ := h
  go_enter Tryz.func52, Tryz.ntmps52
  go_wp2
  all_goals
    go_ret
    exact ⟨by first | rfl | simp_all, rfl⟩
def besF (b : Nat) : List (Nat × Array Value) := [(38, #[.pointer (some ⟨b, 0, none⟩)]), (39, #[.pointer (some ⟨b, 0, none⟩)]), (42, #[.pointer (some ⟨b, 0, none⟩)]), (44, #[.pointer (some ⟨b, 0, none⟩)]), (45, #[.pointer (some ⟨b, 0, none⟩)]), (46, #[.pointer (some ⟨b, 0, none⟩)]), (47, #[.pointer (some ⟨b, 0, none⟩)]), (48, #[.pointer (some ⟨b, 0, none⟩)]), (49, #[.pointer (some ⟨b, 0, none⟩)]), (50, #[.pointer (some ⟨b, 0, none⟩)]), (51, #[.pointer (some ⟨b, 0, none⟩)]), (52, #[.pointer (some ⟨b, 0, none⟩)])]
noncomputable def besB (c : Cf) : List Bool := [(decide (1 ≤ (c.ts.length : Int)) && decide ((c.ts.length : Int) ≤ 16)), c.ts.all Tg.may, appB c.ts, (decide (1 ≤ c.win) && decide (c.win ≤ 1073741824)), (decide (0 ≤ c.lat) && decide (c.lat ≤ 1073741824)), (decide (1 ≤ c.ser) && decide (c.ser ≤ 4096)), (decide (1 ≤ c.wins) && decide (c.wins ≤ 64)), (decide (1 ≤ c.que) && decide (c.que ≤ 64)), (decide ((c.ts.length : Int) ≤ c.con) && decide (c.con ≤ 32)), (decide (1 ≤ c.bod) && decide (c.bod ≤ 1048576)), (decide (1 ≤ c.base) && decide (c.base ≤ c.most)), decide (c.most ≤ 1073741824)]
theorem app_one {c : Cf} (h1 : c.ts.all Tg.may = true) (h2 : appB c.ts = true) (i : Nat) : OneOk c.ts i := by
  intro t ht
  refine ⟨List.all_eq_true.1 h1 t (List.mem_of_getElem? ht), fun k u hk hu => ?_⟩
  exact appB_iff.1 h2 i t k u (List.getElem?_eq_some_iff.1 ht).1 ht hk hu
theorem one_app {c : Cf} (h : ∀ i, OneOk c.ts i) : c.ts.all Tg.may = true ∧ appB c.ts = true := by
  refine ⟨List.all_eq_true.2 fun t ht => ?_, appB_iff.2 fun i t j u hi ht hj hu => ?_⟩
  · obtain ⟨i, hi, rfl⟩ := List.getElem_of_mem ht
    exact (h i _ (List.getElem?_eq_getElem hi)).1
  · exact (h i t ht).2 j u hj hu
theorem besB_all (c : Cf) : (besB c).all id = true ↔ ArgOk c := by
  unfold besB
  simp only [List.all_cons, List.all_nil, id, Bool.and_true, Bool.and_eq_true, decide_eq_true_eq]
  constructor
  · rintro ⟨h1, h2, h3, h4, h5, h6, h7, h8, h9, h10, h11, h12⟩
    exact ⟨by omega, app_one h2 h3, h4, h5, h11, h12, h6, h7, h8, h9, h10⟩
  · intro h
    obtain ⟨h2, h3⟩ := one_app h.ts
    have h1 := h.n
    exact ⟨by omega, h2, h3, h.win, h.lat, h.ser, h.wins, h.que, h.con, h.bod, h.base, h.most⟩
theorem besF_enter (b : Nat) : ∀ f ∈ besF b, ∀ args w, (callFunc f.1 args).run Tryz.prog w = .ok (.enter f.1 args) w := by
  intro f hf
  simp only [besF, List.mem_cons, List.not_mem_nil, or_false] at hf
  rcases hf with rfl | rfl | rfl | rfl | rfl | rfl | rfl | rfl | rfl | rfl | rfl | rfl
  · exact enters_of Tryz.func38 (by kernel_rfl) rfl
  · exact enters_of Tryz.func39 (by kernel_rfl) rfl
  · exact enters_of Tryz.func42 (by kernel_rfl) rfl
  · exact enters_of Tryz.func44 (by kernel_rfl) rfl
  · exact enters_of Tryz.func45 (by kernel_rfl) rfl
  · exact enters_of Tryz.func46 (by kernel_rfl) rfl
  · exact enters_of Tryz.func47 (by kernel_rfl) rfl
  · exact enters_of Tryz.func48 (by kernel_rfl) rfl
  · exact enters_of Tryz.func49 (by kernel_rfl) rfl
  · exact enters_of Tryz.func50 (by kernel_rfl) rfl
  · exact enters_of Tryz.func51 (by kernel_rfl) rfl
  · exact enters_of Tryz.func52 (by kernel_rfl) rfl
/-- A config's box and the row of closures are there, and all ahead of them is as it was. -/
structure Bes (w : World) (c : Cf) (W : World) : Prop where
  at_ : CfAt W w.heap.size c
  more : w.heap.size + 1 < W.heap.size
  below : Below w.heap.size w W
  row : ∀ i f, (besF w.heap.size)[i]? = some f → W.cell? ⟨w.heap.size + 1, i, none⟩ = some (.func (.func f.1) #[] f.2)
theorem Bes.next {w W W' : World} {c : Cf} (h : Bes w c W) (hb : Below W.heap.size W W') : Bes w c W' :=
  ⟨h.at_.below hb (Nat.lt_of_succ_lt h.more), Nat.lt_of_lt_of_le h.more hb.size, h.below.trans (hb.mono (Nat.le_of_lt (Nat.lt_of_succ_lt h.more))), fun i f hi => (hb.cell h.more).trans (h.row i f hi)⟩
theorem Bes.calls {w : World} {c : Cf} (hr : c.Reads w w.heap.size) (hf : c.Few) : ∀ (i : Nat) f b, (besF w.heap.size)[i]? = some f → (besB c)[i]? = some b → ∀ W, Bes w c W → Calls Tryz.prog f.1 f.2 W fun e w' => e = .returned (.bool b) ∧ Bes w c w'
  | 0, _, _, rfl, rfl, W, h => (bes1_any c _ W h.at_).mono fun e w' ⟨h1, h2⟩ => ⟨h1, h2 ▸ h⟩
  | 1, _, _, rfl, rfl, W, h => (bes2_any c _ W h.at_ ((hr.ts.below h.below).more (Nat.le_of_lt (Nat.lt_of_succ_lt h.more))) (by have := hf.ts; omega) hf.sz).mono fun e w' ⟨h1, h2⟩ => ⟨h1, h.next h2⟩
  | 2, _, _, rfl, rfl, W, h => (bes3_any c _ W h.at_ ((hr.ts.below h.below).more (Nat.le_of_lt (Nat.lt_of_succ_lt h.more))) (by have := hf.ts; omega) hf.sz).mono fun e w' ⟨h1, h2⟩ => ⟨h1, h.next h2⟩
  | 3, _, _, rfl, rfl, W, h => (bes4_any c _ W h.at_).mono fun e w' ⟨h1, h2⟩ => ⟨h1, h2 ▸ h⟩
  | 4, _, _, rfl, rfl, W, h => (bes5_any c _ W h.at_).mono fun e w' ⟨h1, h2⟩ => ⟨h1, h2 ▸ h⟩
  | 5, _, _, rfl, rfl, W, h => (bes6_any c _ W h.at_).mono fun e w' ⟨h1, h2⟩ => ⟨h1, h2 ▸ h⟩
  | 6, _, _, rfl, rfl, W, h => (bes7_any c _ W h.at_).mono fun e w' ⟨h1, h2⟩ => ⟨h1, h2 ▸ h⟩
  | 7, _, _, rfl, rfl, W, h => (bes8_any c _ W h.at_).mono fun e w' ⟨h1, h2⟩ => ⟨h1, h2 ▸ h⟩
  | 8, _, _, rfl, rfl, W, h => (bes9_any c _ W h.at_).mono fun e w' ⟨h1, h2⟩ => ⟨h1, h2 ▸ h⟩
  | 9, _, _, rfl, rfl, W, h => (bes10_any c _ W h.at_).mono fun e w' ⟨h1, h2⟩ => ⟨h1, h2 ▸ h⟩
  | 10, _, _, rfl, rfl, W, h => (bes11_any c _ W h.at_).mono fun e w' ⟨h1, h2⟩ => ⟨h1, h2 ▸ h⟩
  | 11, _, _, rfl, rfl, W, h => (bes12_any c _ W h.at_).mono fun e w' ⟨h1, h2⟩ => ⟨h1, h2 ▸ h⟩
  | _ + 12, _, _, h, _, _, _ => by cases h
theorem Bes.new (w : World) (c : Cf) : Bes w c ((w.alloc c.obj).alloc (.cells #[.func (.func 38) #[] #[.pointer (some ⟨w.heap.size, 0, none⟩)], .func (.func 39) #[] #[.pointer (some ⟨w.heap.size, 0, none⟩)], .func (.func 42) #[] #[.pointer (some ⟨w.heap.size, 0, none⟩)], .func (.func 44) #[] #[.pointer (some ⟨w.heap.size, 0, none⟩)], .func (.func 45) #[] #[.pointer (some ⟨w.heap.size, 0, none⟩)], .func (.func 46) #[] #[.pointer (some ⟨w.heap.size, 0, none⟩)], .func (.func 47) #[] #[.pointer (some ⟨w.heap.size, 0, none⟩)], .func (.func 48) #[] #[.pointer (some ⟨w.heap.size, 0, none⟩)], .func (.func 49) #[] #[.pointer (some ⟨w.heap.size, 0, none⟩)], .func (.func 50) #[] #[.pointer (some ⟨w.heap.size, 0, none⟩)], .func (.func 51) #[] #[.pointer (some ⟨w.heap.size, 0, none⟩)], .func (.func 52) #[] #[.pointer (some ⟨w.heap.size, 0, none⟩)]] 27)) := by
  have hb := (Below.refl (w.alloc c.obj).heap.size _).alloc (Nat.le_refl _) (.cells #[.func (.func 38) #[] #[.pointer (some ⟨w.heap.size, 0, none⟩)], .func (.func 39) #[] #[.pointer (some ⟨w.heap.size, 0, none⟩)], .func (.func 42) #[] #[.pointer (some ⟨w.heap.size, 0, none⟩)], .func (.func 44) #[] #[.pointer (some ⟨w.heap.size, 0, none⟩)], .func (.func 45) #[] #[.pointer (some ⟨w.heap.size, 0, none⟩)], .func (.func 46) #[] #[.pointer (some ⟨w.heap.size, 0, none⟩)], .func (.func 47) #[] #[.pointer (some ⟨w.heap.size, 0, none⟩)], .func (.func 48) #[] #[.pointer (some ⟨w.heap.size, 0, none⟩)], .func (.func 49) #[] #[.pointer (some ⟨w.heap.size, 0, none⟩)], .func (.func 50) #[] #[.pointer (some ⟨w.heap.size, 0, none⟩)], .func (.func 51) #[] #[.pointer (some ⟨w.heap.size, 0, none⟩)], .func (.func 52) #[] #[.pointer (some ⟨w.heap.size, 0, none⟩)]] 27)
  refine ⟨(CfAt.new w c).below hb (by simp), by simp, Below.box hb, fun i f hi => ?_⟩
  match i, hi with
  | 0, hi => cases hi; simp
  | 1, hi => cases hi; simp
  | 2, hi => cases hi; simp
  | 3, hi => cases hi; simp
  | 4, hi => cases hi; simp
  | 5, hi => cases hi; simp
  | 6, hi => cases hi; simp
  | 7, hi => cases hi; simp
  | 8, hi => cases hi; simp
  | 9, hi => cases hi; simp
  | 10, hi => cases hi; simp
  | 11, hi => cases hi; simp
  | i + 12, hi => cases hi
theorem beside_any (c : Cf) (w : World) (hr : c.Reads w w.heap.size) (hf : c.Few) :
    Calls Tryz.prog 26 #[c.val] w fun e w' => e = .returned (.bool ((besB c).all id)) ∧ Below w.heap.size w w' := by
  have hmf : ∀ (fn : Fn) (first cap : Array Value) (w : World), (Instr.makeFunc fn first cap).run Tryz.prog w = .ok (.func fn first cap) w := fun _ _ _ _ => rfl
  have HA := Lib.hid (all_any (besF w.heap.size) (besB c) (w.heap.size + 1) 12 (Bes w c) rfl (by simp [besF]) (by simp [besF]) (fun W h => h.row) (Bes.calls hr hf) (besF_enter _) _ (Bes.new w c))
  generalize (besB c).all id = z at HA ⊢
  change Hid (Calls _ _ #[.slice (some ⟨w.heap.size + 1, 0, none⟩) 12 12] _ _) at HA
  clear hr hf
  unfold Cf.val
  unfold Cf.obj at HA
  go_enter Tryz.func26, Tryz.ntmps26
  go_wp2_with fail
  refine HA.out.mono ?_
  rintro e w1 ⟨rfl, h5⟩
  have HB := Lib.hid h5.below
  clear h5
  go_wp2
  go_ret
  exact ⟨rfl, HB.out⟩
theorem may_any : MayP := by
  intro c w hr hf
  have HR := Lib.hid hr
  have HB := Lib.hid (CBox.callR (w := w) hr (fun W h => beside_any c W h hf))
  have HG := Lib.hid (fun (W : World) (hq : Hid (CBox w c W)) => group_any c.B c.by' c.cb W ((hr.below hq.out.below).more (Nat.le_of_lt hq.out.more)).by' (by have := hf.by'; omega) hf.szb)
  have hn := CBox.new w c
  obtain ⟨z, hz⟩ : ∃ z, z = (besB c).all id := ⟨_, rfl⟩
  rw [← hz] at HB
  obtain ⟨y, hy⟩ : ∃ y, y = byB c.by' := ⟨_, rfl⟩
  rw [← hy] at HG
  have HZ := Lib.hid (show z = true ↔ ArgOk c by rw [hz]; exact besB_all c)
  have HY := Lib.hid (show y = true ↔ ByOk c.by' by rw [hy]; exact byB_iff)
  clear hz hy hr hf
  unfold Cf.val at *
  unfold Cf.obj at hn
  go_enter Tryz.func8, Tryz.ntmps8
  go_upto_region 1 with fail
  generalize w.alloc (.cells #[.slice c.A c.ts.length c.cap, .int .i64 c.win, .int .i64 c.lat, .slice c.B c.by'.length c.cb, .int .i64 c.ser, .int .i64 c.wins, .int .i64 c.que, .int .i64 c.con, .int .i64 c.bod, .int .i64 c.base, .int .i64 c.most] 25) = w0 at hn ⊢
  have HQ0 := Lib.hid hn
  obtain ⟨a0, a1, a2, a3, a4, a5, a6, a7, a8, a9, a10⟩ := hn.at_
  clear hn
  go_wp2_with fail
  refine (HB.out _ HQ0).mono ?_
  rintro e w1 ⟨rfl, HQ1⟩
  clear a0 a1 a2 a3 a4 a5 a6 a7 a8 a9 a10
  cases z with
  | false =>
    have HM := Lib.hid (mayC_arg (c := c) (fun h => by have := HZ.out.2 h; cases this))
    go_wp2_with fail
    go_ret
    exact ⟨by rw [HM.out]; rfl, HQ1.out.below⟩
  | true =>
    obtain ⟨a0, a1, a2, a3, a4, a5, a6, a7, a8, a9, a10⟩ := HQ1.out.at_
    go_wp2_with fail
    refine (HG.out _ HQ1).mono ?_
    rintro e w2 ⟨rfl, rfl⟩
    clear a0 a1 a2 a3 a4 a5 a6 a7 a8 a9 a10
    cases y with
    | false =>
      have HM := Lib.hid (mayC_by (c := c) (HZ.out.1 (by first | rfl | trivial)) (fun h => by have := HY.out.2 h; cases this))
      go_wp2_with fail
      go_ret
      exact ⟨by rw [HM.out]; rfl, HQ1.out.below⟩
    | true =>
      have HM := Lib.hid (mayC_ok (c := c) (HZ.out.1 (by first | rfl | trivial)) (HY.out.1 (by first | rfl | trivial)))
      go_wp2_with fail
      go_ret
      exact ⟨by rw [HM.out]; rfl, HQ1.out.below⟩
end Go.Proofs.YtnbghappfclnjaaGreat
