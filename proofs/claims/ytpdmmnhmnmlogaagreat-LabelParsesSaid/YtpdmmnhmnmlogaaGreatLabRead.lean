/- Labels, read: the program's readLabel. -/
import Derived.Test.YtpdmmnhmnmlogaaGreatLabUnesc
import Derived.Test.YtpdmmnhmnmlogaaGreatLabName
import Derived.Deep.RegionWith
namespace Go.Proofs.YtpdmmnhmnmlogaaGreat
open Go.RowKit

/-- The library's own variable holds some number. -/
def ML (m : Int) (w : World) : Prop := w.cell? ⟨0, 0, none⟩ = some (.int .i64 m)
theorem ML.lt {m : Int} {w : World} (h : ML m w) : 0 < w.heap.size := by
  simpa using World.block_lt_of_cell? w ⟨0, 0, none⟩ h
theorem ML.below {m : Int} {w w' : World} {B : Nat} (h : ML m w) (hb : Below B w w') (hB : w.heap.size ≤ B) : ML m w' :=
  (hb.cell (p := ⟨0, 0, none⟩) (Nat.lt_of_lt_of_le h.lt hB)).trans h
theorem ML.alloc {m : Int} {w : World} (h : ML m w) (o : Obj) : ML m (w.alloc o) := cell_alloc h o
theorem cut_any (s sep : ByteArray) (m : Int) (w : World) (hs : s.size ≤ 1000000) (hm : ML m w) :
    Calls Tryz.prog 29 #[.string s, .string sep] w fun e w' => e = .returned (.tuple #[.string ⟨(Lib.cut s.data.toList sep.data.toList).1.toArray⟩, .string ⟨(Lib.cut s.data.toList sep.data.toList).2.1.toArray⟩, .bool (Lib.cut s.data.toList sep.data.toList).2.2]) ∧ ∃ n, w' = w.drewN n :=
  Tryz.strings_Cut s sep m w (by omega) hm
set_option maxHeartbeats 400000 in
theorem clone_str (s : ByteArray) (w : World) (hs : s.size ≤ 1000000) :
    Calls Tryz.prog 31 #[.string s] w fun e w' => e = .returned (.string s) ∧ Below w.heap.size w w' := by
  have HC := Lib.hid (Tryz.stringslite_Clone s w (by omega))
  go_enter Tryz.func31, Tryz.ntmps31
  go_wp2_with fail
  refine (Hid.out HC).mono ?_
  rintro e w1 ⟨rfl, hb⟩
  go_wp2
  go_ret
  exact ⟨rfl, hb⟩

theorem FaultIs.drewN {w : World} {v : Value} (h : FaultIs w v) (n : Nat) : FaultIs (w.drewN n) v := h.below (below_drewN (Below.refl _ _) n) (Nat.le_refl _)
def rdLab (s : List UInt8) : Option (Lbl × List UInt8) :=
  if (Lib.cut s [61, 34]).2.2 = true then
    match rdV (Lib.cut s [61, 34]).2.1 with
    | none => none
    | some (_, []) => none
    | some (v, _ :: rest) => some (((Lib.cut s [61, 34]).1, v), rest)
  else none
def rdOn (k : Nat) : Option (Lbl × List UInt8) → Option (List Lbl)
  | none => none
  | some (x, rest) =>
    if rest = [125] then some [x] else
      match rest with
      | [] => none
      | c :: s' => if c = 44 then (rdL k s').map fun l => x :: l else none
theorem rdL_eq (k : Nat) (s : List UInt8) : rdL (k + 1) s = rdOn k (rdLab s) := by
  rw [rdL]
  unfold rdLab
  split
  · generalize rdV (Lib.cut s [61, 34]).2.1 = o
    rcases o with _ | ⟨v, _ | ⟨c, r⟩⟩ <;> rfl
  · rfl
theorem cut_len {s sep : List UInt8} : (Lib.cut s sep).1.length ≤ s.length ∧ (Lib.cut s sep).2.1.length ≤ s.length := by
  unfold Lib.cut
  split
  · simp
    omega
  · simp
def RLPost (o : Option (Lbl × List UInt8)) (w : World) (e : Ending) (w' : World) : Prop :=
  ((∃ x r, o = some (x, r) ∧ e = .returned (.tuple #[.agg #[.string ⟨x.1.toArray⟩, .string ⟨x.2.toArray⟩], .string ⟨r.toArray⟩, .nilIface])) ∨
   (o = none ∧ ∃ u, e = .returned (.tuple #[.agg #[.string ⟨#[]⟩, .string ⟨#[]⟩], .string ⟨#[]⟩, u]) ∧ FaultIs w' u)) ∧ Below w.heap.size w w'
theorem neq_held_nil (v : Value) (w : World) : (binOp .neq 44 (.iface 61 v) .nilIface).run Tryz.prog w = .ok (.bool true) w := run_neq_held_nil (w := w) 44 61 v (by kernel_rfl)
theorem neq_nil_nil (w : World) : (binOp .neq 44 .nilIface .nilIface).run Tryz.prog w = .ok (.bool false) w := run_neq_nil_nil (w := w) 44 (by kernel_rfl)

/-- A result of two cells, set. -/
theorem res_cells {W : World} {N : Nat} {u0 u1 : Value} (x y : Value) (h0 : W.cell? ⟨N, 0, none⟩ = some u0) (h1 : W.cell? ⟨N, 1, none⟩ = some u1) :
    ((W.setCell ⟨N, 0, none⟩ x).setCell ⟨N, 1, none⟩ y).cell? ⟨N, 0, none⟩ = some x ∧ ((W.setCell ⟨N, 0, none⟩ x).setCell ⟨N, 1, none⟩ y).cell? ⟨N, 1, none⟩ = some y := by
  have e1 : (W.setCell ⟨N, 0, none⟩ x).cell? ⟨N, 0, none⟩ = some x := World.cell?_setCell_same _ _ _ h0
  have e2 : (W.setCell ⟨N, 0, none⟩ x).cell? ⟨N, 1, none⟩ = some u1 := (World.cell?_setCell_other W _ _ _ (by simp)).trans h1
  exact ⟨(World.cell?_setCell_other _ _ _ _ (by simp)).trans e1, World.cell?_setCell_same _ _ _ e2⟩
theorem fault_keep {W : World} {N : Nat} {t : ByteArray} {u0 : Value} (x y : Value) (h0 : W.cell? ⟨N, 0, none⟩ = some u0) (h1 : W.cell? ⟨N, 1, none⟩ = some (.string t)) : ∀ {n : Nat} {u : Value}, FaultN W n u → FaultN ((W.setCell ⟨N, 0, none⟩ x).setCell ⟨N, 1, none⟩ y) n u
  | 0, _, h => h
  | n + 1, _, ⟨g, u, e1, e2, e3, e4⟩ => by
    have hne : g ≠ N := by
      rintro rfl
      rw [h1] at e3
      cases n with
      | zero => cases e3; cases e4
      | succ n => obtain ⟨_, _, e5, _⟩ := e4; cases e3; cases e5
    refine ⟨g, u, e1, by simpa using e2, ?_, fault_keep x y h0 h1 e4⟩
    have a1 : (⟨N, 1, none⟩ : Addr) ≠ ⟨g, 1, none⟩ := fun h => hne (by injection h with h; exact h.symm)
    have a2 : (⟨N, 0, none⟩ : Addr) ≠ ⟨g, 1, none⟩ := by simp
    exact (World.cell?_setCell_other _ _ _ _ a1).trans ((World.cell?_setCell_other _ _ _ _ a2).trans e3)
theorem fault_on {W : World} {N p : Nat} {t : ByteArray} {u0 s u : Value} (x y : Value) (h0 : W.cell? ⟨N, 0, none⟩ = some u0) (h1 : W.cell? ⟨N, 1, none⟩ = some (.string t)) (h : FaultIs W u) (hp : p = W.heap.size) :
    FaultIs (((W.setCell ⟨N, 0, none⟩ x).setCell ⟨N, 1, none⟩ y).alloc (.cells #[s, u] 63)) (.iface 61 (.pointer (some ⟨p, 0, none⟩))) := by
  obtain ⟨n, h⟩ := h
  exact FaultIs.here (by simpa using hp) (n := n + 1) (fault_keep x y h0 h1 h)
theorem res_below {W : World} {B N : Nat} (hB : B ≤ N) (x y : Value) : Below B W ((W.setCell ⟨N, 0, none⟩ x).setCell ⟨N, 1, none⟩ y) := ((Below.refl _ _).setCell hB _).setCell hB _

set_option maxRecDepth 100000 in
set_option maxHeartbeats 4000000 in
theorem readLabel_no (s : ByteArray) (m : Int) (nm bh : List UInt8) (w : World)
    (HC : Hid (Calls Tryz.prog 29 #[.string s, .string ⟨#[61, 34]⟩] (w.alloc (.cells #[.string ⟨#[]⟩, .string ⟨#[]⟩] 42)) fun e w' => e = .returned (.tuple #[.string ⟨nm.toArray⟩, .string ⟨bh.toArray⟩, .bool false]) ∧ ∃ n, w' = (w.alloc (.cells #[.string ⟨#[]⟩, .string ⟨#[]⟩] 42)).drewN n)) :
    Calls Tryz.prog 48 #[.string s] w (RLPost none w) := by
  go_enter Tryz.func48, Tryz.ntmps48
  go_wp2_with fail
  refine (Hid.out HC).mono ?_
  rintro e w1 ⟨rfl, n, rfl⟩
  go_wp2
  exact bodyPost_ret (v := .tuple #[.agg #[.string ⟨#[]⟩, .string ⟨#[]⟩], .string ⟨#[]⟩, .iface 61 (.pointer (some ⟨w.heap.size + 1, 0, none⟩))]) (by simp [results, Tryz.f48, go_sem]) rfl
    ⟨.inr ⟨rfl, _, rfl, FaultIs.here (by simp) (n := 0) rfl⟩, Below.alloc (Below.setCell (Below.setCell (below_drewN (below_alloc (Nat.le_refl _) _) _) (by simp) _) (by simp) _) (by simp) _⟩
set_option maxRecDepth 100000 in
set_option maxHeartbeats 4000000 in
theorem readLabel_yes (s : ByteArray) (m : Int) (nm bh : List UInt8) (o : Option (Lbl × List UInt8)) (w : World) (hbh : (⟨bh.toArray⟩ : ByteArray).size ≤ 100000) (hnm : (⟨nm.toArray⟩ : ByteArray).size ≤ 1000000)
    (HC : Hid (Calls Tryz.prog 29 #[.string s, .string ⟨#[61, 34]⟩] (w.alloc (.cells #[.string ⟨#[]⟩, .string ⟨#[]⟩] 42)) fun e w' => e = .returned (.tuple #[.string ⟨nm.toArray⟩, .string ⟨bh.toArray⟩, .bool true]) ∧ ∃ n, w' = (w.alloc (.cells #[.string ⟨#[]⟩, .string ⟨#[]⟩] 42)).drewN n))
    (HOE : Hid (o = match rdV bh with
      | none => none
      | some (_, []) => none
      | some (v, _ :: rest) => some ((nm, v), rest))) :
    Calls Tryz.prog 48 #[.string s] w (RLPost o w) := by
  have hz1 := neq_held_nil
  have hz2 := neq_nil_nil
  have HRV := fun W => Lib.hid (readValue_any ⟨bh.toArray⟩ W hbh)
  have HCL := fun W => Lib.hid (clone_str ⟨nm.toArray⟩ W hnm)
  clear hbh hnm
  go_enter Tryz.func48, Tryz.ntmps48
  go_wp2_with fail
  refine (Hid.out HC).mono ?_
  rintro e w1 ⟨rfl, n, rfl⟩
  go_wp2_with fail
  refine (Hid.out (HRV _)).mono ?_
  rintro e w2 ⟨h, hb2⟩
  have HB2 := Lib.hid hb2
  have HBW := Lib.hid (below_drewN (below_alloc (w := w) (Nat.le_refl _) (.cells #[.string ⟨#[]⟩, .string ⟨#[]⟩] 42)) n)
  rcases h with ⟨v, r, ho, rfl⟩ | ⟨ho, u, rfl, hf⟩
  · cases r with
    | nil =>
      obtain rfl : o = none := by
        have h1 := HOE.out
        rw [show rdV bh = some (v, []) from ho] at h1
        exact h1
      have hrc : w2.cell? ⟨w.heap.size, 0, none⟩ = some (.string ⟨#[]⟩) := (hb2.cell (p := ⟨w.heap.size, 0, none⟩) (by simp)).trans (by simp)
      have hrc1 : w2.cell? ⟨w.heap.size, 1, none⟩ = some (.string ⟨#[]⟩) := (hb2.cell (p := ⟨w.heap.size, 1, none⟩) (by simp)).trans (by simp)
      have hrf : w2.frozen? ⟨w.heap.size, 0, none⟩ = false := (hb2.frozen (p := ⟨w.heap.size, 0, none⟩) (by simp)).trans (by simp)
      have hrf1 : w2.frozen? ⟨w.heap.size, 1, none⟩ = false := (hb2.frozen (p := ⟨w.heap.size, 1, none⟩) (by simp)).trans (by simp)
      have hlt2 : w.heap.size < w2.heap.size := by have := hb2.size; simp at this; omega
      have hA0 : ∀ o, (w2.alloc o).cell? ⟨w.heap.size, 0, none⟩ = some (.string ⟨#[]⟩) := fun o => cell_alloc hrc o
      have hA1 : ∀ o, (w2.alloc o).cell? ⟨w.heap.size, 1, none⟩ = some (.string ⟨#[]⟩) := fun o => cell_alloc hrc1 o
      have hF0 : ∀ o, (w2.alloc o).frozen? ⟨w.heap.size, 0, none⟩ = false := fun o => by rw [World.frozen?_alloc_old _ _ ⟨w.heap.size, 0, none⟩ (Nat.ne_of_lt hlt2)]; exact hrf
      have hF1 : ∀ o, (w2.alloc o).frozen? ⟨w.heap.size, 1, none⟩ = false := fun o => by rw [World.frozen?_alloc_old _ _ ⟨w.heap.size, 1, none⟩ (Nat.ne_of_lt hlt2)]; exact hrf1
      clear hb2 ho
      go_wp2
      exact bodyPost_ret (v := .tuple #[.agg #[.string ⟨#[]⟩, .string ⟨#[]⟩], .string ⟨#[]⟩, .iface 61 (.pointer (some ⟨w2.heap.size, 0, none⟩))]) (by
          obtain ⟨e0, e1⟩ := res_cells (.string ⟨#[]⟩) (.string ⟨#[]⟩) hrc hrc1
          have f0 := fun o => cell_alloc e0 o
          have f1 := fun o => cell_alloc e1 o
          simp [results, Tryz.f48, go_sem, e0, e1, f0, f1]) rfl
        ⟨.inr ⟨rfl, _, rfl, FaultIs.here (by simp) (n := 0) rfl⟩, ((HBW.out.trans (HB2.out.mono (by simp))).trans (res_below (Nat.le_refl _) _ _)).alloc (by simp; omega) _⟩
    | cons c r =>
      obtain rfl : o = some ((nm, v), r) := by
        have h1 := HOE.out
        rw [show rdV bh = some (v, c :: r) from ho] at h1
        exact h1
      have hrc : w2.cell? ⟨w.heap.size, 0, none⟩ = some (.string ⟨#[]⟩) := (hb2.cell (p := ⟨w.heap.size, 0, none⟩) (by simp)).trans (by simp)
      have hrc1 : w2.cell? ⟨w.heap.size, 1, none⟩ = some (.string ⟨#[]⟩) := (hb2.cell (p := ⟨w.heap.size, 1, none⟩) (by simp)).trans (by simp)
      have hrf : w2.frozen? ⟨w.heap.size, 0, none⟩ = false := (hb2.frozen (p := ⟨w.heap.size, 0, none⟩) (by simp)).trans (by simp)
      have hrf1 : w2.frozen? ⟨w.heap.size, 1, none⟩ = false := (hb2.frozen (p := ⟨w.heap.size, 1, none⟩) (by simp)).trans (by simp)
      have hlt2 : w.heap.size < w2.heap.size := by have := hb2.size; simp at this; omega
      have hA0 : ∀ o, (w2.alloc o).cell? ⟨w.heap.size, 0, none⟩ = some (.string ⟨#[]⟩) := fun o => cell_alloc hrc o
      have hA1 : ∀ o, (w2.alloc o).cell? ⟨w.heap.size, 1, none⟩ = some (.string ⟨#[]⟩) := fun o => cell_alloc hrc1 o
      have hF0 : ∀ o, (w2.alloc o).frozen? ⟨w.heap.size, 0, none⟩ = false := fun o => by rw [World.frozen?_alloc_old _ _ ⟨w.heap.size, 0, none⟩ (Nat.ne_of_lt hlt2)]; exact hrf
      have hF1 : ∀ o, (w2.alloc o).frozen? ⟨w.heap.size, 1, none⟩ = false := fun o => by rw [World.frozen?_alloc_old _ _ ⟨w.heap.size, 1, none⟩ (Nat.ne_of_lt hlt2)]; exact hrf1
      clear hb2 ho
      have he1 : (⟨(c :: r).toArray⟩ : ByteArray).toList = c :: r := by rw [Lib.toList_data]
      have he2 : (⟨(c :: r).toArray⟩ : ByteArray).toList.isEmpty = false := by rw [he1]; rfl
      have hx : (⟨(c :: r).toArray⟩ : ByteArray).extract 1 (⟨(c :: r).toArray⟩ : ByteArray).size = ⟨r.toArray⟩ := ba_eq (by rw [Lib.extract_to_end]; rfl)
      have hp : (1 : Int) ≤ ((⟨(c :: r).toArray⟩ : ByteArray).size : Int) := by rw [Lib.size_eq]; simp; omega
      generalize (⟨(c :: r).toArray⟩ : ByteArray) = rs at he1 he2 hx hp ⊢
      go_wp2
      go_region_with (first | (go_at_call 31; refine (Hid.out (HCL _)).mono ?_; rintro e w3 ⟨rfl, hb3⟩; have HB3 := Lib.hid hb3; have kc0 := (hb3.cell (p := ⟨w.heap.size, 0, none⟩) hlt2).trans hrc; have kc1 := (hb3.cell (p := ⟨w.heap.size, 1, none⟩) hlt2).trans hrc1; have kf0 := (hb3.frozen (p := ⟨w.heap.size, 0, none⟩) hlt2).trans hrf; have kf1 := (hb3.frozen (p := ⟨w.heap.size, 1, none⟩) hlt2).trans hrf1; clear hb3))
      all_goals
        go_wp2
        obtain ⟨e0, e1⟩ := res_cells (.string ⟨nm.toArray⟩) (.string ⟨v.toArray⟩) kc0 kc1
        refine bodyPost_ret (v := .tuple #[.agg #[.string ⟨nm.toArray⟩, .string ⟨v.toArray⟩], .string ⟨r.toArray⟩, .nilIface]) (by simp [results, Tryz.f48, go_sem, e0, e1, hx]) rfl ⟨.inl ⟨_, _, rfl, rfl⟩, ?_⟩
        have hA : Below w.heap.size w w2 := HBW.out.trans (HB2.out.mono (by simp))
        have hB : Below w.heap.size w w3 := by first | exact hA.trans (HB3.out.mono (Nat.le_of_lt hlt2)) | exact hA.drew.trans (HB3.out.mono (Nat.le_of_lt hlt2)) | exact (below_drewN hA _).trans (HB3.out.mono (Nat.le_of_lt hlt2))
        exact hB.trans (res_below (Nat.le_refl _) _ _)
  · obtain rfl : o = none := by
      have h1 := HOE.out
      rw [show rdV bh = none from ho] at h1
      exact h1
    obtain ⟨g, rfl⟩ := hf.form
    have HF := Lib.hid hf
    have hrc : w2.cell? ⟨w.heap.size, 0, none⟩ = some (.string ⟨#[]⟩) := (hb2.cell (p := ⟨w.heap.size, 0, none⟩) (by simp)).trans (by simp)
    have hrc1 : w2.cell? ⟨w.heap.size, 1, none⟩ = some (.string ⟨#[]⟩) := (hb2.cell (p := ⟨w.heap.size, 1, none⟩) (by simp)).trans (by simp)
    have hrf : w2.frozen? ⟨w.heap.size, 0, none⟩ = false := (hb2.frozen (p := ⟨w.heap.size, 0, none⟩) (by simp)).trans (by simp)
    have hrf1 : w2.frozen? ⟨w.heap.size, 1, none⟩ = false := (hb2.frozen (p := ⟨w.heap.size, 1, none⟩) (by simp)).trans (by simp)
    have hlt2 : w.heap.size < w2.heap.size := by have := hb2.size; simp at this; omega
    have hA0 : ∀ o, (w2.alloc o).cell? ⟨w.heap.size, 0, none⟩ = some (.string ⟨#[]⟩) := fun o => cell_alloc hrc o
    have hA1 : ∀ o, (w2.alloc o).cell? ⟨w.heap.size, 1, none⟩ = some (.string ⟨#[]⟩) := fun o => cell_alloc hrc1 o
    have hF0 : ∀ o, (w2.alloc o).frozen? ⟨w.heap.size, 0, none⟩ = false := fun o => by rw [World.frozen?_alloc_old _ _ ⟨w.heap.size, 0, none⟩ (Nat.ne_of_lt hlt2)]; exact hrf
    have hF1 : ∀ o, (w2.alloc o).frozen? ⟨w.heap.size, 1, none⟩ = false := fun o => by rw [World.frozen?_alloc_old _ _ ⟨w.heap.size, 1, none⟩ (Nat.ne_of_lt hlt2)]; exact hrf1
    clear hb2 ho hf
    go_wp2
    exact bodyPost_ret (v := .tuple #[.agg #[.string ⟨#[]⟩, .string ⟨#[]⟩], .string ⟨#[]⟩, .iface 61 (.pointer (some ⟨w2.heap.size, 0, none⟩))]) (by
        obtain ⟨e0, e1⟩ := res_cells (.string ⟨#[]⟩) (.string ⟨#[]⟩) hrc hrc1
        have f0 := fun o => cell_alloc e0 o
        have f1 := fun o => cell_alloc e1 o
        simp [results, Tryz.f48, go_sem, e0, e1, f0, f1]) rfl
      ⟨.inr ⟨rfl, _, rfl, fault_on _ _ hrc hrc1 HF.out rfl⟩, ((HBW.out.trans (HB2.out.mono (by simp))).trans (res_below (Nat.le_refl _) _ _)).alloc (by simp; omega) _⟩
theorem readLabel_any (s : ByteArray) (m : Int) (w : World) (hs : s.size ≤ 100000) (hm : ML m w) :
    Calls Tryz.prog 48 #[.string s] w (RLPost (rdLab s.data.toList) w) := by
  have HC := Lib.hid (cut_any s ⟨#[61, 34]⟩ m (w.alloc (.cells #[.string ⟨#[]⟩, .string ⟨#[]⟩] 42)) (by omega) (hm.alloc _))
  change Hid (Calls Tryz.prog 29 _ _ fun e w' => e = .returned (.tuple #[.string ⟨(Lib.cut s.data.toList [61, 34]).1.toArray⟩, .string ⟨(Lib.cut s.data.toList [61, 34]).2.1.toArray⟩, .bool (Lib.cut s.data.toList [61, 34]).2.2]) ∧ ∃ n, w' = (w.alloc (.cells #[.string ⟨#[]⟩, .string ⟨#[]⟩] 42)).drewN n) at HC
  have HL := cut_len (s := s.data.toList) (sep := [61, 34])
  unfold rdLab
  generalize Lib.cut s.data.toList [61, 34] = t at HC HL ⊢
  obtain ⟨nm, bh, ok⟩ := t
  simp only at HC HL ⊢
  rw [← Lib.size_eq] at HL
  cases ok with
  | false => exact readLabel_no s m nm bh w HC
  | true => exact readLabel_yes s m nm bh _ w (by rw [Lib.size_eq]; show bh.length ≤ _; omega) (by rw [Lib.size_eq]; show nm.length ≤ _; omega) HC (Lib.hid rfl)
end Go.Proofs.YtpdmmnhmnmlogaaGreat
