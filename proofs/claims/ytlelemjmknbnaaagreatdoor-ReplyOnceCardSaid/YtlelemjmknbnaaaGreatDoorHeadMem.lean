/- What the lines of a head say, in memory; the program's first. -/
import Derived.Test.YtlelemjmknbnaaaGreatDoorHeadSl
import Derived.Test.YtlelemjmknbnaaaGreatDoorRowK2
namespace Go.Proofs.YtlelemjmknbnaaaGreatDoor
open Go.RowKit

def fK : EK Fld := ⟨68, 105, 2, 32, .agg #[.string ⟨#[]⟩, .string ⟨#[]⟩], fun x => [.string ⟨x.1.toArray⟩, .string ⟨x.2.toArray⟩]⟩
theorem fOk : fK.Ok Tryz.prog := ⟨Tryz.underlying68, by kernel_rfl, rfl, by decide, by decide, fun _ => rfl, fun x u hu => by simp [fK] at hu; rcases hu with rfl | rfl <;> rfl⟩
def sK : EK (List UInt8) := ⟨41, 9, 1, 16, .string ⟨#[]⟩, fun x => [.string ⟨x.toArray⟩]⟩
theorem sOk : sK.Ok Tryz.prog := ⟨Tryz.underlying41, by kernel_rfl, rfl, by decide, by decide, fun _ => rfl, fun x u hu => by simp [sK] at hu; rcases hu with rfl; rfl⟩
/-- The lines at p. -/
structure Lin (w : World) (p : Nat) (old : Bool) (st : Nat) (v : Value) (fs : List Fld) (sz : Nat) : Prop where
  head : w.heap[p]? = some (.cells #[.bool old, .int .i64 (st : Int), v, .int .i64 (sz : Int)] 70 (0, 0))
  own : fK.Own (p + 1) w v fs
namespace Lin
variable {w w' : World} {p : Nat} {old : Bool} {st : Nat} {v : Value} {fs : List Fld} {sz : Nat}
theorem lt (h : Lin w p old st v fs sz) : p < w.heap.size := lt_of_block h.head
theorem cells (h : Lin w p old st v fs sz) : w.cell? ⟨p, 0, none⟩ = some (.bool old) ∧ w.cell? ⟨p, 1, none⟩ = some (.int .i64 (st : Int)) ∧ w.cell? ⟨p, 2, none⟩ = some v ∧ w.cell? ⟨p, 3, none⟩ = some (.int .i64 (sz : Int)) ∧ ∀ j, w.frozen? ⟨p, j, none⟩ = false := by
  simp [World.cell?, World.frozen?, h.head]
theorem off (h : Lin w p old st v fs sz) : ∀ g, v.ownBlock = some g → g ∉ [p] := by
  intro g hg hm
  have := (World.ownsRow.lt h.own g hg).1
  rw [List.mem_singleton] at hm
  omega
theorem turns (h : Lin w p old st v fs sz) {F : List Nat} (ht : Turns F w w') (h1 : p ∉ F) (h2 : ∀ g, v.ownBlock = some g → g ∉ F) : Lin w' p old st v fs sz :=
  ⟨(ht.block p h.lt h1).trans h.head, h.own.turns ht h2⟩
theorem below (h : Lin w p old st v fs sz) (hb : Below w.heap.size w w') : Lin w' p old st v fs sz := h.turns (F := []) (Turns.of_below hb (Nat.le_refl _)) (by simp) (by simp)
theorem setOld (h : Lin w p old st v fs sz) (o : Bool) : Lin (w.setCell ⟨p, 0, none⟩ (.bool o)) p o st v fs sz :=
  ⟨heap_setCell_same w p 0 _ _ _ h.head, h.own.turns (Turns.setCell (F := [p]) _ _ _ (List.mem_singleton.2 rfl)) h.off⟩
theorem setSt (h : Lin w p old st v fs sz) (n : Nat) : Lin (w.setCell ⟨p, 1, none⟩ (.int .i64 (n : Int))) p old n v fs sz :=
  ⟨heap_setCell_same w p 1 _ _ _ h.head, h.own.turns (Turns.setCell (F := [p]) _ _ _ (List.mem_singleton.2 rfl)) h.off⟩
theorem setSz (h : Lin w p old st v fs sz) (n : Nat) : Lin (w.setCell ⟨p, 3, none⟩ (.int .i64 (n : Int))) p old st v fs n :=
  ⟨heap_setCell_same w p 3 _ _ _ h.head, h.own.turns (Turns.setCell (F := [p]) _ _ _ (List.mem_singleton.2 rfl)) h.off⟩
end Lin
def FPost (s : List UInt8) (p : Nat) (w : World) (e : Ending) (w' : World) : Prop :=
  (e = .returned (.bool (firstL s).isSome) ∧ ∀ o st, firstL s = some (o, st) → Lin w' p o st (.slice none 0 0) [] 0) ∧ Below p w w'
theorem firstL_of {s a r d t : List UInt8} {b1 is : Bool} (h1 : Lib.cut s [32] = (a, r, b1)) (h2 : Lib.cut r [32] = (d, t, is)) : firstL s = if is = true ∧ isNum 3 3 d = true ∧ mayText t = true then (if a = t10 then some (true, numL d) else if a = t11 then some (false, numL d) else none) else none := by
  unfold firstL
  rw [h1]
  simp only []
  rw [h2]
theorem two_below (w : World) (k p : Nat) (x y : Value) : Below p w (((w.drewN k).setCell ⟨p, 1, none⟩ x).setCell ⟨p, 0, none⟩ y) :=
  by
  have hB : p ≤ p := Nat.le_refl p
  exact ((below_drewN w k).setCell hB x).setCell hB y
set_option maxRecDepth 100000 in
set_option maxHeartbeats 2000000 in
theorem first_any (s : ByteArray) (w : World) (p : Nat) (hs : s.size ≤ 1000000) (hm : MX w) (h : Lin w p false 0 (.slice none 0 0) [] 0) :
    Calls Tryz.prog 40 #[.pointer (some ⟨p, 0, none⟩), .string s] w (FPost s.data.toList p w) := by
  have HC1 := Lib.hid (cutS_any s ⟨#[32]⟩ w hs hm)
  have hl1 := cut_len (s := s.data.toList) (sep := [32])
  obtain ⟨⟨a, r, b1⟩, h1⟩ : ∃ t, t = Lib.cut s.data.toList [32] := ⟨_, rfl⟩
  change Hid (Calls Tryz.prog 52 _ _ fun e w' => e = .returned (.tuple #[.string ⟨(Lib.cut s.data.toList [32]).1.toArray⟩, .string ⟨(Lib.cut s.data.toList [32]).2.1.toArray⟩, .bool (Lib.cut s.data.toList [32]).2.2]) ∧ ∃ n, w' = w.drewN n) at HC1
  rw [← h1] at HC1 hl1
  simp only [] at HC1 hl1
  rw [← Lib.size_eq] at hl1
  have hrz : (⟨r.toArray⟩ : ByteArray).size ≤ 1000000 := by rw [Lib.size_eq]; show r.length ≤ _; omega
  have HC2 := fun n => Lib.hid (cutS_any ⟨r.toArray⟩ ⟨#[32]⟩ (w.drewN n) hrz (hm.drewN n))
  have hl2 := cut_len (s := r) (sep := [32])
  obtain ⟨⟨d, t, is⟩, h2⟩ : ∃ t, t = Lib.cut r [32] := ⟨_, rfl⟩
  change ∀ n, Hid (Calls Tryz.prog 52 _ _ fun e w' => e = .returned (.tuple #[.string ⟨(Lib.cut r [32]).1.toArray⟩, .string ⟨(Lib.cut r [32]).2.1.toArray⟩, .bool (Lib.cut r [32]).2.2]) ∧ ∃ k, w' = (w.drewN n).drewN k) at HC2
  rw [← h2] at HC2 hl2
  simp only [] at HC2 hl2
  have HF := Lib.hid (firstL_of h1.symm h2.symm)
  have hdz : (⟨d.toArray⟩ : ByteArray).size ≤ 1000000 := by rw [Lib.size_eq]; show d.length ≤ _; omega
  have htz : (⟨t.toArray⟩ : ByteArray).size ≤ 1000000 := by rw [Lib.size_eq]; show t.length ≤ _; omega
  have HD : Hid (∀ W, Calls Tryz.prog 53 #[.string ⟨d.toArray⟩, .int .i64 3, .int .i64 3] W fun e w' => e = .returned (.bool (isNum 3 3 d)) ∧ W = w') := Lib.hid fun W => isNumber_any ⟨d.toArray⟩ 3 3 W (by omega) (by omega) (by omega)
  have HT : Hid (∀ W, Calls Tryz.prog 54 #[.string ⟨t.toArray⟩] W fun e w' => e = .returned (.bool (mayText t)) ∧ W = w') := Lib.hid fun W => mayText_any ⟨t.toArray⟩ W (by omega)
  have HL := Lib.hid h
  have HNB : Hid (isNum 3 3 d = true → ∀ W, Calls Tryz.prog 45 #[.string ⟨d.toArray⟩] W fun e w' => e = .returned (.int .i64 (numL d : Int)) ∧ W = w') := Lib.hid fun hn W => number_any ⟨d.toArray⟩ W (isNum_more hn (by omega))
  have HP := Lib.hid h.lt
  obtain ⟨hc0, hc1, -, -, hfr⟩ := h.cells
  have hf0 := hfr 0
  have hf1 := hfr 1
  clear hfr h h1 h2 hl1 hl2 hrz hdz htz hm
  have hbad : is = false ∨ isNum 3 3 d = false ∨ mayText t = false ∨ (is = true ∧ isNum 3 3 d = true ∧ mayText t = true) := by
    cases is <;> cases isNum 3 3 d <;> cases mayText t <;> simp
  rcases hbad with rfl | h3 | h3 | ⟨rfl, h3, h4⟩
  · have HR := Lib.hid (show firstL s.data.toList = none by rw [HF.out]; simp)
    clear HF HD HT HNB
    go_enter Tryz.func40, Tryz.ntmps40
    go_wp2_with fail
    refine (Hid.out HC1).mono ?_
    rintro e w1 ⟨rfl, n, rfl⟩
    go_wp2_with fail
    refine (Hid.out (HC2 n)).mono ?_
    rintro e w2 ⟨rfl, n2, rfl⟩
    go_wp2
    go_ret
    exact ⟨⟨by rw [HR.out]; rfl, fun o st h => by rw [HR.out] at h; cases h⟩, below_drewN w _⟩
  · have HR := Lib.hid (show firstL s.data.toList = none by rw [HF.out, h3]; simp)
    rw [h3] at HD
    clear HF HNB HT h3
    cases is
    all_goals
      go_enter Tryz.func40, Tryz.ntmps40
      go_wp2_with fail
      refine (Hid.out HC1).mono ?_
      rintro e w1 ⟨rfl, n, rfl⟩
      go_wp2_with fail
      refine (Hid.out (HC2 n)).mono ?_
      rintro e w2 ⟨rfl, n2, rfl⟩
      go_wp2_with (refine (Hid.out HD _).mono ?_; rintro e w3 ⟨rfl, rfl⟩)
      go_ret
      exact ⟨⟨by rw [HR.out]; rfl, fun o st h => by rw [HR.out] at h; cases h⟩, below_drewN w _⟩
  · have HR := Lib.hid (show firstL s.data.toList = none by rw [HF.out, h3]; simp)
    rw [h3] at HT
    clear HF HNB h3
    generalize isNum 3 3 d = nb at HD
    cases is <;> cases nb
    all_goals
      go_enter Tryz.func40, Tryz.ntmps40
      go_wp2_with fail
      refine (Hid.out HC1).mono ?_
      rintro e w1 ⟨rfl, n, rfl⟩
      go_wp2_with fail
      refine (Hid.out (HC2 n)).mono ?_
      rintro e w2 ⟨rfl, n2, rfl⟩
      go_wp2_with (first | (go_at_call 53; refine (Hid.out HD _).mono ?_; rintro e w3 ⟨rfl, rfl⟩) | (refine (Hid.out HT _).mono ?_; rintro e w3 ⟨rfl, rfl⟩))
      go_ret
      exact ⟨⟨by rw [HR.out]; rfl, fun o st h => by rw [HR.out] at h; cases h⟩, below_drewN w _⟩
  · have HNM := Lib.hid (HNB.out h3)
    rw [h3] at HD
    rw [h4] at HT
    have HF2 := Lib.hid (show firstL s.data.toList = if a = [72, 84, 84, 80, 47, 49, 46, 48] then some (true, numL d) else if a = [72, 84, 84, 80, 47, 49, 46, 49] then some (false, numL d) else none by rw [HF.out, if_pos ⟨rfl, h3, h4⟩]; rfl)
    clear HF HNB h3 h4
    by_cases e10 : a = [72, 84, 84, 80, 47, 49, 46, 48]
    · have HR := Lib.hid (show firstL s.data.toList = some (true, numL d) by rw [HF2.out, if_pos e10])
      subst e10
      clear HF2
      go_enter Tryz.func40, Tryz.ntmps40
      go_wp2_with fail
      refine (Hid.out HC1).mono ?_
      rintro e w1 ⟨rfl, n, rfl⟩
      go_wp2_with fail
      refine (Hid.out (HC2 n)).mono ?_
      rintro e w2 ⟨rfl, n2, rfl⟩
      go_wp2_with (first | (go_at_call 53; refine (Hid.out HD _).mono ?_; rintro e w3 ⟨rfl, rfl⟩) | (go_at_call 54; refine (Hid.out HT _).mono ?_; rintro e w3 ⟨rfl, rfl⟩) | (refine (Hid.out HNM _).mono ?_; rintro e w3 ⟨rfl, rfl⟩))
      go_ret
      exact ⟨⟨by rw [HR.out]; rfl, fun o st h => by
        rw [HR.out] at h
        cases h
        exact ((HL.out.below (below_drewN w _)).setSt _).setOld _⟩, two_below w _ p _ _⟩
    · by_cases e11 : a = [72, 84, 84, 80, 47, 49, 46, 49]
      · have HR := Lib.hid (show firstL s.data.toList = some (false, numL d) by rw [HF2.out, if_neg e10, if_pos e11])
        subst e11
        clear HF2 e10
        go_enter Tryz.func40, Tryz.ntmps40
        go_wp2_with fail
        refine (Hid.out HC1).mono ?_
        rintro e w1 ⟨rfl, n, rfl⟩
        go_wp2_with fail
        refine (Hid.out (HC2 n)).mono ?_
        rintro e w2 ⟨rfl, n2, rfl⟩
        go_wp2_with (first | (go_at_call 53; refine (Hid.out HD _).mono ?_; rintro e w3 ⟨rfl, rfl⟩) | (go_at_call 54; refine (Hid.out HT _).mono ?_; rintro e w3 ⟨rfl, rfl⟩) | (refine (Hid.out HNM _).mono ?_; rintro e w3 ⟨rfl, rfl⟩))
        go_ret
        exact ⟨⟨by rw [HR.out]; rfl, fun o st h => by
          rw [HR.out] at h
          cases h
          exact ((HL.out.below (below_drewN w _)).setSt _).setOld _⟩, two_below w _ p _ _⟩
      · have HR := Lib.hid (show firstL s.data.toList = none by rw [HF2.out, if_neg e10, if_neg e11])
        have b10 : (a == [72, 84, 84, 80, 47, 49, 46, 48]) = false := by simpa using e10
        have b11 : (a == [72, 84, 84, 80, 47, 49, 46, 49]) = false := by simpa using e11
        clear HF2 e10 e11
        go_enter Tryz.func40, Tryz.ntmps40
        go_wp2_with fail
        refine (Hid.out HC1).mono ?_
        rintro e w1 ⟨rfl, n, rfl⟩
        go_wp2_with fail
        refine (Hid.out (HC2 n)).mono ?_
        rintro e w2 ⟨rfl, n2, rfl⟩
        go_wp2_with (first | (go_at_call 53; refine (Hid.out HD _).mono ?_; rintro e w3 ⟨rfl, rfl⟩) | (go_at_call 54; refine (Hid.out HT _).mono ?_; rintro e w3 ⟨rfl, rfl⟩) | (refine (Hid.out HNM _).mono ?_; rintro e w3 ⟨rfl, rfl⟩))
        go_ret
        exact ⟨⟨by rw [HR.out]; rfl, fun o st h => by rw [HR.out] at h; cases h⟩, two_below w _ p _ _⟩
end Go.Proofs.YtlelemjmknbnaaaGreatDoor
