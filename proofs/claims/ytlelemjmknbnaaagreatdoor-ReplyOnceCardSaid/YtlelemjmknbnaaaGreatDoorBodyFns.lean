/- The decoder's small calls. -/
import Derived.Test.YtlelemjmknbnaaaGreatDoorBodyMem
namespace Go.Proofs.YtlelemjmknbnaaaGreatDoor
open Go.RowKit

theorem st_nilF (P : Program) (a : Addr) (m : Mode) (w : World) : (store a .nilFunc m).run P w = stored P w a .nilFunc m := run_store P w a _ m rfl
theorem st_func (P : Program) (a : Addr) (f : Fn) (x y : Array Value) (m : Mode) (w : World) : (store a (.func f x y) m).run P w = stored P w a (.func f x y) m := run_store P w a _ m rfl
theorem equalIn_nilF (d : Nat) (w : World) : (Op.equalIn (d + 1) 58 .nilFunc .nilFunc).run Tryz.prog w = .ok true w := by
  simp [Op.equalIn, run_underlying Tryz.underlying58]
theorem equalIn_func (d : Nat) (w : World) (f : Nat) (x y : Array Value) : (Op.equalIn (d + 1) 58 (.func (.func f) x y) .nilFunc).run Tryz.prog w = .ok false w := by
  simp [Op.equalIn, run_underlying Tryz.underlying58]
theorem equal_nilF (w : World) : (Op.equal 58 .nilFunc .nilFunc).run Tryz.prog w = .ok true w := equalIn_nilF 9999 w
theorem equal_func (w : World) (f : Nat) (x y : Array Value) : (Op.equal 58 (.func (.func f) x y) .nilFunc).run Tryz.prog w = .ok false w := equalIn_func 9999 w f x y
theorem eq_nilF (w : World) : (binOp .eql 58 .nilFunc .nilFunc).run Tryz.prog w = .ok (.bool true) w := by
  simp only [binOp]
  simp [equal_nilF w]
theorem eq_func (w : World) (f : Nat) (x y : Array Value) : (binOp .eql 58 (.func (.func f) x y) .nilFunc).run Tryz.prog w = .ok (.bool false) w := by
  simp only [binOp]
  simp [equal_func w]
theorem ne_nilF (w : World) : (binOp .neq 58 .nilFunc .nilFunc).run Tryz.prog w = .ok (.bool false) w := by
  simp only [binOp]
  simp [equal_nilF w]
theorem ne_func (w : World) (f : Nat) (x y : Array Value) : (binOp .neq 58 (.func (.func f) x y) .nilFunc).run Tryz.prog w = .ok (.bool true) w := by
  simp only [binOp]
  simp [equal_func w]

set_option maxRecDepth 100000 in
set_option maxHeartbeats 1000000 in
theorem fail_any {B : Nat} {w : World} {p : Nat} {d : Dc} {lv bv nv : Value} (h : DecR B w p d lv bv nv) (e : Nat) :
    Calls Tryz.prog 29 #[.pointer (some ⟨p, 0, none⟩), .int .i64 (e : Int)] w fun en w' => en = .returned .nilFunc ∧ DecR B w' p (d.fail e) (.slice none 0 0) bv .nilFunc ∧ Turns [p] w w' := by
  obtain ⟨c0, c1, -, -, c4, -, -, c7, hf⟩ := h.cells
  have f0 := hf 0
  have f1 := hf 1
  have f4 := hf 4
  have f7 := hf 7
  have HH := Lib.hid h
  have hp : p ∈ [p] := List.mem_singleton.2 rfl
  have HT : Hid (Turns [p] w ((((w.setCell ⟨p, 7, none⟩ (.int .i64 (e : Int))).setCell ⟨p, 0, none⟩ (.int .i64 0)).setCell ⟨p, 1, none⟩ .nilFunc).setCell ⟨p, 4, none⟩ (.slice none 0 0))) :=
    Lib.hid ((((Turns.setCell w ⟨p, 7, none⟩ _ hp).trans (Turns.setCell (F := [p]) _ ⟨p, 0, none⟩ _ hp) (fun i hi => .inl hi)).trans (Turns.setCell (F := [p]) _ ⟨p, 1, none⟩ _ hp) (fun i hi => .inl hi)).trans (Turns.setCell (F := [p]) _ ⟨p, 4, none⟩ _ hp) (fun i hi => .inl hi))
  have HD : Hid (DecR B ((((w.setCell ⟨p, 7, none⟩ (.int .i64 (e : Int))).setCell ⟨p, 0, none⟩ (.int .i64 0)).setCell ⟨p, 1, none⟩ .nilFunc).setCell ⟨p, 4, none⟩ (.slice none 0 0)) p (d.fail e) (.slice none 0 0) bv .nilFunc) :=
    Lib.hid (h.setNil HT.out (heap_setCell_same _ p 4 _ _ _ (heap_setCell_same _ p 1 _ _ _ (heap_setCell_same _ p 0 _ _ _ (heap_setCell_same _ p 7 _ _ _ h.head)))) rfl rfl)
  clear h hf
  have hsn := st_nilF Tryz.prog
  go_enter Tryz.func29, Tryz.ntmps29
  go_wp2
  go_ret
  exact ⟨rfl, HD.out, HT.out⟩
set_option maxRecDepth 100000 in
theorem beyond_any {B : Nat} {w : World} {p : Nat} {d : Dc} {lv bv nv : Value} (h : DecR B w p d lv bv nv) (c : UInt8) :
    Calls Tryz.prog 38 #[.pointer (some ⟨p, 0, none⟩), .int .u8 (c.toNat : Int)] w fun en w' => en = .returned .nilFunc ∧ DecR B w' p (d.fail 13) (.slice none 0 0) bv .nilFunc ∧ Turns [p] w w' := by
  have HF : Hid (Calls Tryz.prog 29 #[.pointer (some ⟨p, 0, none⟩), .int .i64 13] w fun en w' => en = .returned .nilFunc ∧ DecR B w' p (d.fail 13) (.slice none 0 0) bv .nilFunc ∧ Turns [p] w w') := Lib.hid (fail_any h 13)
  clear h
  go_enter Tryz.func38, Tryz.ntmps38
  go_wp2_with fail
  refine (Hid.out HF).mono ?_
  rintro e w1 ⟨rfl, hd, ht⟩
  have HD := Lib.hid hd
  have HT := Lib.hid ht
  clear hd ht HF
  go_wp2
  go_ret
  exact ⟨rfl, HD.out, HT.out⟩
set_option maxRecDepth 100000 in
set_option maxHeartbeats 1000000 in
theorem over_any {B : Nat} {w : World} {p : Nat} {d : Dc} {lv bv nv : Value} {K : List Nat} (h : DecR B w p d lv bv nv) (hn : NxV w nv d.nx K) :
    Calls Tryz.prog 28 #[.pointer (some ⟨p, 0, none⟩)] w fun en w' => en = .returned (.bool d.over) ∧ w = w' := by
  obtain ⟨c0, c1, -, -, -, -, -, -, -⟩ := h.cells
  have HO : Hid (d.over = (decide (d.left = 0) && decide (d.nx = .none))) := Lib.hid rfl
  generalize d.over = o at HO ⊢
  by_cases hl : d.left = 0
  · rw [hl] at c0
    have hb : ∀ v, nv = v → True := fun _ _ => trivial
    cases hx : d.nx with
    | none =>
      rw [hx] at hn
      have hv : nv = .nilFunc := hn.1
      subst hv
      have HR : Hid (o = true) := Lib.hid (by rw [HO.out, hl, hx]; rfl)
      clear HO h hn hb
      have hen := eq_nilF
      have hef := eq_func
      go_enter Tryz.func28, Tryz.ntmps28
      go_wp2
      go_ret
      rw [HR.out]
      exact ⟨rfl, rfl⟩
    | _ =>
      have HR : Hid (o = false) := Lib.hid (by rw [HO.out, hx]; simp)
      rw [hx] at hn
      obtain ⟨fn, cs, rfl⟩ : ∃ fn cs, nv = .func (.func fn) #[] cs := by
        first
          | exact ⟨_, _, hn.1⟩
          | (obtain ⟨g, k, hv, -⟩ := hn; exact ⟨_, _, hv⟩)
          | (obtain ⟨g, k, g2, k2, hv, -⟩ := hn; exact ⟨_, _, hv⟩)
      clear HO h hn hb
      have hen := eq_nilF
      have hef := eq_func
      go_enter Tryz.func28, Tryz.ntmps28
      go_wp2
      go_ret
      rw [HR.out]
      exact ⟨rfl, rfl⟩
  · have HR : Hid (o = false) := Lib.hid (by rw [HO.out]; simp [hl])
    have hl' : ((d.left : Int) == 0) = false := by simp; omega
    clear HO h hn
    generalize d.left = n at c0 hl hl'
    go_enter Tryz.func28, Tryz.ntmps28
    go_wp2
    go_ret
    rw [HR.out]
    exact ⟨rfl, rfl⟩
end Go.Proofs.YtlelemjmknbnaaaGreatDoor
