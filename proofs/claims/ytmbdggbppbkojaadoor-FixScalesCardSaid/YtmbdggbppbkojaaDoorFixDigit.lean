/- Contracts of the methods of fix.number: digit, take, millionths. -/
import Derived.Test.YtmbdggbppbkojaaDoorFixNum
import Derived.Shelf.Spec.BitsCarry
import Derived.Laws.Rows
import Derived.Laws.OwnMore
import Derived.Deep.Draws
namespace Go.Proofs.YtmbdggbppbkojaaDoor
open Go.RowKit

/-- Block g holds just these cells of the type t, none frozen. -/
def Row (w : World) (g : Nat) (t : TypeId) (cs : Array Value) : Prop := w.heap[g]? = some (.cells cs t (0, 0))
theorem Row.lt {w : World} {g : Nat} {t : TypeId} {cs : Array Value} (h : Row w g t cs) : g < w.heap.size := by
  unfold Row at h
  exact (Array.getElem?_eq_some_iff.1 h).1
theorem Row.cell {w : World} {g : Nat} {t : TypeId} {cs : Array Value} (h : Row w g t cs) (i : Nat) : w.cell? ⟨g, i, none⟩ = cs[i]? := by
  unfold Row at h; simp [World.cell?, h]
theorem Row.free {w : World} {g : Nat} {t : TypeId} {cs : Array Value} (h : Row w g t cs) (i : Nat) : w.frozen? ⟨g, i, none⟩ = false := by
  unfold Row at h; simp [World.frozen?, h]
theorem Row.put {w : World} {g : Nat} {t : TypeId} {cs : Array Value} (h : Row w g t cs) (i : Nat) (u : Value) : Row (w.setCell ⟨g, i, none⟩ u) g t (cs.setIfInBounds i u) := by
  unfold Row at h ⊢
  simp [World.setCell, Array.getElem?_modify, h]
theorem Row.eq {w : World} {g : Nat} {t : TypeId} {cs cs' : Array Value} (h : Row w g t cs) (e : cs = cs') : Row w g t cs' := e ▸ h
theorem Row.drew {w : World} {g : Nat} {t : TypeId} {cs : Array Value} (h : Row w g t cs) (n : Nat) : Row (w.drewN n) g t cs := h
/-- Nothing but block g, and what is new, has turned. -/
theorem only_refl (w : World) (g : Nat) : w.grownBy w (some g) := World.grownBy.refl w _
theorem only_put {a w : World} {g : Nat} (h : a.grownBy w (some g)) (i : Nat) (u : Value) : a.grownBy (w.setCell ⟨g, i, none⟩ u) (some g) :=
  ⟨h.os, h.tape, h.output, by simpa [World.setCell] using h.size, fun j hj hne => (Below.heap_setCell w ⟨g, i, none⟩ u j (by
    intro he
    exact hne (by rw [he]))).trans (h.block j hj hne)⟩
theorem only_drewN {a w : World} {g : Nat} (h : a.grownBy w (some g)) (n : Nat) : a.grownBy (w.drewN n) (some g) := ⟨h.os, h.tape, h.output, h.size, h.block⟩
theorem quiet_same {P : Program} {f : FuncId} {args : Array Value} {w : World} {n : Nat} {v : Value}
    (h : Calls P f args (w.drewN n) fun e w' => e = .returned v ∧ w.drewN n = w') : Calls P f args (w.drewN n) fun e w'' => e = .returned v ∧ ∃ m, w'' = w.drewN m :=
  h.mono fun _ _ hh => ⟨hh.1, n, hh.2.symm⟩

/-- What a number's text told so far. -/
structure Num where
  below : Bool
  digits : Nat
  wide : Bool
  zeros : Nat
  behind : Nat
  less : Bool
  power : Nat
def Num.cells (N : Num) : Array Value := #[.bool N.below, .int .u64 N.digits, .bool N.wide, .int .i64 N.zeros, .int .i64 N.behind, .bool N.less, .int .i64 N.power]
def digitF (N : Num) (d : Nat) : Num :=
  if 0 < d then
    { N with wide := (N.wide || !(shiftF (N.zeros + 1) N.digits).2 || decide (18446744073709551616 ≤ (shiftF (N.zeros + 1) N.digits).1 + d)),
             digits := ((shiftF (N.zeros + 1) N.digits).1 + d) % 18446744073709551616, zeros := 0 }
  else if 0 < N.digits then { N with zeros := N.zeros + 1 } else N
theorem shiftF_lt (k n : Nat) (h : n < 18446744073709551616) : (shiftF k n).1 < 18446744073709551616 := by
  induction k generalizing n with
  | zero => exact h
  | succ k ih =>
    unfold shiftF
    split
    · exact h
    · split
      · show 0 < _; omega
      · exact ih _ (Nat.mod_lt _ (by omega))

theorem add64 (x y : Nat) (hx : x < 18446744073709551616) (hy : y < 18446744073709551616) (w : World) :
    (callFunc 55 #[.int .u64 x, .int .u64 y, .int .u64 0]).run Tryd.prog w =
      .ok (.value (.tuple #[.int .u64 (((x + y) % 18446744073709551616 : Nat) : Int), .int .u64 (((x + y) / 18446744073709551616 : Nat) : Int)])) w := by
  rw [run_callFunc_extern Tryd.func55 (by kernel_rfl) (by kernel_rfl) (by kernel_rfl) (e := add64Entry) (by kernel_rfl)]
  rw [run_add64 (P := Tryd.prog) x y 0 (by omega) (by omega) (by omega) (by omega) w]
  simp only [Result.andThen]
  congr 5 <;> omega

set_option maxHeartbeats 400000 in
theorem digit_zero (b : Nat) (N : Num) (w : World) (hB : Row w b 41 N.cells) (hz : N.zeros < 4611686018427387904) (hd : N.digits < 18446744073709551616) :
    Calls Tryd.prog 39 #[.pointer (some ⟨b, 0, none⟩), .int .u64 0] w fun e w' => e = .returned (.tuple #[]) ∧ Row w' b 41 (digitF N 0).cells ∧ w.grownBy w' (some b) := by
  have hc := hB.cell
  have hf := hB.free
  have HB := Lib.hid hB
  clear hB
  obtain ⟨bl, dg, wd, zr, bh, ls, pw⟩ := N
  simp only [Num.cells] at *
  by_cases hd0 : 0 < dg
  · have hD := Lib.hid (show digitF ⟨bl, dg, wd, zr, bh, ls, pw⟩ 0 = ⟨bl, dg, wd, zr + 1, bh, ls, pw⟩ by simp [digitF, hd0])
    go_enter Tryd.func39, Tryd.ntmps39
    go_wp2
    go_end0
    rw [hD.out]
    exact ⟨rfl, HB.out.put 3 _, only_put (only_refl _ _) _ _⟩
  · have hD := Lib.hid (show digitF ⟨bl, dg, wd, zr, bh, ls, pw⟩ 0 = ⟨bl, dg, wd, zr, bh, ls, pw⟩ by simp [digitF, hd0])
    go_enter Tryd.func39, Tryd.ntmps39
    go_wp2
    go_end0
    rw [hD.out]
    exact ⟨rfl, HB.out, only_refl _ _⟩

set_option maxHeartbeats 1000000 in
theorem digit_pos (b : Nat) (N : Num) (d : Nat) (w : World) (hB : Row w b 41 N.cells) (hz : N.zeros < 4611686018427387904) (hd : N.digits < 18446744073709551616) (h0 : 0 < d) (h9 : d < 10) :
    Calls Tryd.prog 39 #[.pointer (some ⟨b, 0, none⟩), .int .u64 d] w fun e w' => e = .returned (.tuple #[]) ∧ Row w' b 41 (digitF N d).cells ∧ w.grownBy w' (some b) := by
  have hc := hB.cell
  have hf := hB.free
  have HB := Lib.hid hB
  clear hB
  obtain ⟨bl, dg, wd, zr, bh, ls, pw⟩ := N
  simp only [Num.cells] at *
  obtain ⟨m, ok, hs⟩ : ∃ m ok, shiftF (zr + 1) dg = (m, ok) := ⟨_, _, rfl⟩
  have hm : m < 18446744073709551616 := by have := shiftF_lt (zr + 1) dg hd; rw [hs] at this; exact this
  have hsh : ∀ w, Calls Tryd.prog 40 #[.int .u64 dg, .int .i64 ((zr : Int) + 1)] w fun e w' => e = .returned (.tuple #[.int .u64 m, .bool ok]) ∧ w = w' := fun w => by
    have := shift_any dg ((zr : Int) + 1) w hd (by omega) (by omega)
    rw [show ((zr : Int) + 1).toNat = zr + 1 by omega, hs] at this
    exact this
  have HSH := Lib.hid hsh
  clear hsh
  have hD := Lib.hid (show digitF ⟨bl, dg, wd, zr, bh, ls, pw⟩ d = ⟨bl, (m + d) % 18446744073709551616, (wd || !ok || decide (18446744073709551616 ≤ m + d)), 0, bh, ls, pw⟩ by simp [digitF, h0, hs])
  clear hs
  have ha := add64 m d hm (by omega)
  have hcar : ∀ x : Nat, (decide (((x / 18446744073709551616 : Nat) : Int) > 0)) = decide (18446744073709551616 ≤ x) := fun x => by
    apply decide_eq_decide.2; omega
  have HCAR := Lib.hid hcar
  clear hcar
  go_enter Tryd.func39, Tryd.ntmps39
  go_wp2
  go_quiet ((go_at_call 40; exact quiet_same (HSH.out _)))
  go_wp2
  all_goals
    go_end0
    rw [hD.out]
    refine ⟨rfl, Row.eq ((((HB.out.drew _).put 2 _).put 1 _).put 3 _) ?_, only_put (only_put (only_put (only_drewN (only_refl _ _) _) _ _) _ _) _ _⟩
    clear ha HSH HCAR hf hc HB hD
    by_cases hq : 18446744073709551616 ≤ m + d
    · simp [*]
      try omega
    · simp [*]
      try omega

theorem digit_any (b : Nat) (N : Num) (x : Int) (w : World) (hB : Row w b 41 N.cells) (hz : N.zeros < 4611686018427387904) (hd : N.digits < 18446744073709551616) (h0 : 0 ≤ x) (h9 : x < 10) :
    Calls Tryd.prog 39 #[.pointer (some ⟨b, 0, none⟩), .int .u64 x] w fun e w' => e = .returned (.tuple #[]) ∧ Row w' b 41 (digitF N x.toNat).cells ∧ w.grownBy w' (some b) := by
  obtain ⟨d, rfl⟩ : ∃ d : Nat, x = d := ⟨x.toNat, by omega⟩
  rw [Int.toNat_natCast]
  by_cases hp : 0 < d
  · exact digit_pos b N d w hB hz hd hp (by omega)
  · obtain rfl : d = 0 := by omega
    exact digit_zero b N w hB hz hd

def takeF (N : Num) (a : Nat) (r : Int) : Num :=
  if a = 1 then { N with below := (r == 45) }
  else if a = 4 then (if isDigitB r then digitF { N with behind := N.behind + 1 } (r - 48).toNat else N)
  else if a = 2 then digitF N (r - 48).toNat
  else if a = 6 then { N with less := (r == 45) }
  else if a = 7 then (if N.power < 1099511627776 then { N with power := N.power * 10 + (r - 48).toNat } else N)
  else N

section
variable (b : Nat) (N : Num) (r : Int) (w : World)

set_option maxHeartbeats 400000 in
theorem take_sign (hB : Row w b 41 N.cells) :
    Calls Tryd.prog 22 #[.pointer (some ⟨b, 0, none⟩), .int .i64 1, .int .i32 r] w fun e w' => e = .returned (.tuple #[]) ∧ Row w' b 41 (takeF N 1 r).cells ∧ w.grownBy w' (some b) := by
  have hc := hB.cell
  have hf := hB.free
  have HB := Lib.hid hB
  clear hB
  obtain ⟨bl, dg, wd, zr, bh, ls, pw⟩ := N
  simp only [Num.cells] at *
  go_enter Tryd.func22, Tryd.ntmps22
  go_wp2
  go_end0
  exact ⟨rfl, Row.eq (HB.out.put 0 _) rfl, only_put (only_refl _ _) _ _⟩
set_option maxHeartbeats 400000 in
theorem take_less (hB : Row w b 41 N.cells) :
    Calls Tryd.prog 22 #[.pointer (some ⟨b, 0, none⟩), .int .i64 6, .int .i32 r] w fun e w' => e = .returned (.tuple #[]) ∧ Row w' b 41 (takeF N 6 r).cells ∧ w.grownBy w' (some b) := by
  have hc := hB.cell
  have hf := hB.free
  have HB := Lib.hid hB
  clear hB
  obtain ⟨bl, dg, wd, zr, bh, ls, pw⟩ := N
  simp only [Num.cells] at *
  go_enter Tryd.func22, Tryd.ntmps22
  go_wp2
  go_end0
  exact ⟨rfl, Row.eq (HB.out.put 5 _) rfl, only_put (only_refl _ _) _ _⟩
set_option maxHeartbeats 400000 in
theorem take_power (hB : Row w b 41 N.cells) (h0 : 48 ≤ r) (h9 : r ≤ 57) :
    Calls Tryd.prog 22 #[.pointer (some ⟨b, 0, none⟩), .int .i64 7, .int .i32 r] w fun e w' => e = .returned (.tuple #[]) ∧ Row w' b 41 (takeF N 7 r).cells ∧ w.grownBy w' (some b) := by
  have hc := hB.cell
  have hf := hB.free
  have HB := Lib.hid hB
  clear hB
  obtain ⟨bl, dg, wd, zr, bh, ls, pw⟩ := N
  simp only [Num.cells] at *
  by_cases hp : (pw : Int) < 1099511627776
  · have HT := Lib.hid (show takeF ⟨bl, dg, wd, zr, bh, ls, pw⟩ 7 r = ⟨bl, dg, wd, zr, bh, ls, pw * 10 + (r - 48).toNat⟩ by simp [takeF]; omega)
    go_enter Tryd.func22, Tryd.ntmps22
    go_wp2
    go_end0
    rw [HT.out]
    exact ⟨rfl, Row.eq (HB.out.put 6 _) (by simp; omega), only_put (only_refl _ _) _ _⟩
  · have HT := Lib.hid (show takeF ⟨bl, dg, wd, zr, bh, ls, pw⟩ 7 r = ⟨bl, dg, wd, zr, bh, ls, pw⟩ by simp [takeF]; omega)
    go_enter Tryd.func22, Tryd.ntmps22
    go_wp2
    go_end0
    rw [HT.out]
    exact ⟨rfl, HB.out, only_refl _ _⟩
set_option maxHeartbeats 400000 in
theorem take_whole (hB : Row w b 41 N.cells) (hz : N.zeros < 4611686018427387904) (hd : N.digits < 18446744073709551616) (h0 : 48 ≤ r) (h9 : r ≤ 57) :
    Calls Tryd.prog 22 #[.pointer (some ⟨b, 0, none⟩), .int .i64 2, .int .i32 r] w fun e w' => e = .returned (.tuple #[]) ∧ Row w' b 41 (takeF N 2 r).cells ∧ w.grownBy w' (some b) := by
  have HD := Lib.hid (digit_any b N (r - 48) w hB hz hd (by omega) (by omega))
  clear hB
  go_enter Tryd.func22, Tryd.ntmps22
  go_wp2_with fail
  refine (Hid.out HD).mono ?_
  rintro e w' ⟨rfl, hR, hG⟩
  have HR := Lib.hid hR
  have HG := Lib.hid hG
  clear hR hG
  go_wp2
  go_end0
  exact ⟨rfl, HR.out, HG.out⟩
set_option maxHeartbeats 400000 in
theorem take_point (hB : Row w b 41 N.cells) (hr : isDigitB r = false) :
    Calls Tryd.prog 22 #[.pointer (some ⟨b, 0, none⟩), .int .i64 4, .int .i32 r] w fun e w' => e = .returned (.tuple #[]) ∧ Row w' b 41 (takeF N 4 r).cells ∧ w.grownBy w' (some b) := by
  have HT := Lib.hid (show takeF N 4 r = N by simp [takeF, hr])
  have HC := Lib.hid (isDigit_any r w)
  have HR := Lib.hid hr
  have HB := Lib.hid hB
  clear hB hr
  go_enter Tryd.func22, Tryd.ntmps22
  go_wp2_with fail
  refine (Hid.out HC).mono ?_
  rintro e w' ⟨rfl, rfl⟩
  rw [HR.out]
  go_wp2
  refine bodyPost_ret (results_none rfl _ _ _) rfl ?_
  rw [HT.out]
  exact ⟨rfl, HB.out, only_refl _ _⟩
set_option maxHeartbeats 400000 in
theorem take_part (hB : Row w b 41 N.cells) (hz : N.zeros < 4611686018427387904) (hb : N.behind < 4611686018427387904) (hd : N.digits < 18446744073709551616) (h0 : 48 ≤ r) (h9 : r ≤ 57) :
    Calls Tryd.prog 22 #[.pointer (some ⟨b, 0, none⟩), .int .i64 4, .int .i32 r] w fun e w' => e = .returned (.tuple #[]) ∧ Row w' b 41 (takeF N 4 r).cells ∧ w.grownBy w' (some b) := by
  have hr : isDigitB r = true := by simp [isDigitB]; omega
  have HT := Lib.hid (show takeF N 4 r = digitF { N with behind := N.behind + 1 } (r - 48).toNat by simp [takeF, hr])
  have HC := Lib.hid (isDigit_any r w)
  have HR := Lib.hid hr
  have hc := hB.cell
  have hf := hB.free
  have HB := Lib.hid hB
  clear hB hr
  have HP := Lib.hid (show Row (w.setCell ⟨b, 4, none⟩ (.int .i64 ((N.behind : Int) + 1))) b 41 ({ N with behind := N.behind + 1 } : Num).cells from Row.eq (HB.out.put 4 _) (by simp [Num.cells]))
  have HD := Lib.hid (digit_any b { N with behind := N.behind + 1 } (r - 48) _ (Hid.out HP) hz hd (by omega) (by omega))
  simp only [Num.cells] at hc
  go_enter Tryd.func22, Tryd.ntmps22
  go_wp2_with fail
  refine (Hid.out HC).mono ?_
  rintro e w' ⟨rfl, rfl⟩
  rw [HR.out]
  go_wp2_with fail
  refine (Hid.out HD).mono ?_
  rintro e w' ⟨rfl, hR, hG⟩
  have HR := Lib.hid hR
  have HG := Lib.hid hG
  clear hR hG
  go_wp2
  go_end0
  rw [HT.out]
  exact ⟨rfl, HR.out, World.grownBy.trans (only_put (only_refl _ _) _ _) HG.out⟩
theorem take_none (a : Nat) (h : a = 0 ∨ a = 3 ∨ a = 5 ∨ a = 8) (hB : Row w b 41 N.cells) :
    Calls Tryd.prog 22 #[.pointer (some ⟨b, 0, none⟩), .int .i64 a, .int .i32 r] w fun e w' => e = .returned (.tuple #[]) ∧ Row w' b 41 (takeF N a r).cells ∧ w.grownBy w' (some b) := by
  have HT := Lib.hid (show takeF N a r = N by rcases h with rfl | rfl | rfl | rfl <;> simp [takeF])
  have HB := Lib.hid hB
  clear hB
  rcases h with rfl | rfl | rfl | rfl
  all_goals
    go_enter Tryd.func22, Tryd.ntmps22
    go_wp2
    go_end0
    rw [HT.out]
    exact ⟨rfl, HB.out, only_refl _ _⟩
end

theorem ret_pi {k k' : IntKind} {a b c d : Int} (h : a = b) (h' : c = d) : Ending.returned (.tuple #[.int k a, .int k' c]) = .returned (.tuple #[.int k b, .int k' d]) := by rw [h, h']

def upF (N : Num) : Int := (if N.less then -(N.power : Int) else N.power) + ((N.zeros : Int) - N.behind + 6)
def millF (N : Num) : Int × Int :=
  if N.wide then (0, 4)
  else if N.digits = 0 then (0, 0)
  else if upF N < 0 then (0, 4)
  else if (shiftF (upF N).toNat N.digits).2 = false then (0, 4)
  else if (sgn (shiftF (upF N).toNat N.digits).1 N.below).2 then (0, 4)
  else ((sgn (shiftF (upF N).toNat N.digits).1 N.below).1, 0)

set_option maxHeartbeats 1000000 in
theorem mill_any (b : Nat) (N : Num) (w : World) (hB : Row w b 41 N.cells) (hz : N.zeros < 1152921504606846976) (hb : N.behind < 1152921504606846976) (hp : N.power < 1152921504606846976) (hd : N.digits < 18446744073709551616) :
    Calls Tryd.prog 23 #[.pointer (some ⟨b, 0, none⟩)] w fun e w' => e = .returned (.tuple #[.int .i64 (millF N).1, .int .i64 (millF N).2]) ∧ ∃ n, w.drewN n = w' := by
  have hc := hB.cell
  have hf := hB.free
  clear hB
  obtain ⟨bl, dg, wd, zr, bh, ls, pw⟩ := N
  simp only [Num.cells] at *
  obtain ⟨up, hup⟩ : ∃ up, upF ⟨bl, dg, wd, zr, bh, ls, pw⟩ = up := ⟨_, rfl⟩
  obtain ⟨m, ok, hs⟩ : ∃ m ok, shiftF up.toNat dg = (m, ok) := ⟨_, _, rfl⟩
  obtain ⟨x, ov, hx⟩ : ∃ x ov, sgn m bl = (x, ov) := ⟨_, _, rfl⟩
  have hm : m < 18446744073709551616 := by have := shiftF_lt up.toNat dg hd; rw [hs] at this; exact this
  have hM := Lib.hid (show millF ⟨bl, dg, wd, zr, bh, ls, pw⟩ = (if wd then (0, 4) else if dg = 0 then (0, 0) else if up < 0 then (0, 4)
    else if ok = false then (0, 4) else if ov then (0, 4) else (x, 0)) by simp [millF, hup, hs, hx])
  simp only [upF] at hup
  have hu0 : -9223372036854775808 ≤ up ∧ up ≤ 9223372036854775807 := by cases ls <;> simp at hup <;> omega
  have HSH := Lib.hid (show ∀ w, Calls Tryd.prog 40 #[.int .u64 dg, .int .i64 up] w fun e w' => e = .returned (.tuple #[.int .u64 m, .bool ok]) ∧ w = w' from fun w => by
    have := shift_any dg up w hd hu0.1 hu0.2
    rw [hs] at this
    exact this)
  have HSG := Lib.hid (show ∀ w, Calls Tryd.prog 35 #[.int .u64 m, .bool bl] w fun e w' => e = .returned (.tuple #[.int .i64 x, .bool ov]) ∧ w = w' from fun w => by
    have := signed_any m bl w (by omega)
    rw [hx] at this
    exact this)
  clear hs hx
  have hup' : (if ls then -(pw : Int) else pw) + ((zr : Int) - bh + 6) = up := hup
  clear hup
  cases wd
  · have h02 : (0 : Int) ≤ dg := by omega
    cases ls <;> cases ok <;> cases ov <;> simp only [if_true, Bool.false_eq_true, if_false] at hup'
    all_goals
      go_enter Tryd.func23, Tryd.ntmps23
      go_wp2
      go_quiet (fail)
      go_wp2_with (first | (go_at_call 40; refine (Hid.out HSH _).mono ?_; rintro e w' ⟨rfl, rfl⟩) | (go_at_call 35; refine (Hid.out HSG _).mono ?_; rintro e w' ⟨rfl, rfl⟩))
      all_goals go_ret2
      all_goals simp only [beq_iff_eq, beq_eq_false_iff_ne, ne_eq] at *
      · have hq : dg = 0 := by omega
        exact ⟨ret_pi (by rw [hM.out]; simp [hq]) (by rw [hM.out]; simp [hq]), _, rfl⟩
      · have hq : ¬ dg = 0 := by omega
        have hq2 : up < 0 := by assumption
        exact ⟨ret_pi (by rw [hM.out]; simp [hq, hq2]) (by rw [hM.out]; simp [hq, hq2]), _, rfl⟩
      · have hq : ¬ dg = 0 := by omega
        have hq2 : ¬ up < 0 := by omega
        exact ⟨ret_pi (by rw [hM.out]; simp [hq, hq2]) (by rw [hM.out]; simp [hq, hq2]), _, rfl⟩
  · cases ls <;> simp only [if_true, Bool.false_eq_true, if_false] at hup'
    all_goals
      go_enter Tryd.func23, Tryd.ntmps23
      go_wp2
      go_quiet (fail)
      go_wp2
      go_ret2
      exact ⟨ret_pi (by rw [hM.out]; rfl) (by rw [hM.out]; rfl), _, rfl⟩
end Go.Proofs.YtmbdggbppbkojaaDoor
