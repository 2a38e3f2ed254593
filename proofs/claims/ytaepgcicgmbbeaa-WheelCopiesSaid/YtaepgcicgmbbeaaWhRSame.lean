/- The document's Same, of lists of timers. -/
import Derived.Test.YtaepgcicgmbbeaaWhSet
import Derived.Test.YtaepgcicgmbbeaaWhReachW
namespace Go.Proofs.Ytaepgcicgmbbeaa
open Go.RowKit

theorem fi_struct : Try.prog.underlying 44 = some (.struct (Try.prog.fieldsOf 44)) := by kernel_rfl
theorem fi_stood : Try.prog.stoodInHeld 44 = false := by kernel_rfl
theorem fi_fields : (Try.prog.fieldsOf 44).toList.map (fun f => (f.name == "_", f.type, f.offset)) = [(false, 3, 0), (false, 2, 1)] := by kernel_rfl
theorem fi_part0 (a b : Int) (w : World) : (Go.part 3 #[.int .i64 a, .int .i64 b] 0).run Try.prog w = .ok (.int .i64 a) w := by kernel_rfl
theorem fi_part1 (a b : Int) (w : World) : (Go.part 2 #[.int .i64 a, .int .i64 b] 1).run Try.prog w = .ok (.int .i64 b) w := by kernel_rfl
theorem fi_neq (a b c d : Int) (w : World) : (binOp .neq 44 (.agg #[.int .i64 a, .int .i64 b]) (.agg #[.int .i64 c, .int .i64 d])).run Try.prog w = .ok (.bool (!(a == c && b == d))) w := by
  rw [run_neq_struct, run_equalIn_struct (P := Try.prog) w 9999 44 _ _ fi_struct fi_stood]
  have hf := fi_fields
  generalize (Try.prog.fieldsOf 44).toList = fs at hf
  rcases fs with _ | ⟨f, _ | ⟨g, _ | ⟨h, fs⟩⟩⟩
  · cases hf
  · simp at hf
  · simp only [List.map_cons, List.map_nil, List.cons.injEq, Prod.mk.injEq, and_true] at hf
    obtain ⟨⟨n1, t1, o1⟩, n2, t2, o2⟩ := hf
    have e1 := fun (x y : Int) (W : World) => run_equalIn_int (P := Try.prog) W 9998 3 .i64 .i64 x y Try.underlying3
    have e2 := fun (x y : Int) (W : World) => run_equalIn_int (P := Try.prog) W 9998 2 .i64 .i64 x y Try.underlying2
    simp [Op.eqFields, n1, n2, t1, t2, o1, o2, fi_part0, fi_part1, e1, e2, Result.andThen]
    cases h1 : a == c <;> cases h2 : b == d <;> simp_all
  · simp at hf
theorem fi_guard : Try.prog.eqGuardType Try.prog.depth 44 = false := by kernel_rfl
theorem rsame_len {l m : List Fi} (h : l.length ≠ m.length) : decide (l = m) = false := by simp; exact fun e => h (by rw [e])
set_option maxRecDepth 100000 in
set_option maxHeartbeats 4000000 in
theorem rsame_any (A1 A2 : Option Addr) (c1 c2 : Nat) (l m : List Fi) (w : World) (hl : l.length ≤ 2000) (hm : m.length ≤ 2000) (hr1 : fK.Reads w w.heap.size A1 l) (hr2 : fK.Reads w w.heap.size A2 m) :
    Calls Try.prog 14 #[.slice A1 l.length c1, .slice A2 m.length c2] w fun e w' => e = .returned (.bool (decide (l = m))) ∧ Turns [] w w' := by
  by_cases hne : l.length = m.length
  · have HR1 := Lib.hid hr1
    have HR2 := Lib.hid hr2
    have hgd := fi_guard
    have hnq := fi_neq
    rw [← hne]
    have HNE := Lib.hid hne
    have HLE := Lib.hid hl
    clear hr1 hr2 hne hl hm
    go_enter Try.func14, Try.ntmps14
    go_wp2
    go_loopw [5] (fun i wr => ∃ k : Nat, i = .int .i64 (k : Int) ∧ k ≤ l.length ∧ Hid (l.take k = m.take k ∧ Turns [] w wr)) (fun i _ => l.length - (intOf i).toNat)
    case atStart => exact ⟨0, rfl, Nat.zero_le _, Lib.hid ⟨rfl, Turns.refl _ _⟩⟩
    case round =>
      obtain ⟨k, rfl, hk, HQ⟩ := hrel
      by_cases hlt : k < l.length
      · have f2 : (k : Int) < (l.length : Int) := by omega
        have f3 : (0 : Int) ≤ (k : Int) := by omega
        obtain ⟨x, hx⟩ : ∃ x, l[k]? = some x := ⟨_, List.getElem?_eq_getElem hlt⟩
        obtain ⟨y, hy⟩ : ∃ y, m[k]? = some y := ⟨_, List.getElem?_eq_getElem (by have := HNE.out; omega)⟩
        obtain ⟨b1, o1, rfl, hb1, hc1⟩ := (HR1.out.turns (Nat.le_refl _) HQ.out.2 (by simp)).at fOk (by omega)
        obtain ⟨b2, o2, rfl, hb2, hc2⟩ := (HR2.out.turns (Nat.le_refl _) HQ.out.2 (by simp)).at fOk (by have := HNE.out; omega)
        have k1 : wr.cell? ⟨b1, o1 + k * 2, none⟩ = some (.int .i64 x.1) := hc1 k x hx 0 _ rfl
        have k2 : wr.cell? ⟨b1, o1 + k * 2 + 1, none⟩ = some (.int .i64 x.2) := hc1 k x hx 1 _ rfl
        have k3 : wr.cell? ⟨b2, o2 + k * 2, none⟩ = some (.int .i64 y.1) := hc2 k y hy 0 _ rfl
        have k4 : wr.cell? ⟨b2, o2 + k * 2 + 1, none⟩ = some (.int .i64 y.2) := hc2 k y hy 1 _ rfl
        have HX := Lib.hid hx
        have HY := Lib.hid hy
        have HJL := Lib.hid hlt
        have HWJ := Lib.hid (wrapS (i := k) (by have := HLE.out; omega))
        clear hc1 hc2 hx hy hb1 hb2 hlt
        by_cases hxy : x = y
        · have hb : (x.1 == y.1 && x.2 == y.2) = true := by rw [hxy]; simp
          have hnn := hnq x.1 x.2 y.1 y.2
          rw [hb] at hnn
          have HXY := Lib.hid hxy
          clear hxy hb hnq
          go_wp2
          go_quiet (fail)
          go_wp2
          go_roundw
          case rel =>
            refine ⟨k + 1, congrArg (Value.int .i64) HWJ.out, HJL.out, Lib.hid ⟨?_, HQ.out.2.drewN _⟩⟩
            rw [List.take_add_one, List.take_add_one, HX.out, HY.out, HQ.out.1, HXY.out]
          case measure => exact measS HJL.out HWJ.out
        · have hb : (x.1 == y.1 && x.2 == y.2) = false := by
            cases h : (x.1 == y.1 && x.2 == y.2) with
            | false => rfl
            | true =>
              simp at h
              exact absurd (Prod.ext h.1 h.2) hxy
          have hnn := hnq x.1 x.2 y.1 y.2
          rw [hb] at hnn
          have HD : Hid (decide (l = m) = false) := Lib.hid (by
            simp
            intro e
            have h1 := HX.out
            rw [e, HY.out] at h1
            cases h1
            exact hxy rfl)
          clear hxy hb hnq
          go_wp2
          go_quiet (fail)
          go_wp2
          go_ret
          exact ⟨by rw [HD.out]; rfl, HQ.out.2.drewN _⟩
      · have hge : decide ((k : Int) < (l.length : Int)) = false := by simp; omega
        have HD : Hid (decide (l = m) = true) := Lib.hid (by
          have h1 := HQ.out.1
          rw [List.take_of_length_le (by omega), List.take_of_length_le (by have := HNE.out; omega)] at h1
          simpa using h1)
        go_wp2
        go_ret
        exact ⟨by rw [HD.out]; rfl, HQ.out.2⟩
  · have hb : ((l.length : Int) != (m.length : Int)) = true := by simp; omega
    rw [rsame_len hne]
    clear hr1 hr2 hne hl hm
    go_enter Try.func14, Try.ntmps14
    go_wp2
    go_ret
    exact ⟨rfl, Turns.refl _ _⟩
end Go.Proofs.Ytaepgcicgmbbeaa
