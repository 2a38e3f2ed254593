/- Errors that wrap: errors.Is at nil and at a chain of faults that ends in ErrLabel; the program's errno. -/
import Derived.Test.YtnbghappfclnjaaLabWord
import Derived.LaidEql
import Derived.Stop.Asserts
import Derived.RowKitTokens
import Derived.Deep.LoopGhost
namespace Go.Proofs.Ytnbghappfclnjaa
open Go.RowKit Go.Extern.Stop Go.Stop Go.Extern

/-- An error that wraps ErrLabel, n faults deep. -/
def FaultN (w : World) : Nat → Value → Prop
  | 0, v => v = .iface 47 (.int .i64 5)
  | n + 1, v => ∃ g u, v = .iface 76 (.pointer (some ⟨g, 0, none⟩)) ∧ g < w.heap.size ∧ w.cell? ⟨g, 1, none⟩ = some u ∧ FaultN w n u
theorem FaultN.below {w w' : World} {B : Nat} (hb : Below B w w') (hB : w.heap.size ≤ B) : ∀ {n : Nat} {v : Value}, FaultN w n v → FaultN w' n v
  | 0, _, h => h
  | n + 1, _, ⟨g, u, h1, h2, h3, h4⟩ => ⟨g, u, h1, Nat.lt_of_lt_of_le h2 hb.size, (hb.cell (p := ⟨g, 1, none⟩) (by simp; omega)).trans h3, FaultN.below hb hB h4⟩
def FaultIs (w : World) (v : Value) : Prop := ∃ n, FaultN w (n + 1) v
theorem FaultIs.below {w w' : World} {B : Nat} {v : Value} (h : FaultIs w v) (hb : Below B w w') (hB : w.heap.size ≤ B) : FaultIs w' v := by
  obtain ⟨n, h⟩ := h
  exact ⟨n, FaultN.below hb hB h⟩
theorem FaultIs.form {w : World} {v : Value} (h : FaultIs w v) : ∃ g, v = .iface 76 (.pointer (some ⟨g, 0, none⟩)) := by
  obtain ⟨n, g, u, h1, _⟩ := h
  exact ⟨g, h1⟩
theorem FaultIs.new (w : World) (s u : Value) {n : Nat} (h : FaultN w n u) : FaultIs (w.alloc (.cells #[s, u] 78)) (.iface 76 (.pointer (some ⟨w.heap.size, 0, none⟩))) :=
  ⟨n, w.heap.size, u, rfl, by simp, by simp, FaultN.below ((Below.refl _ _).alloc (Nat.le_refl _) _) (Nat.le_refl _) h⟩

theorem FaultIs.here {w : World} {s u : Value} {p : Nat} (hp : p = w.heap.size) {n : Nat} (h : FaultN w n u) : FaultIs (w.alloc (.cells #[s, u] 78)) (.iface 76 (.pointer (some ⟨p, 0, none⟩))) := by
  subst hp
  exact FaultIs.new w s u h

theorem is_typeOf (v : Value) (w : World) : (ReflectliteType.typeOf #[.iface 47 v]).run Try.prog w = .ok (.iface 103 (.agg #[.pointer (some ⟨1, 47, none⟩)])) w := by kernel_rfl
theorem is_comparable (w : World) : ((ReflectliteType.method fun t => do Rtype.noPackHeld "Comparable" t; (fun a => Value.bool a.comparable) <$> typeInfo t) #[.agg #[.pointer (some ⟨1, 47, none⟩)]]).run Try.prog w = .ok (.bool true) w := by kernel_rfl
theorem is_lacksF (v : Value) (w : World) : (Instr.typeAssert (.iface 76 v) 62 105 true).run Try.prog w = .ok (.tuple #[.nilIface, .bool false]) w :=
  run_typeAssert_lacksB Try.underlying105 (by kernel_rfl) (by kernel_rfl) v 62 w
theorem is_hasF (v : Value) (w : World) : (Instr.typeAssert (.iface 76 v) 62 108 true).run Try.prog w = .ok (.tuple #[.iface 76 v, .bool true]) w :=
  run_typeAssert_hasB Try.underlying108 (by kernel_rfl) v 62 w

theorem is_methodUnwrap1 (k : Nat) (p : Addr) (w : World) : (Go.method (k + 1) 76 (.pointer (some p)) "Unwrap").run Try.prog w = .ok (117, .pointer (some p)) w := by kernel_rfl
theorem is_methodUnwrap (k : Nat) (p : Addr) (w : World) (hk : 0 < k) : (Go.method k 76 (.pointer (some p)) "Unwrap").run Try.prog w = .ok (117, .pointer (some p)) w := by
  obtain ⟨j, rfl⟩ : ∃ j, k = j + 1 := ⟨k - 1, by omega⟩
  exact is_methodUnwrap1 j p w
theorem is_methodComparable1 (k : Nat) (h : Value) (w : World) : (Go.method (k + 1) 103 (.agg #[h]) "Comparable").run Try.prog w = .ok (121, .agg #[h]) w := by kernel_rfl
theorem is_methodComparable (k : Nat) (h : Value) (w : World) (hk : 0 < k) : (Go.method k 103 (.agg #[h]) "Comparable").run Try.prog w = .ok (121, .agg #[h]) w := by
  obtain ⟨j, rfl⟩ : ∃ j, k = j + 1 := ⟨k - 1, by omega⟩
  exact is_methodComparable1 j h w

set_option maxHeartbeats 400000 in
theorem unwrap_any (g : Nat) (v : Value) (w : World) (h : w.cell? ⟨g, 1, none⟩ = some v) :
    Calls Try.prog 117 #[.pointer (some ⟨g, 0, none⟩)] w fun e w' => e = .returned v ∧ w = w' := by
  go_enter Try.func117, Try.ntmps117
  go_wp2
  go_ret
  exact ⟨rfl, rfl⟩

theorem run_equalIn_iface_int (w : World) (d : Nat) {ti tn : TypeId} {ms : Array (String × TypeId)} {i : TypeInfo} {k : IntKind} (a b : Int)
    (hi : Try.prog.underlying ti = some (.interface ms)) (hn : Try.prog.underlying tn = some (.int k)) (hinfo : Try.prog.info? tn = some i) (hcomp : i.comparable = true) :
    (Op.equalIn (d + 2) ti (.iface tn (.int k a)) (.iface tn (.int k b))).run Try.prog w = .ok (a == b) w := by
  simp [Op.equalIn, run_underlying hi, run_underlying hn, typeInfo, hinfo, hcomp]
theorem run_eql_iface_int (w : World) {ti tn : TypeId} {ms : Array (String × TypeId)} {i : TypeInfo} {k : IntKind} (a b : Int)
    (hi : Try.prog.underlying ti = some (.interface ms)) (hn : Try.prog.underlying tn = some (.int k)) (hinfo : Try.prog.info? tn = some i) (hcomp : i.comparable = true) :
    (binOp .eql ti (.iface tn (.int k a)) (.iface tn (.int k b))).run Try.prog w = .ok (.bool (a == b)) w := by
  simp only [binOp]
  simp [Op.equal, Op.maxDepth, run_equalIn_iface_int w 9998 a b hi hn hinfo hcomp]

theorem is_comp : (Try.prog.info? 47).map (·.comparable) = some true := by kernel_rfl
theorem is_same (w : World) : (binOp .eql 62 (.iface 47 (.int .i64 5)) (.iface 47 (.int .i64 5))).run Try.prog w = .ok (.bool true) w := by
  obtain ⟨i, hi, hcmp⟩ := Option.map_eq_some_iff.1 is_comp
  exact run_eql_iface_int w 5 5 Try.underlying62 Try.underlying47 hi hcmp

set_option maxRecDepth 100000 in
set_option maxHeartbeats 4000000 in
theorem is_any (n : Nat) (v : Value) (w : World) (hv : FaultN w n v) :
    Calls Try.prog 73 #[v, .iface 47 (.int .i64 5), .bool true] w fun e w' => e = .returned (.bool true) ∧ w = w' := by
  have y1 := is_lacksF
  have y2 := is_hasF
  have y3 := is_same
  have y4 := fun p : Addr => run_eql_iface_types (P := Try.prog) 76 47 (.pointer (some p)) (.int .i64 5) Try.underlying62 (by decide) w
  have y5 := is_methodUnwrap
  have HV := Lib.hid hv
  clear hv
  go_enter Try.func73, Try.ntmps73
  go_wp2
  go_loopg [0] n (fun g s wx => w = wx ∧ ∃ vv, vv = s ∧ Hid (FaultN w g vv))
  case atStart => exact ⟨rfl, v, rfl, HV⟩
  case round =>
    obtain ⟨rfl, vv, rfl, HF⟩ := hrel
    cases gk with
    | zero =>
      obtain rfl := HF.out
      go_wp2
      go_ret
      exact ⟨rfl, rfl⟩
    | succ m =>
      obtain ⟨g, u, rfl, hg, hc, hu⟩ := HF.out
      have HU := Lib.hid (unwrap_any g u _ hc)
      have HN := Lib.hid hu
      clear hc hu
      cases m with
      | zero =>
        obtain rfl := HN.out
        go_wp2_with (go_at_call 117; refine (Hid.out HU).mono ?_; rintro e w' ⟨rfl, rfl⟩)
        go_roundg 0
        case measure => omega
        case rel => exact ⟨rfl, _, rfl, HN⟩
      | succ m =>
        obtain ⟨g', u', rfl, _⟩ := HN.out
        go_wp2_with (go_at_call 117; refine (Hid.out HU).mono ?_; rintro e w' ⟨rfl, rfl⟩)
        go_roundg (m + 1)
        case measure => omega
        case rel => exact ⟨rfl, _, rfl, HN⟩

set_option maxRecDepth 100000 in
set_option maxHeartbeats 1000000 in
theorem errorsIs_any (n : Nat) (v : Value) (w : World) (hv : FaultN w n v) :
    Calls Try.prog 60 #[v, .iface 47 (.int .i64 5)] w fun e w' => e = .returned (.bool true) ∧ w = w' := by
  have h8 := @run_callFunc_extern Try.prog 72 _ ReflectliteType.typeOf Try.func72 (by kernel_rfl) (by kernel_rfl) (by kernel_rfl) (by kernel_rfl)
  have h32 := @run_callFunc_extern Try.prog 121 _ (ReflectliteType.method fun t => do Rtype.noPackHeld "Comparable" t; pure (.bool (← typeInfo t).comparable)) Try.func121 (by kernel_rfl) (by kernel_rfl) (by kernel_rfl) (by kernel_rfl)
  have tT := is_typeOf
  have cT := is_comparable
  have mR := is_methodComparable
  have HIS := Lib.hid (is_any n v w hv)
  obtain ⟨tt, x, rfl⟩ : ∃ tt x, v = .iface tt x := by
    cases n with
    | zero => exact ⟨_, _, hv⟩
    | succ n => obtain ⟨g, u, h, _⟩ := hv; exact ⟨_, _, h⟩
  clear hv
  go_enter Try.func60, Try.ntmps60
  go_wp2_with fail
  refine (Hid.out HIS).mono ?_
  rintro e w' ⟨rfl, rfl⟩
  go_wp2
  go_ret
  exact ⟨rfl, rfl⟩
set_option maxRecDepth 100000 in
set_option maxHeartbeats 1000000 in
theorem errorsIs_nil (w : World) :
    Calls Try.prog 60 #[.nilIface, .iface 47 (.int .i64 5)] w fun e w' => e = .returned (.bool false) ∧ w = w' := by
  have hn := run_eql_iface_nil_left (P := Try.prog) w 47 (.int .i64 5) Try.underlying62
  go_enter Try.func60, Try.ntmps60
  go_wp2
  go_ret
  exact ⟨rfl, rfl⟩
set_option maxHeartbeats 1000000 in
theorem errno_nil (w : World) :
    Calls Try.prog 44 #[.nilIface] w fun e w' => e = .returned (.int .i64 0) ∧ w = w' := by
  have HIS := Lib.hid (errorsIs_nil w)
  go_enter Try.func44, Try.ntmps44
  go_wp2_with fail
  refine (Hid.out HIS).mono ?_
  rintro e w' ⟨rfl, rfl⟩
  go_wp2
  go_ret
  exact ⟨rfl, rfl⟩
set_option maxHeartbeats 1000000 in
theorem errno_fault (v : Value) (w : World) (hv : FaultIs w v) :
    Calls Try.prog 44 #[v] w fun e w' => e = .returned (.int .i64 5) ∧ w = w' := by
  obtain ⟨n, hv⟩ := hv
  have HIS := Lib.hid (errorsIs_any (n + 1) v w hv)
  obtain ⟨g, u, rfl, _⟩ := hv
  go_enter Try.func44, Try.ntmps44
  go_wp2_with fail
  refine (Hid.out HIS).mono ?_
  rintro e w' ⟨rfl, rfl⟩
  go_wp2
  go_ret
  exact ⟨rfl, rfl⟩
end Go.Proofs.Ytnbghappfclnjaa
