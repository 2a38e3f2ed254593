/- errors.Is of an error's number. -/
import Derived.Test.YtlelemjmknbnaaaGreatDoorProg
import Derived.WalkKit
import Derived.WalkSpells
import Derived.WalkLawsBesides
import Derived.Lib.Hide
import Derived.LaidEql
import Derived.Stop.Asserts
import Derived.RowKitTokens
namespace Go.Proofs.YtlelemjmknbnaaaGreatDoor
open Go.RowKit Go.Extern.Stop Go.Stop Go.Extern

theorem is_typeOf (v : Value) (w : World) : (ReflectliteType.typeOf #[.iface 29 v]).run Tryz.prog w = .ok (.iface 76 (.agg #[.pointer (some ⟨8, 29, none⟩)])) w := by kernel_rfl
theorem is_comparable (w : World) : ((ReflectliteType.method fun t => do Rtype.noPackHeld "Comparable" t; (fun a => Value.bool a.comparable) <$> typeInfo t) #[.agg #[.pointer (some ⟨8, 29, none⟩)]]).run Tryz.prog w = .ok (.bool true) w := by kernel_rfl
theorem is_lacksI (v : Value) (w : World) : (Instr.typeAssert (.iface 29 v) 63 78 true).run Tryz.prog w = .ok (.tuple #[.nilIface, .bool false]) w :=
  run_typeAssert_lacksB Tryz.underlying78 (by kernel_rfl) (by kernel_rfl) v 63 w
theorem is_lacksU (v : Value) (w : World) : (Instr.typeAssert (.iface 29 v) 63 81 true).run Tryz.prog w = .ok (.tuple #[.nilIface, .bool false]) w :=
  run_typeAssert_lacksB Tryz.underlying81 (by kernel_rfl) (by kernel_rfl) v 63 w
theorem is_lacksS (v : Value) (w : World) : (Instr.typeAssert (.iface 29 v) 63 83 true).run Tryz.prog w = .ok (.tuple #[.nilIface, .bool false]) w :=
  run_typeAssert_lacksB Tryz.underlying83 (by kernel_rfl) (by kernel_rfl) v 63 w
theorem is_methodComparable1 (k : Nat) (h : Value) (w : World) : (Go.method (k + 1) 76 (.agg #[h]) "Comparable").run Tryz.prog w = .ok (142, .agg #[h]) w := by kernel_rfl
theorem is_methodComparable (k : Nat) (h : Value) (w : World) (hk : 0 < k) : (Go.method k 76 (.agg #[h]) "Comparable").run Tryz.prog w = .ok (142, .agg #[h]) w := by
  obtain ⟨j, rfl⟩ : ∃ j, k = j + 1 := ⟨k - 1, by omega⟩
  exact is_methodComparable1 j h w
theorem run_equalIn_iface_int (w : World) (d : Nat) {ti tn : TypeId} {ms : Array (String × TypeId)} {i : TypeInfo} {k : IntKind} (a b : Int)
    (hi : Tryz.prog.underlying ti = some (.interface ms)) (hn : Tryz.prog.underlying tn = some (.int k)) (hinfo : Tryz.prog.info? tn = some i) (hcomp : i.comparable = true) :
    (Op.equalIn (d + 2) ti (.iface tn (.int k a)) (.iface tn (.int k b))).run Tryz.prog w = .ok (a == b) w := by
  simp [Op.equalIn, run_underlying hi, run_underlying hn, typeInfo, hinfo, hcomp]
theorem run_eql_iface_int (w : World) {ti tn : TypeId} {ms : Array (String × TypeId)} {i : TypeInfo} {k : IntKind} (a b : Int)
    (hi : Tryz.prog.underlying ti = some (.interface ms)) (hn : Tryz.prog.underlying tn = some (.int k)) (hinfo : Tryz.prog.info? tn = some i) (hcomp : i.comparable = true) :
    (binOp .eql ti (.iface tn (.int k a)) (.iface tn (.int k b))).run Tryz.prog w = .ok (.bool (a == b)) w := by
  simp only [binOp]
  simp [Op.equal, Op.maxDepth, run_equalIn_iface_int w 9998 a b hi hn hinfo hcomp]
theorem is_comp : (Tryz.prog.info? 29).map (·.comparable) = some true := by kernel_rfl
theorem is_eql (a b : Int) (w : World) : (binOp .eql 63 (.iface 29 (.int .i64 a)) (.iface 29 (.int .i64 b))).run Tryz.prog w = .ok (.bool (a == b)) w := by
  obtain ⟨i, hi, hcmp⟩ := Option.map_eq_some_iff.1 is_comp
  exact run_eql_iface_int w a b Tryz.underlying63 Tryz.underlying29 hi hcmp

set_option maxRecDepth 100000 in
set_option maxHeartbeats 4000000 in
theorem is_any (a b : Int) (w : World) :
    Calls Tryz.prog 33 #[.iface 29 (.int .i64 a), .iface 29 (.int .i64 b), .bool true] w fun e w' => e = .returned (.bool (a == b)) ∧ w = w' := by
  have y1 := is_lacksI
  have y2 := is_lacksU
  have y3 := is_lacksS
  have y4 := is_eql a b
  cases hab : a == b
  all_goals
    rw [hab] at y4
    clear hab
    go_enter Tryz.func33, Tryz.ntmps33
    go_wp2
    refine wp_loop_rounds 1 ?_
    rw [rounds_succ]
    go_wp2
    go_ret
    exact ⟨rfl, rfl⟩

set_option maxRecDepth 100000 in
set_option maxHeartbeats 1000000 in
theorem errorsIs_any (a b : Int) (w : World) :
    Calls Tryz.prog 21 #[.iface 29 (.int .i64 a), .iface 29 (.int .i64 b)] w fun e w' => e = .returned (.bool (a == b)) ∧ w = w' := by
  have h8 := @run_callFunc_extern Tryz.prog 32 _ ReflectliteType.typeOf Tryz.func32 (by kernel_rfl) (by kernel_rfl) (by kernel_rfl) (by kernel_rfl)
  have h32 := @run_callFunc_extern Tryz.prog 142 _ (ReflectliteType.method fun t => do Rtype.noPackHeld "Comparable" t; pure (.bool (← typeInfo t).comparable)) Tryz.func142 (by kernel_rfl) (by kernel_rfl) (by kernel_rfl) (by kernel_rfl)
  have tT := is_typeOf
  have cT := is_comparable
  have mR := is_methodComparable
  have HIS := Lib.hid (is_any a b w)
  generalize (a == b) = z at HIS ⊢
  go_enter Tryz.func21, Tryz.ntmps21
  go_wp2_with fail
  refine (Hid.out HIS).mono ?_
  rintro e w' ⟨rfl, rfl⟩
  go_wp2
  go_ret
  exact ⟨rfl, rfl⟩
end Go.Proofs.YtlelemjmknbnaaaGreatDoor
