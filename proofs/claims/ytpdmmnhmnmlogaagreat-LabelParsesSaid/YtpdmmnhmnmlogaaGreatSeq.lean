/- Two labels that are one, compared. -/
import Derived.Test.YtpdmmnhmnmlogaaGreatLabMem
import Derived.Laws.StructEq
namespace Go.Proofs.YtpdmmnhmnmlogaaGreat
open Go.RowKit
theorem lbl_struct : Tryz.prog.underlying 42 = some (.struct (Tryz.prog.fieldsOf 42)) := by kernel_rfl
theorem lbl_stood : Tryz.prog.stoodInHeld 42 = false := by kernel_rfl
theorem lbl_guard : Tryz.prog.eqGuardType Tryz.prog.depth 42 = false := by kernel_rfl
theorem lbl_fields : (Tryz.prog.fieldsOf 42).toList.map (fun f => (f.name, f.type, f.offset)) = [("Name", 9, 0), ("Value", 9, 1)] := by kernel_rfl
theorem lbl_part0 (a b : ByteArray) (w : World) : (part 9 #[.string a, .string b] 0).run Tryz.prog w = .ok (.string a) w := by kernel_rfl
theorem lbl_part1 (a b : ByteArray) (w : World) : (part 9 #[.string a, .string b] 1).run Tryz.prog w = .ok (.string b) w := by kernel_rfl
theorem lbl_neq (a b : ByteArray) (w : World) : (binOp .neq 42 (.agg #[.string a, .string b]) (.agg #[.string a, .string b])).run Tryz.prog w = .ok (.bool false) w := by
  rw [run_neq_struct, run_equalIn_struct (P := Tryz.prog) w 9999 42 _ _ lbl_struct lbl_stood]
  have hf := lbl_fields
  generalize (Tryz.prog.fieldsOf 42).toList = fs at hf
  rcases fs with _ | ⟨f, _ | ⟨g, _ | ⟨h, fs⟩⟩⟩
  · cases hf
  · simp at hf
  · simp only [List.map_cons, List.map_nil, List.cons.injEq, Prod.mk.injEq, and_true] at hf
    obtain ⟨⟨n1, t1, o1⟩, n2, t2, o2⟩ := hf
    have es := fun (x : ByteArray) (W : World) => run_equalIn_string (P := Tryz.prog) W 9998 9 x x Tryz.underlying9
    simp [Op.eqFields, n1, n2, t1, t2, o1, o2, lbl_part0, lbl_part1, es, Result.andThen]
  · simp at hf
end Go.Proofs.YtpdmmnhmnmlogaaGreat
