/- Two labels that are one, compared. -/
import Derived.Test.YtnbghappfclnjaaLabMem
import Derived.Laws.StructEq
namespace Go.Proofs.Ytnbghappfclnjaa
open Go.RowKit
theorem lbl_struct : Try.prog.underlying 33 = some (.struct (Try.prog.fieldsOf 33)) := by kernel_rfl
theorem lbl_stood : Try.prog.stoodInHeld 33 = false := by kernel_rfl
theorem lbl_guard : Try.prog.eqGuardType Try.prog.depth 33 = false := by kernel_rfl
theorem lbl_fields : (Try.prog.fieldsOf 33).toList.map (fun f => (f.name, f.type, f.offset)) = [("Name", 9, 0), ("Value", 9, 1)] := by kernel_rfl
theorem lbl_part0 (a b : ByteArray) (w : World) : (part 9 #[.string a, .string b] 0).run Try.prog w = .ok (.string a) w := by kernel_rfl
theorem lbl_part1 (a b : ByteArray) (w : World) : (part 9 #[.string a, .string b] 1).run Try.prog w = .ok (.string b) w := by kernel_rfl
theorem lbl_neq (a b : ByteArray) (w : World) : (binOp .neq 33 (.agg #[.string a, .string b]) (.agg #[.string a, .string b])).run Try.prog w = .ok (.bool false) w := by
  rw [run_neq_struct, run_equalIn_struct (P := Try.prog) w 9999 33 _ _ lbl_struct lbl_stood]
  have hf := lbl_fields
  generalize (Try.prog.fieldsOf 33).toList = fs at hf
  rcases fs with _ | ⟨f, _ | ⟨g, _ | ⟨h, fs⟩⟩⟩
  · cases hf
  · simp at hf
  · simp only [List.map_cons, List.map_nil, List.cons.injEq, Prod.mk.injEq, and_true] at hf
    obtain ⟨⟨n1, t1, o1⟩, n2, t2, o2⟩ := hf
    have es := fun (x : ByteArray) (W : World) => run_equalIn_string (P := Try.prog) W 9998 9 x x Try.underlying9
    simp [Op.eqFields, n1, n2, t1, t2, o1, o2, lbl_part0, lbl_part1, es, Result.andThen]
  · simp at hf
end Go.Proofs.Ytnbghappfclnjaa
