/- Two targets, compared. -/
import Derived.Test.YtnbghappfclnjaaCfMem
import Derived.Laws.StructEq
namespace Go.Proofs.Ytnbghappfclnjaa
open Go.RowKit

def tgE (t u : Tg) : Bool := (t.job.toList == u.job.toList) && ((t.host.toList == u.host.toList) && ((t.path.toList == u.path.toList) && ((t.iv == u.iv) && (t.tm == u.tm))))
theorem toList_inj {a b : ByteArray} (h : a.toList = b.toList) : a = b := by
  rw [Lib.toList_data, Lib.toList_data] at h
  obtain ⟨⟨a⟩⟩ := a
  obtain ⟨⟨b⟩⟩ := b
  simp only at h
  rw [h]
theorem tgE_iff {t u : Tg} : tgE t u = true ↔ t = u := by
  constructor
  · intro h
    obtain ⟨a, b, c, d, e⟩ := t
    obtain ⟨a', b', c', d', e'⟩ := u
    simp only [tgE, Bool.and_eq_true, beq_iff_eq] at h
    obtain ⟨h1, h2, h3, h4, h5⟩ := h
    rw [toList_inj h1, toList_inj h2, toList_inj h3, h4, h5]
  · rintro rfl
    simp [tgE]
theorem tg_str : Try.prog.underlying 23 = some (.struct (Try.prog.fieldsOf 23)) := by kernel_rfl
theorem tg_stood : Try.prog.stoodInHeld 23 = false := by kernel_rfl
theorem tg_guard : Try.prog.eqGuardType Try.prog.depth 23 = false := by kernel_rfl
theorem sl_guard : Try.prog.eqGuardType Try.prog.depth 36 = false := by kernel_rfl
theorem tg_named : (Try.prog.fieldsOf 23).toList.map (fun f => (f.name, f.type, f.offset)) = [("Job", 9, 0), ("Host", 9, 1), ("Path", 9, 2), ("Interval", 2, 3), ("Timeout", 2, 4)] := by kernel_rfl
section
variable (a b c : ByteArray) (d e : Int) (w : World)
theorem tg_part0 : (part 9 #[.string a, .string b, .string c, .int .i64 d, .int .i64 e] 0).run Try.prog w = .ok (.string a) w := by kernel_rfl
theorem tg_part1 : (part 9 #[.string a, .string b, .string c, .int .i64 d, .int .i64 e] 1).run Try.prog w = .ok (.string b) w := by kernel_rfl
theorem tg_part2 : (part 9 #[.string a, .string b, .string c, .int .i64 d, .int .i64 e] 2).run Try.prog w = .ok (.string c) w := by kernel_rfl
theorem tg_part3 : (part 2 #[.string a, .string b, .string c, .int .i64 d, .int .i64 e] 3).run Try.prog w = .ok (.int .i64 d) w := by kernel_rfl
theorem tg_part4 : (part 2 #[.string a, .string b, .string c, .int .i64 d, .int .i64 e] 4).run Try.prog w = .ok (.int .i64 e) w := by kernel_rfl
end
set_option maxRecDepth 100000 in
theorem tg_fldE (t u : Tg) (w : World) : (Op.eqFields 9999 #[.string t.job, .string t.host, .string t.path, .int .i64 t.iv, .int .i64 t.tm] #[.string u.job, .string u.host, .string u.path, .int .i64 u.iv, .int .i64 u.tm] (Try.prog.fieldsOf 23).toList).run Try.prog w = .ok (tgE t u) w := by
  have hf := tg_named
  generalize (Try.prog.fieldsOf 23).toList = fs at hf
  rcases fs with _ | ⟨f0, _ | ⟨f1, _ | ⟨f2, _ | ⟨f3, _ | ⟨f4, _ | ⟨f5, fs⟩⟩⟩⟩⟩⟩
  · cases hf
  · simp at hf
  · simp at hf
  · simp at hf
  · simp at hf
  · simp only [List.map_cons, List.map_nil, List.cons.injEq, Prod.mk.injEq, and_true] at hf
    obtain ⟨⟨n0, t0, o0⟩, ⟨n1, t1, o1⟩, ⟨n2, t2, o2⟩, ⟨n3, t3, o3⟩, n4, t4, o4⟩ := hf
    have es := fun (x y : ByteArray) (W : World) => run_equalIn_string (P := Try.prog) W 9998 9 x y Try.underlying9
    have ei := fun (x y : Int) (W : World) => run_equalIn_int (P := Try.prog) W 9998 2 .i64 .i64 x y Try.underlying2
    unfold tgE
    cases h0 : (t.job.toList == u.job.toList) <;> cases h1 : (t.host.toList == u.host.toList) <;> cases h2 : (t.path.toList == u.path.toList) <;> cases h3 : (t.iv == u.iv) <;> cases h4 : (t.tm == u.tm) <;>
      simp [Op.eqFields, n0, n1, n2, n3, n4, t0, t1, t2, t3, t4, o0, o1, o2, o3, o4, tg_part0, tg_part1, tg_part2, tg_part3, tg_part4, es, ei, Result.andThen, h0, h1, h2, h3, h4]
  · simp at hf
theorem tg_neq (t u : Tg) (w : World) : (binOp .neq 23 t.val u.val).run Try.prog w = .ok (.bool (!tgE t u)) w := by
  unfold Tg.val
  rw [run_neq_struct, run_equalIn_struct (P := Try.prog) w 9999 23 _ _ tg_str tg_stood, tg_fldE]
  rfl
theorem tg_eql (t u : Tg) (w : World) : (binOp .eql 23 t.val u.val).run Try.prog w = .ok (.bool (tgE t u)) w := by
  unfold Tg.val
  rw [run_eql_struct, run_equalIn_struct (P := Try.prog) w 9999 23 _ _ tg_str tg_stood, tg_fldE]
  rfl
theorem nil_eql (B : Option Addr) (n cb : Nat) (w : World) (h : B = none → n = 0 ∧ cb = 0) : (binOp .eql 36 (.slice B n cb) (.slice none 0 0)).run Try.prog w = .ok (.bool B.isNone) w := by
  cases B with
  | none =>
    obtain ⟨rfl, rfl⟩ := h rfl
    kernel_rfl
  | some a => kernel_rfl
end Go.Proofs.Ytnbghappfclnjaa
