/- Two series of a store, compared. -/
import Derived.Test.YtcjmieofmogeiaaStRef
import Derived.Laws.StructEq
namespace Go.Proofs.Ytcjmieofmogeiaa
open Go.RowKit

def smpE (s t : Smp) : Bool := (s.name.toList == t.name.toList) && ((s.val == t.val) && ((s.tm == t.tm) && (s.cnt == t.cnt)))
def snE (x y : Sn) : Bool := smpE x.s y.s && ((x.v == y.v) && ((x.chain == y.chain) && (x.ahead == y.ahead)))
theorem toList_inj {a b : ByteArray} (h : a.toList = b.toList) : a = b := by
  rw [Lib.toList_data, Lib.toList_data] at h
  obtain ⟨⟨a⟩⟩ := a
  obtain ⟨⟨b⟩⟩ := b
  simp only at h
  rw [h]
theorem smpE_iff {t u : Smp} : smpE t u = true ↔ t = u := by
  constructor
  · intro h
    obtain ⟨a, b, c, d⟩ := t
    obtain ⟨a', b', c', d'⟩ := u
    simp only [smpE, Bool.and_eq_true, beq_iff_eq] at h
    obtain ⟨h1, h2, h3, h4⟩ := h
    rw [toList_inj h1, h2, h3, h4]
  · rintro rfl
    simp [smpE]
theorem snE_iff {t u : Sn} : snE t u = true ↔ t = u := by
  constructor
  · intro h
    obtain ⟨a, b, c, d⟩ := t
    obtain ⟨a', b', c', d'⟩ := u
    simp only [snE, Bool.and_eq_true, beq_iff_eq, smpE_iff] at h
    obtain ⟨h1, h2, h3, h4⟩ := h
    rw [h1, h2, h3, h4]
  · rintro rfl
    have := (smpE_iff (t := t.s) (u := t.s)).2 rfl
    simp [snE, this]
theorem smp_str : Try.prog.underlying 52 = some (.struct (Try.prog.fieldsOf 52)) := by kernel_rfl
theorem smp_stood : Try.prog.stoodInHeld 52 = false := by kernel_rfl
theorem sn_str : Try.prog.underlying 71 = some (.struct (Try.prog.fieldsOf 71)) := by kernel_rfl
theorem sn_stood : Try.prog.stoodInHeld 71 = false := by kernel_rfl
theorem sn_guard : Try.prog.eqGuardType Try.prog.depth 71 = false := by kernel_rfl
theorem smp_named : (Try.prog.fieldsOf 52).toList.map (fun f => (f.name, f.type, f.offset)) = [("Name", 9, 0), ("Value", 2, 1), ("Time", 2, 2), ("Counts", 4, 3)] := by kernel_rfl
theorem sn_named : (Try.prog.fieldsOf 71).toList.map (fun f => (f.name, f.type, f.offset)) = [("Sample", 52, 0), ("Verdict", 69, 4), ("Chain", 4, 5), ("Ahead", 2, 6)] := by kernel_rfl
section
variable (a : ByteArray) (b c e g : Int) (d f : Bool) (w : World)
theorem smp_part0 : (part 9 #[.string a, .int .i64 b, .int .i64 c, .bool d] 0).run Try.prog w = .ok (.string a) w := by kernel_rfl
theorem smp_part1 : (part 2 #[.string a, .int .i64 b, .int .i64 c, .bool d] 1).run Try.prog w = .ok (.int .i64 b) w := by kernel_rfl
theorem smp_part2 : (part 2 #[.string a, .int .i64 b, .int .i64 c, .bool d] 2).run Try.prog w = .ok (.int .i64 c) w := by kernel_rfl
theorem smp_part3 : (part 4 #[.string a, .int .i64 b, .int .i64 c, .bool d] 3).run Try.prog w = .ok (.bool d) w := by kernel_rfl
theorem sn_part0 : (part 52 #[.string a, .int .i64 b, .int .i64 c, .bool d, .int .i64 e, .bool f, .int .i64 g] 0).run Try.prog w = .ok (.agg #[.string a, .int .i64 b, .int .i64 c, .bool d]) w := by kernel_rfl
theorem sn_part4 : (part 69 #[.string a, .int .i64 b, .int .i64 c, .bool d, .int .i64 e, .bool f, .int .i64 g] 4).run Try.prog w = .ok (.int .i64 e) w := by kernel_rfl
theorem sn_part5 : (part 4 #[.string a, .int .i64 b, .int .i64 c, .bool d, .int .i64 e, .bool f, .int .i64 g] 5).run Try.prog w = .ok (.bool f) w := by kernel_rfl
theorem sn_part6 : (part 2 #[.string a, .int .i64 b, .int .i64 c, .bool d, .int .i64 e, .bool f, .int .i64 g] 6).run Try.prog w = .ok (.int .i64 g) w := by kernel_rfl
end
set_option maxRecDepth 100000 in
theorem smp_fldE (D : Nat) (t u : Smp) (w : World) : (Op.eqFields (D + 1) #[.string t.name, .int .i64 t.val, .int .i64 t.tm, .bool t.cnt] #[.string u.name, .int .i64 u.val, .int .i64 u.tm, .bool u.cnt] (Try.prog.fieldsOf 52).toList).run Try.prog w = .ok (smpE t u) w := by
  have hf := smp_named
  generalize (Try.prog.fieldsOf 52).toList = fs at hf
  rcases fs with _ | ⟨f0, _ | ⟨f1, _ | ⟨f2, _ | ⟨f3, _ | ⟨f4, fs⟩⟩⟩⟩⟩
  · cases hf
  · simp at hf
  · simp at hf
  · simp at hf
  · simp only [List.map_cons, List.map_nil, List.cons.injEq, Prod.mk.injEq, and_true] at hf
    obtain ⟨⟨n0, t0, o0⟩, ⟨n1, t1, o1⟩, ⟨n2, t2, o2⟩, n3, t3, o3⟩ := hf
    have es := fun (x y : ByteArray) (W : World) => run_equalIn_string (P := Try.prog) W D 9 x y Try.underlying9
    have ei := fun (x y : Int) (W : World) => run_equalIn_int (P := Try.prog) W D 2 .i64 .i64 x y Try.underlying2
    have eb := fun (x y : Bool) (W : World) => run_equalIn_bool (P := Try.prog) W D 4 x y Try.underlying4
    unfold smpE
    cases h0 : (t.name.toList == u.name.toList) <;> cases h1 : (t.val == u.val) <;> cases h2 : (t.tm == u.tm) <;> cases h3 : (t.cnt == u.cnt) <;>
      simp [Op.eqFields, n0, n1, n2, n3, t0, t1, t2, t3, o0, o1, o2, o3, smp_part0, smp_part1, smp_part2, smp_part3, es, ei, eb, Result.andThen, h0, h1, h2, h3]
  · simp at hf
set_option maxRecDepth 100000 in
theorem sn_fldE (t u : Sn) (w : World) : (Op.eqFields 9999 t.cells.toArray u.cells.toArray (Try.prog.fieldsOf 71).toList).run Try.prog w = .ok (snE t u) w := by
  have hf := sn_named
  generalize (Try.prog.fieldsOf 71).toList = fs at hf
  rcases fs with _ | ⟨f0, _ | ⟨f1, _ | ⟨f2, _ | ⟨f3, _ | ⟨f4, fs⟩⟩⟩⟩⟩
  · cases hf
  · simp at hf
  · simp at hf
  · simp at hf
  · simp only [List.map_cons, List.map_nil, List.cons.injEq, Prod.mk.injEq, and_true] at hf
    obtain ⟨⟨n0, t0, o0⟩, ⟨n1, t1, o1⟩, ⟨n2, t2, o2⟩, n3, t3, o3⟩ := hf
    have es := fun (x y : Smp) (W : World) => (run_equalIn_struct (P := Try.prog) W 9998 52 #[.string x.name, .int .i64 x.val, .int .i64 x.tm, .bool x.cnt] #[.string y.name, .int .i64 y.val, .int .i64 y.tm, .bool y.cnt] smp_str smp_stood).trans (smp_fldE 9997 x y W)
    have ei := fun (x y : Int) (W : World) => run_equalIn_int (P := Try.prog) W 9998 2 .i64 .i64 x y Try.underlying2
    have en := fun (x y : Int) (W : World) => run_equalIn_int (P := Try.prog) W 9998 69 .i64 .i64 x y Try.underlying69
    have eb := fun (x y : Bool) (W : World) => run_equalIn_bool (P := Try.prog) W 9998 4 x y Try.underlying4
    unfold snE Sn.cells
    cases h0 : smpE t.s u.s <;> cases h1 : (t.v == u.v) <;> cases h2 : (t.chain == u.chain) <;> cases h3 : (t.ahead == u.ahead) <;>
      simp [Op.eqFields, n0, n1, n2, n3, t0, t1, t2, t3, o0, o1, o2, o3, sn_part0, sn_part4, sn_part5, sn_part6, es, ei, en, eb, Result.andThen, h0, h1, h2, h3]
  · simp at hf
theorem sn_neq (t u : Sn) (w : World) : (binOp .neq 71 t.val' u.val').run Try.prog w = .ok (.bool (!snE t u)) w := by
  have h := sn_fldE t u w
  unfold Sn.cells at h
  unfold Sn.val'
  rw [run_neq_struct, run_equalIn_struct (P := Try.prog) w 9999 71 _ _ sn_str sn_stood, h]
  rfl
end Go.Proofs.Ytcjmieofmogeiaa

namespace Go.Proofs.Ytcjmieofmogeiaa
open Go.RowKit

def lstE (s t : Lst) : Bool := smpE s.s t.s && ((s.live == t.live) && (s.own == t.own))
def oneE (x y : One) : Bool := (x.name.toList == y.name.toList) && lstE x.l y.l
theorem lstE_iff {t u : Lst} : lstE t u = true ↔ t = u := by
  constructor
  · intro h
    obtain ⟨a, b, c⟩ := t
    obtain ⟨a', b', c'⟩ := u
    simp only [lstE, Bool.and_eq_true, beq_iff_eq, smpE_iff] at h
    obtain ⟨h1, h2, h3⟩ := h
    rw [h1, h2, h3]
  · rintro rfl
    have := (smpE_iff (t := t.s) (u := t.s)).2 rfl
    simp [lstE, this]
theorem oneE_iff {t u : One} : oneE t u = true ↔ t = u := by
  constructor
  · intro h
    obtain ⟨a, b⟩ := t
    obtain ⟨a', b'⟩ := u
    simp only [oneE, Bool.and_eq_true, beq_iff_eq, lstE_iff] at h
    obtain ⟨h1, h2⟩ := h
    rw [toList_inj h1, h2]
  · rintro rfl
    have := (lstE_iff (t := t.l) (u := t.l)).2 rfl
    simp [oneE, this]
instance : DecidableEq One := fun _ _ => decidable_of_iff _ oneE_iff
theorem lst_str : Try.prog.underlying 88 = some (.struct (Try.prog.fieldsOf 88)) := by kernel_rfl
theorem lst_stood : Try.prog.stoodInHeld 88 = false := by kernel_rfl
theorem one_str : Try.prog.underlying 100 = some (.struct (Try.prog.fieldsOf 100)) := by kernel_rfl
theorem one_stood : Try.prog.stoodInHeld 100 = false := by kernel_rfl
theorem one_guard : Try.prog.eqGuardType Try.prog.depth 100 = false := by kernel_rfl
theorem lst_named : (Try.prog.fieldsOf 88).toList.map (fun f => (f.name, f.type, f.offset)) = [("Sample", 52, 0), ("Live", 4, 4), ("Owner", 3, 5)] := by kernel_rfl
theorem one_named : (Try.prog.fieldsOf 100).toList.map (fun f => (f.name, f.type, f.offset)) = [("Name", 9, 0), ("L", 88, 1)] := by kernel_rfl
section
variable (n a : ByteArray) (b c e : Int) (d f : Bool) (w : World)
theorem lst_part0 : (part 52 #[.string a, .int .i64 b, .int .i64 c, .bool d, .bool f, .int .i64 e] 0).run Try.prog w = .ok (.agg #[.string a, .int .i64 b, .int .i64 c, .bool d]) w := by kernel_rfl
theorem lst_part4 : (part 4 #[.string a, .int .i64 b, .int .i64 c, .bool d, .bool f, .int .i64 e] 4).run Try.prog w = .ok (.bool f) w := by kernel_rfl
theorem lst_part5 : (part 3 #[.string a, .int .i64 b, .int .i64 c, .bool d, .bool f, .int .i64 e] 5).run Try.prog w = .ok (.int .i64 e) w := by kernel_rfl
theorem one_part0 : (part 9 #[.string n, .string a, .int .i64 b, .int .i64 c, .bool d, .bool f, .int .i64 e] 0).run Try.prog w = .ok (.string n) w := by kernel_rfl
theorem one_part1 : (part 88 #[.string n, .string a, .int .i64 b, .int .i64 c, .bool d, .bool f, .int .i64 e] 1).run Try.prog w = .ok (.agg #[.string a, .int .i64 b, .int .i64 c, .bool d, .bool f, .int .i64 e]) w := by kernel_rfl
end
set_option maxRecDepth 100000 in
theorem lst_fldE (D : Nat) (t u : Lst) (w : World) : (Op.eqFields (D + 2) t.cells.toArray u.cells.toArray (Try.prog.fieldsOf 88).toList).run Try.prog w = .ok (lstE t u) w := by
  have hf := lst_named
  generalize (Try.prog.fieldsOf 88).toList = fs at hf
  rcases fs with _ | ⟨f0, _ | ⟨f1, _ | ⟨f2, _ | ⟨f3, fs⟩⟩⟩⟩
  · cases hf
  · simp at hf
  · simp at hf
  · simp only [List.map_cons, List.map_nil, List.cons.injEq, Prod.mk.injEq, and_true] at hf
    obtain ⟨⟨n0, t0, o0⟩, ⟨n1, t1, o1⟩, n2, t2, o2⟩ := hf
    have es := fun (x y : Smp) (W : World) => (run_equalIn_struct (P := Try.prog) W (D + 1) 52 #[.string x.name, .int .i64 x.val, .int .i64 x.tm, .bool x.cnt] #[.string y.name, .int .i64 y.val, .int .i64 y.tm, .bool y.cnt] smp_str smp_stood).trans (smp_fldE D x y W)
    have en := fun (x y : Int) (W : World) => run_equalIn_int (P := Try.prog) W (D + 1) 3 .i64 .i64 x y Try.underlying3
    have eb := fun (x y : Bool) (W : World) => run_equalIn_bool (P := Try.prog) W (D + 1) 4 x y Try.underlying4
    unfold lstE Lst.cells
    cases h0 : smpE t.s u.s <;> cases h1 : (t.live == u.live) <;> cases h2 : (t.own == u.own) <;>
      simp [Op.eqFields, n0, n1, n2, t0, t1, t2, o0, o1, o2, lst_part0, lst_part4, lst_part5, es, en, eb, Result.andThen, h0, h1, h2]
  · simp at hf
set_option maxRecDepth 100000 in
theorem one_fldE (t u : One) (w : World) : (Op.eqFields 9999 t.cells.toArray u.cells.toArray (Try.prog.fieldsOf 100).toList).run Try.prog w = .ok (oneE t u) w := by
  have hf := one_named
  generalize (Try.prog.fieldsOf 100).toList = fs at hf
  rcases fs with _ | ⟨f0, _ | ⟨f1, _ | ⟨f2, fs⟩⟩⟩
  · cases hf
  · simp at hf
  · simp only [List.map_cons, List.map_nil, List.cons.injEq, Prod.mk.injEq, and_true] at hf
    obtain ⟨⟨n0, t0, o0⟩, n1, t1, o1⟩ := hf
    have es := fun (x y : ByteArray) (W : World) => run_equalIn_string (P := Try.prog) W 9998 9 x y Try.underlying9
    have el := fun (x y : Lst) (W : World) => (run_equalIn_struct (P := Try.prog) W 9998 88 #[.string x.s.name, .int .i64 x.s.val, .int .i64 x.s.tm, .bool x.s.cnt, .bool x.live, .int .i64 x.own] #[.string y.s.name, .int .i64 y.s.val, .int .i64 y.s.tm, .bool y.s.cnt, .bool y.live, .int .i64 y.own] lst_str lst_stood).trans (lst_fldE 9996 x y W)
    unfold oneE One.cells
    cases h0 : (t.name.toList == u.name.toList) <;> cases h1 : lstE t.l u.l <;>
      simp [Op.eqFields, n0, n1, t0, t1, o0, o1, one_part0, one_part1, es, el, Result.andThen, h0, h1]
  · simp at hf
theorem one_neq (t u : One) (w : World) : (binOp .neq 100 (.agg #[.string t.name, .string t.l.s.name, .int .i64 t.l.s.val, .int .i64 t.l.s.tm, .bool t.l.s.cnt, .bool t.l.live, .int .i64 t.l.own]) (.agg #[.string u.name, .string u.l.s.name, .int .i64 u.l.s.val, .int .i64 u.l.s.tm, .bool u.l.s.cnt, .bool u.l.live, .int .i64 u.l.own])).run Try.prog w = .ok (.bool (!oneE t u)) w := by
  have h := one_fldE t u w
  unfold One.cells at h
  rw [run_neq_struct, run_equalIn_struct (P := Try.prog) w 9999 100 _ _ one_str one_stood, h]
  rfl
end Go.Proofs.Ytcjmieofmogeiaa
