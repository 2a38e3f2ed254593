/- What came in: a target. -/
import Derived.Test.YtnbghappfclnjaaGreatCfBox
import Derived.Deep.SlicePairs
import Derived.SizedLaws
import Derived.ProofKit
import Derived.OpenShut
import Derived.ShutString
import Derived.ChangeOld
import Derived.Below
namespace Go.Proofs.YtnbghappfclnjaaGreat
open Go.ChangeShapes Go.WideShapes Go.ChangeAt Go.RowKit Go.Deep

theorem fld {fs : Array Field} {L : List (TypeId × Nat)} (h : fs.toList.map (fun f => (f.type, f.offset)) = L) {i : Nat} {ty : TypeId} {off : Nat} (hi : L[i]? = some (ty, off)) : ∃ f, fs[i]? = some f ∧ f.type = ty ∧ f.offset = off := by
  rw [← h, List.getElem?_map] at hi
  cases hf : fs.toList[i]? with
  | none => rw [hf] at hi; cases hi
  | some f =>
    rw [hf] at hi
    cases hi
    exact ⟨f, by rw [← Array.getElem?_toList]; exact hf, rfl, rfl⟩
/-- A struct's fields, each by its number. -/
theorem trod_flds {H : Type} {enc : TypeId × Value → H} {P : Program} {W : World} {base fuel : Nat} {spare : Nat → Bool} {held : Bool} {t : TypeId} {fs : Array Field} {L : List (TypeId × Nat)} {cs : List Value} {x : DataW H × List MemPlace}
    (hs : P.underlying t = some (.struct fs)) (hL : fs.toList.map (fun f => (f.type, f.offset)) = L) (h : DataW.trod enc P W base spare held fuel t cs = some x) :
    ∃ n : Nat, cs.length = P.cellsOf t ∧ ∀ (i : Nat) (ty : TypeId) (off : Nat), L[i]? = some (ty, off) → ∃ y, DataW.trod enc P W base spare held n ty ((cs.drop off).take (P.cellsOf ty)) = some y ∧ ∀ k ∈ y.1.weights P ty, k ∈ x.1.weights P t := by
  obtain ⟨xs, n, _, rfl, hl, hlen, hf⟩ := DataW.trod_struct hs h
  refine ⟨n, hl, fun i ty off hi => ?_⟩
  obtain ⟨f, hfi, rfl, rfl⟩ := fld hL hi
  have h1 := hf i f hfi
  have hlt : i < xs.length := by
    rw [hlen]
    exact (Array.getElem?_eq_some_iff.1 hfi).1
  obtain ⟨y, hy⟩ : ∃ y, xs[i]? = some y := ⟨_, List.getElem?_eq_getElem hlt⟩
  rw [hy] at h1
  refine ⟨y, h1, fun k hk => ?_⟩
  have e : (fs.toList.map (·.type))[i]? = some f.type := by
    rw [List.getElem?_map, Array.getElem?_toList, hfi]
    rfl
  have e2 : (xs.map (·.1))[i]? = some y.1 := by
    rw [List.getElem?_map, hy]
    rfl
  have := DataW.weights_mem_each e e2 k hk
  simpa [DataW.weights, hs] using this
theorem tg_struct : Tryz.prog.underlying 30 = some (.struct (Tryz.prog.fieldsOf 30)) := by kernel_rfl
theorem tg_fields : (Tryz.prog.fieldsOf 30).toList.map (fun f => (f.type, f.offset)) = [(9, 0), (9, 1), (9, 2), (2, 3), (2, 4)] := by kernel_rfl
theorem cells_tg : Tryz.prog.cellsOf 30 = 5 := by kernel_rfl
theorem cells_st : Tryz.prog.cellsOf 9 = 1 := by kernel_rfl
theorem cells_i64 : Tryz.prog.cellsOf 2 = 1 := by kernel_rfl
theorem list5 {α : Type} : ∀ {l : List α}, l.length = 5 → ∃ a b c d e, l = [a, b, c, d, e]
  | [a, b, c, d, e], _ => ⟨a, b, c, d, e, rfl⟩
def In64 (x : Int) : Prop := -9223372036854775808 ≤ x ∧ x ≤ 9223372036854775807
theorem in64_of {x : Int} (h : (Lit.int .i64 x).wf = true) : In64 x := by
  simp [Lit.wf, IntKind.min, IntKind.max, IntKind.bits, IntKind.signed] at h
  unfold In64
  omega
theorem weight_str {H : Type} {P : Program} {t : TypeId} {s : ByteArray} : s.size ∈ (DataW.lit (.string s.data.toList) : DataW H).weights P t := by
  unfold DataW.weights
  rw [← Lib.size_eq]
  exact List.mem_singleton.2 rfl
set_option maxRecDepth 100000 in
theorem trod_tg {H : Type} {enc : TypeId × Value → H} {W : World} {fuel : Nat} {cs : List Value} {x : DataW H × List MemPlace} (h : DataW.trod enc Tryz.prog W 0 (fun _ => true) true fuel 30 cs = some x) :
    ∃ t : Tg, cs = [.string t.job, .string t.host, .string t.path, .int .i64 t.iv, .int .i64 t.tm] ∧ In64 t.iv ∧ In64 t.tm ∧ t.job.size ∈ x.1.weights Tryz.prog 30 ∧ t.host.size ∈ x.1.weights Tryz.prog 30 ∧ t.path.size ∈ x.1.weights Tryz.prog 30 := by
  obtain ⟨n, hl, hf⟩ := trod_flds tg_struct tg_fields h
  rw [cells_tg] at hl
  obtain ⟨c0, c1, c2, c3, c4, rfl⟩ := list5 hl
  obtain ⟨y0, h0, w0⟩ := hf 0 _ _ rfl
  obtain ⟨y1, h1, w1⟩ := hf 1 _ _ rfl
  obtain ⟨y2, h2, w2⟩ := hf 2 _ _ rfl
  obtain ⟨y3, h3, _⟩ := hf 3 _ _ rfl
  obtain ⟨y4, h4, _⟩ := hf 4 _ _ rfl
  simp only [cells_st, cells_i64] at h0 h1 h2 h3 h4
  obtain ⟨s0, e0, d0, _⟩ := DataW.trod_string Tryz.underlying9 h0
  obtain ⟨s1, e1, d1, _⟩ := DataW.trod_string Tryz.underlying9 h1
  obtain ⟨s2, e2, d2, _⟩ := DataW.trod_string Tryz.underlying9 h2
  obtain ⟨k3, e3, _, g3⟩ := DataW.trod_int Tryz.underlying2 h3
  obtain ⟨k4, e4, _, g4⟩ := DataW.trod_int Tryz.underlying2 h4
  simp at e0 e1 e2 e3 e4
  subst e0 e1 e2 e3 e4
  rw [d0] at w0
  rw [d1] at w1
  rw [d2] at w2
  exact ⟨⟨s0, s1, s2, k3, k4⟩, rfl, in64_of g3, in64_of g4, w0 _ weight_str, w1 _ weight_str, w2 _ weight_str⟩
set_option maxRecDepth 100000 in
theorem open_tg {H : Type} {enc : TypeId × Value → H} {W : World} {r : Reach} {b0 : Nat} {v : Value} {d : DataW H} {p : List MemPlace} (hv : Value.okWide Tryz.prog W r b0 30 v)
    (h : DataW.Trod enc Tryz.prog W 0 (fun _ => true) true 30 v d p) :
    ∃ t : Tg, v = t.val ∧ In64 t.iv ∧ In64 t.tm ∧ t.job.size ∈ d.weights Tryz.prog 30 ∧ t.host.size ∈ d.weights Tryz.prog 30 ∧ t.path.size ∈ d.weights Tryz.prog 30 := by
  obtain ⟨cs, rfl, _⟩ := okWide_struct tg_struct hv
  obtain ⟨fuel, hf⟩ := h
  obtain ⟨t, e, h1⟩ := trod_tg hf
  refine ⟨t, ?_, h1⟩
  have e2 : cs.toList = [.string t.job, .string t.host, .string t.path, .int .i64 t.iv, .int .i64 t.tm] := by simpa [Value.cells] using e
  unfold Tg.val
  obtain ⟨cs⟩ := cs
  simp only at e2
  rw [e2]
end Go.Proofs.YtnbghappfclnjaaGreat
