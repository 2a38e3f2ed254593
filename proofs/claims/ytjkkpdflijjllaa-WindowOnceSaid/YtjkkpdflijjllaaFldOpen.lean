/- What came in: a struct's fields by their numbers, rows, weights: words that name no law. -/
import Derived.Test.YtjkkpdflijjllaaRowK2
import Derived.Test.YtjkkpdflijjllaaRows
import Derived.Deep.SlicePairs
import Derived.Deep.Strs
import Derived.SizedLaws
import Derived.ProofKit
import Derived.OpenShut
import Derived.ShutString
import Derived.ChangeOld
import Derived.Below
import Derived.HandedShaped
namespace Go.Proofs.Ytjkkpdflijjllaa
open Go.ChangeShapes Go.WideShapes Go.ChangeAt Go.RowKit Go.Deep

theorem fld {fs : Array Field} {L : List (TypeId × Nat)} (h : fs.toList.map (fun f => (f.type, f.offset)) = L) {i : Nat} {ty : TypeId} {off : Nat} (hi : L[i]? = some (ty, off)) : ∃ f, fs[i]? = some f ∧ f.type = ty ∧ f.offset = off := by
  rw [← h, List.getElem?_map] at hi
  cases hf : fs.toList[i]? with
  | none => rw [hf] at hi; cases hi
  | some f =>
    rw [hf] at hi
    cases hi
    exact ⟨f, by rw [← Array.getElem?_toList]; exact hf, rfl, rfl⟩
/-- A struct's fields, each by its number. -/
theorem trod_flds {H : Type} {enc : TypeId × Value → H} {P : Program} {W : World} {base fuel : Nat} {spare : Nat → Bool} {held : Bool} {t : TypeId} {fs : Array Field} {L : List (TypeId × Nat)} {cs : List Value} {x : DataW H × List MemPlace}
    (hs : P.underlying t = some (.struct fs)) (hL : fs.toList.map (fun f => (f.type, f.offset)) = L) (h : DataW.trod enc P W base spare held fuel t cs = some x) :
    ∃ n : Nat, cs.length = P.cellsOf t ∧ ∀ (i : Nat) (ty : TypeId) (off : Nat), L[i]? = some (ty, off) → ∃ y, DataW.trod enc P W base spare held n ty ((cs.drop off).take (P.cellsOf ty)) = some y ∧ ∀ k ∈ y.1.weights P ty, k ∈ x.1.weights P t := by
  obtain ⟨xs, n, _, rfl, hl, hlen, hf⟩ := DataW.trod_struct hs h
  refine ⟨n, hl, fun i ty off hi => ?_⟩
  obtain ⟨f, hfi, rfl, rfl⟩ := fld hL hi
  have h1 := hf i f hfi
  have hlt : i < xs.length := by
    rw [hlen]
    exact (Array.getElem?_eq_some_iff.1 hfi).1
  obtain ⟨y, hy⟩ : ∃ y, xs[i]? = some y := ⟨_, List.getElem?_eq_getElem hlt⟩
  rw [hy] at h1
  refine ⟨y, h1, fun k hk => ?_⟩
  have e : (fs.toList.map (·.type))[i]? = some f.type := by
    rw [List.getElem?_map, Array.getElem?_toList, hfi]
    rfl
  have e2 : (xs.map (·.1))[i]? = some y.1 := by
    rw [List.getElem?_map, hy]
    rfl
  have := DataW.weights_mem_each e e2 k hk
  simpa [DataW.weights, hs] using this
theorem reads_of {α : Type} {K : EK α} {P : Program} (ok : K.Ok P) {W : World} {len : Nat} {x : Addr} {Y : Nat → α} (hs : x.spot = none ∧ x.block < W.heap.size) (h : ∀ i, i < len → ∀ j u, (K.enc (Y i))[j]? = some u → W.cell? (x.add (i * K.sz + j)) = some u) : K.Reads W W.heap.size (some x) ((List.range len).map Y) := by
  obtain ⟨b, off, spot⟩ := x
  obtain ⟨hs1, hs2⟩ := hs
  simp only at hs1 hs2
  subst hs1
  refine .inr ⟨b, off, rfl, hs2, fun t u hu => ?_⟩
  have hlen := EK.flat_len ok ((List.range len).map Y)
  have ht : t < len * K.sz := by
    have := (List.getElem?_eq_some_iff.1 hu).1
    rw [hlen] at this
    simpa using this
  have hpos := ok.pos
  have hq : t / K.sz < len := (Nat.div_lt_iff_lt_mul hpos).2 ht
  have hx : ((List.range len).map Y)[t / K.sz]? = some (Y (t / K.sz)) := by simp [hq]
  have hd := Nat.div_add_mod t K.sz
  have hm := Nat.mod_lt t hpos
  have hl := ok.len (Y (t / K.sz))
  obtain ⟨v, hv⟩ : ∃ v, (K.enc (Y (t / K.sz)))[t % K.sz]? = some v := ⟨_, List.getElem?_eq_getElem (by omega)⟩
  have h1 := EK.flat_at ok hx (t % K.sz) v hv
  have e : t / K.sz * K.sz + t % K.sz = t := by rw [Nat.mul_comm]; exact hd
  rw [e, hu] at h1
  cases h1
  have h2 := h (t / K.sz) hq (t % K.sz) u hv
  rw [e, add_plain'] at h2
  exact h2
theorem weights_all {H : Type} {P : Program} {e : TypeId} {n : Nat} : ∀ {ds : List (DataW H)} {d : DataW H}, d ∈ ds → n ∈ d.weights P e → n ∈ DataW.weightsAll P e ds
  | x :: ds, d, hd, hn => by
    unfold DataW.weightsAll
    rw [List.mem_append]
    rcases List.mem_cons.1 hd with rfl | h
    · exact .inl hn
    · exact .inr (weights_all h hn)
theorem cells_st : Try.prog.cellsOf 9 = 1 := by kernel_rfl
theorem cells_i64 : Try.prog.cellsOf 2 = 1 := by kernel_rfl
theorem cells_in : Try.prog.cellsOf 3 = 1 := by kernel_rfl
theorem cells_bo : Try.prog.cellsOf 4 = 1 := by kernel_rfl
theorem list4 {α : Type} : ∀ {l : List α}, l.length = 4 → ∃ a b c d, l = [a, b, c, d]
  | [a, b, c, d], _ => ⟨a, b, c, d, rfl⟩
theorem list2 {α : Type} : ∀ {l : List α}, l.length = 2 → ∃ a b, l = [a, b]
  | [a, b], _ => ⟨a, b, rfl⟩
theorem in64_of {x : Int} (h : (Lit.int .i64 x).wf = true) : -9223372036854775808 ≤ x ∧ x ≤ 9223372036854775807 := by
  simp [Lit.wf, IntKind.min, IntKind.max, IntKind.bits, IntKind.signed] at h
  omega
theorem weight_str {H : Type} {P : Program} {t : TypeId} {s : ByteArray} : s.size ∈ (DataW.lit (.string s.data.toList) : DataW H).weights P t := by
  unfold DataW.weights
  exact List.mem_singleton.2 (by show s.data.size = _; simp)
end Go.Proofs.Ytjkkpdflijjllaa
