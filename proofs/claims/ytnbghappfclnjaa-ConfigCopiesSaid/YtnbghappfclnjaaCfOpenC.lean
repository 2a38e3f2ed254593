/- What came in: a config. -/
import Derived.Test.YtnbghappfclnjaaCfBox
import Derived.Deep.SlicePairs
import Derived.SizedLaws
import Derived.ProofKit
import Derived.OpenShut
import Derived.ShutString
import Derived.ChangeOld
import Derived.Below
import Derived.Test.YtnbghappfclnjaaCfMem
import Derived.Deep.Strs
namespace Go.Proofs.Ytnbghappfclnjaa
open Go.ChangeShapes Go.WideShapes Go.ChangeAt Go.RowKit Go.Deep

theorem fld {fs : Array Field} {L : List (TypeId × Nat)} (h : fs.toList.map (fun f => (f.type, f.offset)) = L) {i : Nat} {ty : TypeId} {off : Nat} (hi : L[i]? = some (ty, off)) : ∃ f, fs[i]? = some f ∧ f.type = ty ∧ f.offset = off := by
  rw [← h, List.getElem?_map] at hi
  cases hf : fs.toList[i]? with
  | none => rw [hf] at hi; cases hi
  | some f =>
    rw [hf] at hi
    cases hi
    exact ⟨f, by rw [← Array.getElem?_toList]; exact hf, rfl, rfl⟩
/-- A struct's fields, each by its number. -/
theorem trod_flds {H : Type} {enc : TypeId × Value → H} {P : Program} {W : World} {base fuel : Nat} {spare : Nat → Bool} {held : Bool} {t : TypeId} {fs : Array Field} {L : List (TypeId × Nat)} {cs : List Value} {x : DataW H × List MemPlace}
    (hs : P.underlying t = some (.struct fs)) (hL : fs.toList.map (fun f => (f.type, f.offset)) = L) (h : DataW.trod enc P W base spare held fuel t cs = some x) :
    ∃ n : Nat, cs.length = P.cellsOf t ∧ ∀ (i : Nat) (ty : TypeId) (off : Nat), L[i]? = some (ty, off) → ∃ y, DataW.trod enc P W base spare held n ty ((cs.drop off).take (P.cellsOf ty)) = some y ∧ ∀ k ∈ y.1.weights P ty, k ∈ x.1.weights P t := by
  obtain ⟨xs, n, _, rfl, hl, hlen, hf⟩ := DataW.trod_struct hs h
  refine ⟨n, hl, fun i ty off hi => ?_⟩
  obtain ⟨f, hfi, rfl, rfl⟩ := fld hL hi
  have h1 := hf i f hfi
  have hlt : i < xs.length := by
    rw [hlen]
    exact (Array.getElem?_eq_some_iff.1 hfi).1
  obtain ⟨y, hy⟩ : ∃ y, xs[i]? = some y := ⟨_, List.getElem?_eq_getElem hlt⟩
  rw [hy] at h1
  refine ⟨y, h1, fun k hk => ?_⟩
  have e : (fs.toList.map (·.type))[i]? = some f.type := by
    rw [List.getElem?_map, Array.getElem?_toList, hfi]
    rfl
  have e2 : (xs.map (·.1))[i]? = some y.1 := by
    rw [List.getElem?_map, hy]
    rfl
  have := DataW.weights_mem_each e e2 k hk
  simpa [DataW.weights, hs] using this
theorem tg_struct : Try.prog.underlying 23 = some (.struct (Try.prog.fieldsOf 23)) := by kernel_rfl
theorem tg_fields : (Try.prog.fieldsOf 23).toList.map (fun f => (f.type, f.offset)) = [(9, 0), (9, 1), (9, 2), (2, 3), (2, 4)] := by kernel_rfl
theorem cells_tg : Try.prog.cellsOf 23 = 5 := by kernel_rfl
theorem cells_st : Try.prog.cellsOf 9 = 1 := by kernel_rfl
theorem cells_i64 : Try.prog.cellsOf 2 = 1 := by kernel_rfl
theorem list5 {α : Type} : ∀ {l : List α}, l.length = 5 → ∃ a b c d e, l = [a, b, c, d, e]
  | [a, b, c, d, e], _ => ⟨a, b, c, d, e, rfl⟩
def In64 (x : Int) : Prop := -9223372036854775808 ≤ x ∧ x ≤ 9223372036854775807
theorem in64_of {x : Int} (h : (Lit.int .i64 x).wf = true) : In64 x := by
  simp [Lit.wf, IntKind.min, IntKind.max, IntKind.bits, IntKind.signed] at h
  unfold In64
  omega
theorem weight_str {H : Type} {P : Program} {t : TypeId} {s : ByteArray} : s.size ∈ (DataW.lit (.string s.data.toList) : DataW H).weights P t := by
  unfold DataW.weights
  rw [← Lib.size_eq]
  exact List.mem_singleton.2 rfl
set_option maxRecDepth 100000 in
theorem trod_tg {H : Type} {enc : TypeId × Value → H} {W : World} {fuel : Nat} {cs : List Value} {x : DataW H × List MemPlace} (h : DataW.trod enc Try.prog W 0 (fun _ => true) true fuel 23 cs = some x) :
    ∃ t : Tg, cs = [.string t.job, .string t.host, .string t.path, .int .i64 t.iv, .int .i64 t.tm] ∧ In64 t.iv ∧ In64 t.tm ∧ t.job.size ∈ x.1.weights Try.prog 23 ∧ t.host.size ∈ x.1.weights Try.prog 23 ∧ t.path.size ∈ x.1.weights Try.prog 23 := by
  obtain ⟨n, hl, hf⟩ := trod_flds tg_struct tg_fields h
  rw [cells_tg] at hl
  obtain ⟨c0, c1, c2, c3, c4, rfl⟩ := list5 hl
  obtain ⟨y0, h0, w0⟩ := hf 0 _ _ rfl
  obtain ⟨y1, h1, w1⟩ := hf 1 _ _ rfl
  obtain ⟨y2, h2, w2⟩ := hf 2 _ _ rfl
  obtain ⟨y3, h3, _⟩ := hf 3 _ _ rfl
  obtain ⟨y4, h4, _⟩ := hf 4 _ _ rfl
  simp only [cells_st, cells_i64] at h0 h1 h2 h3 h4
  obtain ⟨s0, e0, d0, _⟩ := DataW.trod_string Try.underlying9 h0
  obtain ⟨s1, e1, d1, _⟩ := DataW.trod_string Try.underlying9 h1
  obtain ⟨s2, e2, d2, _⟩ := DataW.trod_string Try.underlying9 h2
  obtain ⟨k3, e3, _, g3⟩ := DataW.trod_int Try.underlying2 h3
  obtain ⟨k4, e4, _, g4⟩ := DataW.trod_int Try.underlying2 h4
  simp at e0 e1 e2 e3 e4
  subst e0 e1 e2 e3 e4
  rw [d0] at w0
  rw [d1] at w1
  rw [d2] at w2
  exact ⟨⟨s0, s1, s2, k3, k4⟩, rfl, in64_of g3, in64_of g4, w0 _ weight_str, w1 _ weight_str, w2 _ weight_str⟩
set_option maxRecDepth 100000 in
theorem open_tg {H : Type} {enc : TypeId × Value → H} {W : World} {r : Reach} {b0 : Nat} {v : Value} {d : DataW H} {p : List MemPlace} (hv : Value.okWide Try.prog W r b0 23 v)
    (h : DataW.Trod enc Try.prog W 0 (fun _ => true) true 23 v d p) :
    ∃ t : Tg, v = t.val ∧ In64 t.iv ∧ In64 t.tm ∧ t.job.size ∈ d.weights Try.prog 23 ∧ t.host.size ∈ d.weights Try.prog 23 ∧ t.path.size ∈ d.weights Try.prog 23 := by
  obtain ⟨cs, rfl, _⟩ := okWide_struct tg_struct hv
  obtain ⟨fuel, hf⟩ := h
  obtain ⟨t, e, h1⟩ := trod_tg hf
  refine ⟨t, ?_, h1⟩
  have e2 : cs.toList = [.string t.job, .string t.host, .string t.path, .int .i64 t.iv, .int .i64 t.tm] := by simpa [Value.cells] using e
  unfold Tg.val
  obtain ⟨cs⟩ := cs
  simp only at e2
  rw [e2]
end Go.Proofs.Ytnbghappfclnjaa

namespace Go.Proofs.Ytnbghappfclnjaa
open Go.ChangeShapes Go.WideShapes Go.ChangeAt Go.RowKit Go.Deep

theorem reads_of {α : Type} {K : EK α} {P : Program} (ok : K.Ok P) {W : World} {len : Nat} {x : Addr} {Y : Nat → α} (hs : x.spot = none ∧ x.block < W.heap.size) (h : ∀ i, i < len → ∀ j u, (K.enc (Y i))[j]? = some u → W.cell? (x.add (i * K.sz + j)) = some u) : K.Reads W W.heap.size (some x) ((List.range len).map Y) := by
  obtain ⟨b, off, spot⟩ := x
  obtain ⟨hs1, hs2⟩ := hs
  simp only at hs1 hs2
  subst hs1
  refine .inr ⟨b, off, rfl, hs2, fun t u hu => ?_⟩
  have hlen := EK.flat_len ok ((List.range len).map Y)
  have ht : t < len * K.sz := by
    have := (List.getElem?_eq_some_iff.1 hu).1
    rw [hlen] at this
    simpa using this
  have hpos := ok.pos
  have hq : t / K.sz < len := (Nat.div_lt_iff_lt_mul hpos).2 ht
  have hx : ((List.range len).map Y)[t / K.sz]? = some (Y (t / K.sz)) := by simp [hq]
  have hd := Nat.div_add_mod t K.sz
  have hm := Nat.mod_lt t hpos
  have hl := ok.len (Y (t / K.sz))
  obtain ⟨v, hv⟩ : ∃ v, (K.enc (Y (t / K.sz)))[t % K.sz]? = some v := ⟨_, List.getElem?_eq_getElem (by omega)⟩
  have h1 := EK.flat_at ok hx (t % K.sz) v hv
  have e : t / K.sz * K.sz + t % K.sz = t := by rw [Nat.mul_comm]; exact hd
  rw [e, hu] at h1
  cases h1
  have h2 := h (t / K.sz) hq (t % K.sz) u hv
  rw [e, add_plain'] at h2
  exact h2
theorem weights_all {H : Type} {P : Program} {e : TypeId} {n : Nat} : ∀ {ds : List (DataW H)} {d : DataW H}, d ∈ ds → n ∈ d.weights P e → n ∈ DataW.weightsAll P e ds
  | x :: ds, d, hd, hn => by
    unfold DataW.weightsAll
    rw [List.mem_append]
    rcases List.mem_cons.1 hd with rfl | h
    · exact .inl hn
    · exact .inr (weights_all h hn)
instance : Inhabited Tg := ⟨⟨default, default, default, 0, 0⟩⟩
set_option maxRecDepth 100000 in
theorem open_tgs {H : Type} {enc : TypeId × Value → H} {W : World} {fuel : Nat} {cs : List Value} {x : DataW H × List MemPlace} (h : DataW.trod enc Try.prog W 0 (fun _ => true) true fuel 35 cs = some x) :
    ∃ (A : Option Addr) (l : List Tg) (cap : Nat), cs = [.slice A l.length cap] ∧ l.length ≤ cap ∧ cap ≤ maxLen ∧ tK.Reads W W.heap.size A l ∧ ∀ t ∈ l, t.job.size ∈ x.1.weights Try.prog 35 ∧ t.host.size ∈ x.1.weights Try.prog 35 ∧ t.path.size ∈ x.1.weights Try.prog 35 := by
  rcases open_slice Try.underlying35 h with ⟨rfl, _⟩ | ⟨a, len, cap, m, n, D, Pl, rfl, _, hl, hm, hmm, rfl, hi⟩
  · exact ⟨none, [], 0, rfl, Nat.le_refl _, Nat.zero_le _, .inl rfl, fun t ht => by cases ht⟩
  · have hmc : m = cap := by simpa using hmm
    subst hmc
    have each : ∀ i, i < m → ∃ y : Tg, (∀ j u, (tK.enc y)[j]? = some u → W.cell? (a.add (i * 5 + j)) = some u) ∧ y.job.size ∈ (D i).weights Try.prog 23 ∧ y.host.size ∈ (D i).weights Try.prog 23 ∧ y.path.size ∈ (D i).weights Try.prog 23 := fun i him => by
      obtain ⟨cs', h1, h2⟩ := hi i him
      rw [cells_tg] at h1
      obtain ⟨_, hlen, hcell⟩ := World.cells?_some h1
      obtain ⟨t, rfl, _, _, w0, w1, w2⟩ := trod_tg h2
      refine ⟨t, fun j u hj => ?_, w0, w1, w2⟩
      have hj5 : j < 5 := by
        have := (List.getElem?_eq_some_iff.1 hj).1
        simpa [tK] using this
      have := hcell j hj5
      rw [add_add] at this
      rw [this]
      simpa [tK] using hj
    obtain ⟨Y, hY⟩ := choose_lt each
    have el : ((List.range len).map Y).length = len := by simp
    refine ⟨some a, (List.range len).map Y, m, by rw [el], by rw [el]; exact hl, hm, ?_, fun z hz => ?_⟩
    · rcases Nat.eq_zero_or_pos len with h0 | h0
      · subst h0
        exact .inl rfl
      · have c0 := (hY 0 (by omega)).1 0 _ rfl
        refine reads_of tOk ⟨by simpa [Addr.add] using World.cell?_spot c0, by simpa [Addr.add] using World.block_lt_of_cell? _ _ c0⟩ fun i hil j u hu => (hY i (by omega)).1 j u hu
    · obtain ⟨i, hin, rfl⟩ := List.mem_map.1 hz
      have hil := List.mem_range.1 hin
      obtain ⟨_, w0, w1, w2⟩ := hY i (by omega)
      have hd : D i ∈ (List.range len).map D := List.mem_map.2 ⟨i, hin, rfl⟩
      simp only [DataW.weights, Try.underlying35, List.mem_cons, List.mem_append]
      exact ⟨.inr (.inl (weights_all hd w0)), .inr (.inl (weights_all hd w1)), .inr (.inl (weights_all hd w2))⟩
set_option maxRecDepth 100000 in
theorem open_strs {H : Type} {enc : TypeId × Value → H} {W : World} {fuel : Nat} {cs : List Value} {x : DataW H × List MemPlace} (h : DataW.trod enc Try.prog W 0 (fun _ => true) true fuel 36 cs = some x) :
    ∃ (A : Option Addr) (l : List ByteArray) (cap : Nat), cs = [.slice A l.length cap] ∧ l.length ≤ cap ∧ cap ≤ maxLen ∧ bK.Reads W W.heap.size A l ∧ (A = none → l = [] ∧ cap = 0) ∧ ∀ s ∈ l, s.size ∈ x.1.weights Try.prog 36 := by
  rcases open_slice Try.underlying36 h with ⟨rfl, _⟩ | ⟨a, len, cap, m, n, D, Pl, rfl, _, hl, hm, hmm, rfl, hi⟩
  · exact ⟨none, [], 0, rfl, Nat.le_refl _, Nat.zero_le _, .inl rfl, fun _ => ⟨rfl, rfl⟩, fun t ht => by cases ht⟩
  · have hmc : m = cap := by simpa using hmm
    subst hmc
    have each : ∀ i, i < m → ∃ y : ByteArray, W.cell? (a.add i) = some (.string y) ∧ y.size ∈ (D i).weights Try.prog 9 := fun i him => by
      obtain ⟨cs', h1, h2⟩ := hi i him
      rw [cells_st] at h1
      obtain ⟨_, hlen, hcell⟩ := World.cells?_some h1
      obtain ⟨s0, e0, d0, _⟩ := DataW.trod_string Try.underlying9 h2
      subst e0
      have := hcell 0 (by omega)
      rw [add_add] at this
      simp only [Prod.mk.injEq] at d0
      refine ⟨s0, by simpa using this, ?_⟩
      rw [d0.1]
      exact weight_str
    obtain ⟨Y, hY⟩ := choose_lt each
    have el : ((List.range len).map Y).length = len := by simp
    refine ⟨some a, (List.range len).map Y, m, by rw [el], by rw [el]; exact hl, hm, ?_, fun h => (by cases h), fun z hz => ?_⟩
    · rcases Nat.eq_zero_or_pos len with h0 | h0
      · subst h0
        exact .inl rfl
      · have c0 := (hY 0 (by omega)).1
        refine reads_of bOk ⟨by simpa [Addr.add] using World.cell?_spot c0, by simpa [Addr.add] using World.block_lt_of_cell? _ _ c0⟩ fun i hil j u hu => ?_
        match j, hu with
        | 0, hu => cases hu; simpa [bK] using (hY i (by omega)).1
        | j + 1, hu => simp [bK] at hu
    · obtain ⟨i, hin, rfl⟩ := List.mem_map.1 hz
      have hil := List.mem_range.1 hin
      have hd : D i ∈ (List.range len).map D := List.mem_map.2 ⟨i, hin, rfl⟩
      simp only [DataW.weights, Try.underlying36, List.mem_cons, List.mem_append]
      exact .inr (.inl (weights_all hd (hY i (by omega)).2))
theorem cf_struct : Try.prog.underlying 38 = some (.struct (Try.prog.fieldsOf 38)) := by kernel_rfl
theorem cf_fields : (Try.prog.fieldsOf 38).toList.map (fun f => (f.type, f.offset)) = [(35, 0), (2, 1), (2, 2), (36, 3), (3, 4), (3, 5), (3, 6), (3, 7), (3, 8), (2, 9), (2, 10)] := by kernel_rfl
theorem cells_cf : Try.prog.cellsOf 38 = 11 := by kernel_rfl
theorem cells_ts : Try.prog.cellsOf 35 = 1 := by kernel_rfl
theorem cells_ss : Try.prog.cellsOf 36 = 1 := by kernel_rfl
theorem cells_in : Try.prog.cellsOf 3 = 1 := by kernel_rfl
theorem list11 {α : Type} : ∀ {l : List α}, l.length = 11 → ∃ a b c d e f g h i j k, l = [a, b, c, d, e, f, g, h, i, j, k]
  | [a, b, c, d, e, f, g, h, i, j, k], _ => ⟨a, b, c, d, e, f, g, h, i, j, k, rfl⟩
set_option maxRecDepth 100000 in
theorem open_cf {H : Type} {enc : TypeId × Value → H} {W : World} {r : Reach} {b0 : Nat} {v : Value} {d : DataW H} {p : List MemPlace} (hv : Value.okWide Try.prog W r b0 38 v)
    (h : DataW.Trod enc Try.prog W 0 (fun _ => true) true 38 v d p) :
    ∃ c : Cf, v = c.val ∧ c.Reads W W.heap.size ∧ (∀ t ∈ c.ts, t.job.size ∈ d.weights Try.prog 38 ∧ t.host.size ∈ d.weights Try.prog 38 ∧ t.path.size ∈ d.weights Try.prog 38) ∧ ∀ s ∈ c.by', s.size ∈ d.weights Try.prog 38 := by
  obtain ⟨cs, rfl, _⟩ := okWide_struct cf_struct hv
  obtain ⟨fuel, hf⟩ := h
  obtain ⟨n, hl, hg⟩ := trod_flds cf_struct cf_fields hf
  rw [cells_cf] at hl
  obtain ⟨c0, c1, c2, c3, c4, c5, c6, c7, c8, c9, c10, hcs⟩ := list11 hl
  rw [hcs] at hg
  obtain ⟨y0, h0, w0⟩ := hg 0 _ _ rfl
  obtain ⟨y1, h1, _⟩ := hg 1 _ _ rfl
  obtain ⟨y2, h2, _⟩ := hg 2 _ _ rfl
  obtain ⟨y3, h3, w3⟩ := hg 3 _ _ rfl
  obtain ⟨y4, h4, _⟩ := hg 4 _ _ rfl
  obtain ⟨y5, h5, _⟩ := hg 5 _ _ rfl
  obtain ⟨y6, h6, _⟩ := hg 6 _ _ rfl
  obtain ⟨y7, h7, _⟩ := hg 7 _ _ rfl
  obtain ⟨y8, h8, _⟩ := hg 8 _ _ rfl
  obtain ⟨y9, h9, _⟩ := hg 9 _ _ rfl
  obtain ⟨y10, h10, _⟩ := hg 10 _ _ rfl
  simp only [cells_ts, cells_ss, cells_in, cells_i64] at h0 h1 h2 h3 h4 h5 h6 h7 h8 h9 h10
  obtain ⟨A, ts, cap, e0, t1, t2, t3, t4⟩ := open_tgs h0
  obtain ⟨B, bs, cb, e3, s1, s2, s3, s4, s5⟩ := open_strs h3
  obtain ⟨k1, e1, _, _⟩ := DataW.trod_int Try.underlying2 h1
  obtain ⟨k2, e2, _, _⟩ := DataW.trod_int Try.underlying2 h2
  obtain ⟨k4, e4, _, _⟩ := DataW.trod_int Try.underlying3 h4
  obtain ⟨k5, e5, _, _⟩ := DataW.trod_int Try.underlying3 h5
  obtain ⟨k6, e6, _, _⟩ := DataW.trod_int Try.underlying3 h6
  obtain ⟨k7, e7, _, _⟩ := DataW.trod_int Try.underlying3 h7
  obtain ⟨k8, e8, _, _⟩ := DataW.trod_int Try.underlying3 h8
  obtain ⟨k9, e9, _, _⟩ := DataW.trod_int Try.underlying2 h9
  obtain ⟨k10, e10, _, _⟩ := DataW.trod_int Try.underlying2 h10
  simp at e0 e1 e2 e3 e4 e5 e6 e7 e8 e9 e10
  subst e0 e1 e2 e3 e4 e5 e6 e7 e8 e9 e10
  unfold maxLen at t2 s2
  refine ⟨⟨A, ts, cap, k1, k2, B, bs, cb, k4, k5, k6, k7, k8, k9, k10⟩, ?_, ⟨t3, s3, s4, ⟨t1, by omega⟩, ⟨s1, by omega⟩⟩, fun t ht => ⟨w0 _ (t4 t ht).1, w0 _ (t4 t ht).2.1, w0 _ (t4 t ht).2.2⟩, fun s hs => w3 _ (s5 s hs)⟩
  obtain ⟨cs⟩ := cs
  simp only [Value.cells] at hcs
  unfold Cf.val
  rw [hcs]
end Go.Proofs.Ytnbghappfclnjaa
