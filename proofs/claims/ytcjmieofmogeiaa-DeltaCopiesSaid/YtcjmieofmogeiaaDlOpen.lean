/- What came in: scrapes (layer 17). -/
import Derived.Test.YtcjmieofmogeiaaRowK2
import Derived.Test.YtcjmieofmogeiaaRows
import Derived.Deep.SlicePairs
import Derived.Deep.Strs
import Derived.SizedLaws
import Derived.ProofKit
import Derived.OpenShut
import Derived.ShutString
import Derived.ChangeOld
import Derived.Below
import Derived.HandedShaped
import Derived.Test.YtcjmieofmogeiaaStPt
namespace Go.Proofs.Ytcjmieofmogeiaa
open Go.ChangeShapes Go.WideShapes Go.ChangeAt Go.RowKit Go.Deep

theorem fld {fs : Array Field} {L : List (TypeId × Nat)} (h : fs.toList.map (fun f => (f.type, f.offset)) = L) {i : Nat} {ty : TypeId} {off : Nat} (hi : L[i]? = some (ty, off)) : ∃ f, fs[i]? = some f ∧ f.type = ty ∧ f.offset = off := by
  rw [← h, List.getElem?_map] at hi
  cases hf : fs.toList[i]? with
  | none => rw [hf] at hi; cases hi
  | some f =>
    rw [hf] at hi
    cases hi
    exact ⟨f, by rw [← Array.getElem?_toList]; exact hf, rfl, rfl⟩
/-- A struct's fields, each by its number. -/
theorem trod_flds {H : Type} {enc : TypeId × Value → H} {P : Program} {W : World} {base fuel : Nat} {spare : Nat → Bool} {held : Bool} {t : TypeId} {fs : Array Field} {L : List (TypeId × Nat)} {cs : List Value} {x : DataW H × List MemPlace}
    (hs : P.underlying t = some (.struct fs)) (hL : fs.toList.map (fun f => (f.type, f.offset)) = L) (h : DataW.trod enc P W base spare held fuel t cs = some x) :
    ∃ n : Nat, cs.length = P.cellsOf t ∧ ∀ (i : Nat) (ty : TypeId) (off : Nat), L[i]? = some (ty, off) → ∃ y, DataW.trod enc P W base spare held n ty ((cs.drop off).take (P.cellsOf ty)) = some y ∧ ∀ k ∈ y.1.weights P ty, k ∈ x.1.weights P t := by
  obtain ⟨xs, n, _, rfl, hl, hlen, hf⟩ := DataW.trod_struct hs h
  refine ⟨n, hl, fun i ty off hi => ?_⟩
  obtain ⟨f, hfi, rfl, rfl⟩ := fld hL hi
  have h1 := hf i f hfi
  have hlt : i < xs.length := by
    rw [hlen]
    exact (Array.getElem?_eq_some_iff.1 hfi).1
  obtain ⟨y, hy⟩ : ∃ y, xs[i]? = some y := ⟨_, List.getElem?_eq_getElem hlt⟩
  rw [hy] at h1
  refine ⟨y, h1, fun k hk => ?_⟩
  have e : (fs.toList.map (·.type))[i]? = some f.type := by
    rw [List.getElem?_map, Array.getElem?_toList, hfi]
    rfl
  have e2 : (xs.map (·.1))[i]? = some y.1 := by
    rw [List.getElem?_map, hy]
    rfl
  have := DataW.weights_mem_each e e2 k hk
  simpa [DataW.weights, hs] using this
theorem reads_of {α : Type} {K : EK α} {P : Program} (ok : K.Ok P) {W : World} {len : Nat} {x : Addr} {Y : Nat → α} (hs : x.spot = none ∧ x.block < W.heap.size) (h : ∀ i, i < len → ∀ j u, (K.enc (Y i))[j]? = some u → W.cell? (x.add (i * K.sz + j)) = some u) : K.Reads W W.heap.size (some x) ((List.range len).map Y) := by
  obtain ⟨b, off, spot⟩ := x
  obtain ⟨hs1, hs2⟩ := hs
  simp only at hs1 hs2
  subst hs1
  refine .inr ⟨b, off, rfl, hs2, fun t u hu => ?_⟩
  have hlen := EK.flat_len ok ((List.range len).map Y)
  have ht : t < len * K.sz := by
    have := (List.getElem?_eq_some_iff.1 hu).1
    rw [hlen] at this
    simpa using this
  have hpos := ok.pos
  have hq : t / K.sz < len := (Nat.div_lt_iff_lt_mul hpos).2 ht
  have hx : ((List.range len).map Y)[t / K.sz]? = some (Y (t / K.sz)) := by simp [hq]
  have hd := Nat.div_add_mod t K.sz
  have hm := Nat.mod_lt t hpos
  have hl := ok.len (Y (t / K.sz))
  obtain ⟨v, hv⟩ : ∃ v, (K.enc (Y (t / K.sz)))[t % K.sz]? = some v := ⟨_, List.getElem?_eq_getElem (by omega)⟩
  have h1 := EK.flat_at ok hx (t % K.sz) v hv
  have e : t / K.sz * K.sz + t % K.sz = t := by rw [Nat.mul_comm]; exact hd
  rw [e, hu] at h1
  cases h1
  have h2 := h (t / K.sz) hq (t % K.sz) u hv
  rw [e, add_plain'] at h2
  exact h2
theorem weights_all {H : Type} {P : Program} {e : TypeId} {n : Nat} : ∀ {ds : List (DataW H)} {d : DataW H}, d ∈ ds → n ∈ d.weights P e → n ∈ DataW.weightsAll P e ds
  | x :: ds, d, hd, hn => by
    unfold DataW.weightsAll
    rw [List.mem_append]
    rcases List.mem_cons.1 hd with rfl | h
    · exact .inl hn
    · exact .inr (weights_all h hn)
theorem cells_st : Try.prog.cellsOf 9 = 1 := by kernel_rfl
theorem cells_i64 : Try.prog.cellsOf 2 = 1 := by kernel_rfl
theorem cells_in : Try.prog.cellsOf 3 = 1 := by kernel_rfl
theorem cells_bo : Try.prog.cellsOf 4 = 1 := by kernel_rfl
theorem list4 {α : Type} : ∀ {l : List α}, l.length = 4 → ∃ a b c d, l = [a, b, c, d]
  | [a, b, c, d], _ => ⟨a, b, c, d, rfl⟩
theorem list2 {α : Type} : ∀ {l : List α}, l.length = 2 → ∃ a b, l = [a, b]
  | [a, b], _ => ⟨a, b, rfl⟩
theorem in64_of {x : Int} (h : (Lit.int .i64 x).wf = true) : -9223372036854775808 ≤ x ∧ x ≤ 9223372036854775807 := by
  simp [Lit.wf, IntKind.min, IntKind.max, IntKind.bits, IntKind.signed] at h
  omega
theorem weight_str {H : Type} {P : Program} {t : TypeId} {s : ByteArray} : s.size ∈ (DataW.lit (.string s.data.toList) : DataW H).weights P t := by
  unfold DataW.weights
  exact List.mem_singleton.2 (by show s.data.size = _; simp)
end Go.Proofs.Ytcjmieofmogeiaa

namespace Go.Proofs.Ytcjmieofmogeiaa
open Go.ChangeShapes Go.WideShapes Go.ChangeAt Go.RowKit Go.Deep

theorem smp_fields : (Try.prog.fieldsOf 52).toList.map (fun f => (f.type, f.offset)) = [(9, 0), (2, 1), (2, 2), (4, 3)] := by kernel_rfl
theorem cells_smp : Try.prog.cellsOf 52 = 4 := by kernel_rfl
theorem cells_ss : Try.prog.cellsOf 30 = 1 := by kernel_rfl
theorem smp_bytes : Try.prog.bytesOf 52 = 40 := by kernel_rfl
set_option maxRecDepth 100000 in
theorem trod_smp {H : Type} {enc : TypeId × Value → H} {W : World} {fuel : Nat} {cs : List Value} {x : DataW H × List MemPlace} (h : DataW.trod enc Try.prog W 0 (fun _ => true) true fuel 52 cs = some x) :
    ∃ t : Smp, cs = t.cells ∧ (-9223372036854775808 ≤ t.val ∧ t.val ≤ 9223372036854775807) ∧ (-9223372036854775808 ≤ t.tm ∧ t.tm ≤ 9223372036854775807) ∧ t.name.size ∈ x.1.weights Try.prog 52 := by
  obtain ⟨n, hl, hf⟩ := trod_flds smp_struct smp_fields h
  rw [cells_smp] at hl
  obtain ⟨c0, c1, c2, c3, rfl⟩ := list4 hl
  obtain ⟨y0, h0, w0⟩ := hf 0 _ _ rfl
  obtain ⟨y1, h1, _⟩ := hf 1 _ _ rfl
  obtain ⟨y2, h2, _⟩ := hf 2 _ _ rfl
  obtain ⟨y3, h3, _⟩ := hf 3 _ _ rfl
  simp only [cells_st, cells_i64, cells_bo] at h0 h1 h2 h3
  obtain ⟨s0, e0, d0, _⟩ := DataW.trod_string Try.underlying9 h0
  obtain ⟨k1, e1, _, g1⟩ := DataW.trod_int Try.underlying2 h1
  obtain ⟨k2, e2, _, g2⟩ := DataW.trod_int Try.underlying2 h2
  obtain ⟨b3, e3, _⟩ := DataW.trod_bool Try.underlying4 h3
  simp at e0 e1 e2 e3
  subst e0 e1 e2 e3
  rw [d0] at w0
  exact ⟨⟨s0, k1, k2, b3⟩, rfl, in64_of g1, in64_of g2, w0 _ weight_str⟩
set_option maxRecDepth 100000 in
theorem open_smps {H : Type} {enc : TypeId × Value → H} {W : World} {fuel : Nat} {cs : List Value} {x : DataW H × List MemPlace} (h : DataW.trod enc Try.prog W 0 (fun _ => true) true fuel 30 cs = some x) :
    ∃ (A : Option Addr) (l : List Smp) (cap : Nat), cs = [.slice A l.length cap] ∧ l.length ≤ cap ∧ cap ≤ maxLen ∧ sK.Reads W W.heap.size A l ∧ (l.length = 0 ∨ ∃ q ∈ x.1.weights Try.prog 30, l.length ≤ q) ∧ ∀ t ∈ l, (-9223372036854775808 ≤ t.val ∧ t.val ≤ 9223372036854775807) ∧ (-9223372036854775808 ≤ t.tm ∧ t.tm ≤ 9223372036854775807) ∧ t.name.size ∈ x.1.weights Try.prog 30 := by
  rcases open_slice Try.underlying30 h with ⟨rfl, _⟩ | ⟨a, len, cap, m, n, D, Pl, rfl, _, hl, hm, hmm, rfl, hi⟩
  · exact ⟨none, [], 0, rfl, Nat.le_refl _, Nat.zero_le _, .inl rfl, .inl rfl, fun t ht => by cases ht⟩
  · have hmc : m = cap := by simpa using hmm
    subst hmc
    have each : ∀ i, i < m → ∃ y : Smp, (∀ j u, (sK.enc y)[j]? = some u → W.cell? (a.add (i * 4 + j)) = some u) ∧ (-9223372036854775808 ≤ y.val ∧ y.val ≤ 9223372036854775807) ∧ (-9223372036854775808 ≤ y.tm ∧ y.tm ≤ 9223372036854775807) ∧ y.name.size ∈ (D i).weights Try.prog 52 := fun i him => by
      obtain ⟨cs', h1, h2⟩ := hi i him
      rw [cells_smp] at h1
      obtain ⟨_, hlen, hcell⟩ := World.cells?_some h1
      obtain ⟨t, rfl, g1, g2, w0⟩ := trod_smp h2
      refine ⟨t, fun j u hj => ?_, g1, g2, w0⟩
      have hj5 : j < 4 := by
        have := (List.getElem?_eq_some_iff.1 hj).1
        simpa [sK, Smp.cells] using this
      have := hcell j hj5
      rw [add_add] at this
      rw [this]
      simpa [sK] using hj
    obtain ⟨Y, hY⟩ := choose_lt each
    have el : ((List.range len).map Y).length = len := by simp
    refine ⟨some a, (List.range len).map Y, m, by rw [el], by rw [el]; exact hl, hm, ?_, ?_, fun z hz => ?_⟩
    · rcases Nat.eq_zero_or_pos len with h0 | h0
      · subst h0
        exact .inl rfl
      · have c0 := (hY 0 (by omega)).1 0 _ rfl
        refine reads_of sOk ⟨by simpa [Addr.add] using World.cell?_spot c0, by simpa [Addr.add] using World.block_lt_of_cell? _ _ c0⟩ fun i hil j u hu => (hY i (by omega)).1 j u hu
    · refine .inr ⟨_, by simp only [DataW.weights, Try.underlying30]; exact List.mem_cons_self .., ?_⟩
      rw [el, smp_bytes]
      simp
      omega
    · obtain ⟨i, hin, rfl⟩ := List.mem_map.1 hz
      have hil := List.mem_range.1 hin
      obtain ⟨_, g1, g2, w0⟩ := hY i (by omega)
      have hd : D i ∈ (List.range len).map D := List.mem_map.2 ⟨i, hin, rfl⟩
      refine ⟨g1, g2, ?_⟩
      simp only [DataW.weights, Try.underlying30, List.mem_cons, List.mem_append]
      exact .inr (.inl (weights_all hd w0))
instance : Inhabited Pt := ⟨⟨0, none, [], 0⟩⟩
/-- What a list of scrapes is made of, by the weights of what came in. -/
def WPut (ws : List Nat) (a : Pt) : Prop := (a.l.length = 0 ∨ ∃ q ∈ ws, a.l.length ≤ q) ∧ ∀ t ∈ a.l, (-9223372036854775808 ≤ t.val ∧ t.val ≤ 9223372036854775807) ∧ (-9223372036854775808 ≤ t.tm ∧ t.tm ≤ 9223372036854775807) ∧ t.name.size ∈ ws
theorem WPut.up {ws ws' : List Nat} {a : Pt} (h : WPut ws a) (hu : ∀ k ∈ ws, k ∈ ws') : WPut ws' a :=
  ⟨h.1.imp id fun ⟨q, h1, h2⟩ => ⟨q, hu q h1, h2⟩, fun t ht => ⟨(h.2 t ht).1, (h.2 t ht).2.1, hu _ (h.2 t ht).2.2⟩⟩
/-- The slice at A0 reads as these; how large they are is told apart. -/
def PReads0 (w : World) (Bd : Nat) (A0 : Option Addr) (l : List Pt) : Prop :=
  l = [] ∨ ∃ g off, A0 = some ⟨g, off, none⟩ ∧ g < Bd ∧ ∀ (j : Nat) (a : Pt), l[j]? = some a →
    (w.cell? ⟨g, off + j * 2, none⟩ = some (.int .i64 a.own) ∧ w.cell? ⟨g, off + j * 2 + 1, none⟩ = some (.slice a.A a.l.length a.c)) ∧ sK.Reads w Bd a.A a.l ∧ (a.l.length ≤ a.c ∧ a.c ≤ maxLen) ∧ (-9223372036854775808 ≤ a.own ∧ a.own ≤ 9223372036854775807)
theorem PReads0.full {w : World} {Bd : Nat} {A0 : Option Addr} {l : List Pt} (h : PReads0 w Bd A0 l) (hl : ∀ a ∈ l, a.l.length ≤ 140737488355328 ∧ ∀ x ∈ a.l, x.Ok) : PReads w Bd A0 l := by
  rcases h with h | ⟨g, off, rfl, hg, hc⟩
  · exact .inl h
  · refine .inr ⟨g, off, rfl, hg, fun j a ha => ?_⟩
    obtain ⟨h1, h2, h3, h4⟩ := hc j a ha
    exact ⟨h1, h2, h3, h4, hl a (List.mem_of_getElem? ha)⟩
end Go.Proofs.Ytcjmieofmogeiaa

namespace Go.Proofs.Ytcjmieofmogeiaa
open Go.ChangeShapes Go.WideShapes Go.ChangeAt Go.RowKit Go.Deep

theorem putD_struct : Try.prog.underlying 32 = some (.struct (Try.prog.fieldsOf 32)) := by kernel_rfl
theorem putD_fields : (Try.prog.fieldsOf 32).toList.map (fun f => (f.type, f.offset)) = [(3, 0), (30, 1)] := by kernel_rfl
theorem cellsD_put : Try.prog.cellsOf 32 = 2 := by kernel_rfl
set_option maxRecDepth 100000 in
theorem open_putsD {H : Type} {enc : TypeId × Value → H} {W : World} {a : Option Addr} {len cap : Nat} {d : DataW H} {p : List MemPlace}
    (h : DataW.Trod enc Try.prog W 0 (fun _ => true) true 22 (.slice a len cap) d p) :
    ∃ l : List Pt, l.length = len ∧ len ≤ maxLen ∧ PReads0 W W.heap.size a l ∧ ∀ x ∈ l, WPut (d.weights Try.prog 22) x := by
  obtain ⟨fuel, hf⟩ := h
  rcases open_slice Try.underlying22 hf with ⟨hcs, _⟩ | ⟨x, ln, c, m, n, D, Pl, hcs, _, hl, hm, hmm, hx, hi⟩
  · simp [Value.cells] at hcs
    obtain ⟨rfl, rfl, rfl⟩ := hcs
    exact ⟨[], rfl, Nat.zero_le _, .inl rfl, fun x hx => by cases hx⟩
  · simp [Value.cells] at hcs
    obtain ⟨rfl, rfl, rfl⟩ := hcs
    have hmc : m = cap := by simpa using hmm
    subst hmc
    have each : ∀ i, i < m → ∃ y : Pt, (W.cell? (x.add (i * 2)) = some (.int .i64 y.own) ∧ W.cell? (x.add (i * 2 + 1)) = some (.slice y.A y.l.length y.c)) ∧ sK.Reads W W.heap.size y.A y.l ∧ (y.l.length ≤ y.c ∧ y.c ≤ maxLen) ∧ (-9223372036854775808 ≤ y.own ∧ y.own ≤ 9223372036854775807) ∧ WPut ((D i).weights Try.prog 32) y := fun i him => by
      obtain ⟨cs', h1, h2⟩ := hi i him
      rw [cellsD_put] at h1
      obtain ⟨_, hlen, hcell⟩ := World.cells?_some h1
      obtain ⟨n', hl', hf'⟩ := trod_flds putD_struct putD_fields h2
      rw [cellsD_put] at hl'
      obtain ⟨c0, c1, rfl⟩ := list2 hl'
      obtain ⟨y0, t0, _⟩ := hf' 0 _ _ rfl
      obtain ⟨y1, t1, w1⟩ := hf' 1 _ _ rfl
      simp only [cells_in, cells_ss] at t0 t1
      obtain ⟨k0, e0, _, g0⟩ := DataW.trod_int Try.underlying3 t0
      obtain ⟨A, l, c, e1, s1, s2, s3, s4, s5⟩ := open_smps t1
      have q0 := hcell 0 (by omega)
      have q1 := hcell 1 (by omega)
      simp at e0 e1
      subst e0 e1
      rw [add_add] at q0 q1
      exact ⟨⟨k0, A, l, c⟩, ⟨by simpa using q0, by simpa using q1⟩, s3, ⟨s1, s2⟩, in64_of g0, WPut.up ⟨s4, s5⟩ w1⟩
    obtain ⟨Y, hY⟩ := choose_lt each
    refine ⟨(List.range len).map Y, by simp, Nat.le_trans hl hm, ?_, fun z hz => ?_⟩
    · rcases Nat.eq_zero_or_pos len with h0 | h0
      · subst h0
        exact .inl rfl
      · obtain ⟨b, off, spot⟩ := x
        have h1 := (hY 0 (by omega)).1.1
        obtain rfl : spot = none := by simpa [Addr.add] using World.cell?_spot h1
        have hb : b < W.heap.size := by
          have := World.block_lt_of_cell? _ _ h1
          simpa [Addr.add] using this
        refine .inr ⟨b, off, rfl, hb, fun j q hj => ?_⟩
        have hjl : j < len := by
          have := (List.getElem?_eq_some_iff.1 hj).1
          simpa using this
        have e : q = Y j := by
          simp [hjl] at hj
          exact hj.symm
        subst e
        obtain ⟨⟨c0, c1⟩, hr, hn, ho, _⟩ := hY j (by omega)
        rw [add_plain'] at c0 c1
        exact ⟨⟨c0, by rw [Nat.add_assoc]; exact c1⟩, hr, hn, ho⟩
    · obtain ⟨i, hin, rfl⟩ := List.mem_map.1 hz
      have hil := List.mem_range.1 hin
      obtain ⟨_, _, _, _, hw⟩ := hY i (by omega)
      have hd : D i ∈ (List.range len).map D := List.mem_map.2 ⟨i, hin, rfl⟩
      have hx1 := (Prod.mk.inj hx).1
      refine hw.up fun q hq => ?_
      rw [hx1]
      simp only [DataW.weights, Try.underlying22, List.mem_cons, List.mem_append]
      exact .inr (.inl (weights_all hd hq))
end Go.Proofs.Ytcjmieofmogeiaa
