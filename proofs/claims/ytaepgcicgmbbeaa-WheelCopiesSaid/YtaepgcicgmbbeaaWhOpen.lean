/- What came in: timers, times. -/
import Derived.Test.YtaepgcicgmbbeaaWhCutsW
import Derived.Test.YtaepgcicgmbbeaaRows
import Derived.Deep.SlicePairs
import Derived.Deep.Strs
import Derived.SizedLaws
import Derived.ProofKit
import Derived.OpenShut
import Derived.ChangeOld
import Derived.Below
namespace Go.Proofs.Ytaepgcicgmbbeaa
open Go.ChangeShapes Go.WideShapes Go.ChangeAt Go.RowKit Go.Deep

theorem cells_i : Try.prog.cellsOf 3 = 1 := by kernel_rfl
theorem cells_l : Try.prog.cellsOf 2 = 1 := by kernel_rfl
theorem cells_fi : Try.prog.cellsOf 44 = 2 := by kernel_rfl
theorem list2 {α : Type} : ∀ {l : List α}, l.length = 2 → ∃ a b, l = [a, b]
  | [a, b], _ => ⟨a, b, rfl⟩
theorem wfOf {x : Int} (h : (Lit.int .i64 x).wf = true) : -9223372036854775808 ≤ x ∧ x ≤ 9223372036854775807 := by
  simp [Lit.wf, IntKind.min, IntKind.max, IntKind.bits, IntKind.signed] at h
  omega
theorem reads_of {α : Type} {K : EK α} {P : Program} (ok : K.Ok P) {W : World} {len : Nat} {x : Addr} {Y : Nat → α} (hs : x.spot = none ∧ x.block < W.heap.size) (h : ∀ i, i < len → ∀ j u, (K.enc (Y i))[j]? = some u → W.cell? (x.add (i * K.sz + j)) = some u) : K.Reads W W.heap.size (some x) ((List.range len).map Y) := by
  obtain ⟨b, off, spot⟩ := x
  obtain ⟨hs1, hs2⟩ := hs
  simp only at hs1 hs2
  subst hs1
  refine .inr ⟨b, off, rfl, hs2, fun t u hu => ?_⟩
  have hlen := EK.flat_len ok ((List.range len).map Y)
  have ht : t < len * K.sz := by
    have := (List.getElem?_eq_some_iff.1 hu).1
    rw [hlen] at this
    simpa using this
  have hpos := ok.pos
  have hq : t / K.sz < len := (Nat.div_lt_iff_lt_mul hpos).2 ht
  have hx : ((List.range len).map Y)[t / K.sz]? = some (Y (t / K.sz)) := by simp [hq]
  have hd := Nat.div_add_mod t K.sz
  have hm := Nat.mod_lt t hpos
  have hl := ok.len (Y (t / K.sz))
  obtain ⟨v, hv⟩ : ∃ v, (K.enc (Y (t / K.sz)))[t % K.sz]? = some v := ⟨_, List.getElem?_eq_getElem (by omega)⟩
  have h1 := EK.flat_at ok hx (t % K.sz) v hv
  have e : t / K.sz * K.sz + t % K.sz = t := by rw [Nat.mul_comm]; exact hd
  rw [e, hu] at h1
  cases h1
  have h2 := h (t / K.sz) hq (t % K.sz) u hv
  rw [e, add_plain'] at h2
  exact h2
set_option maxRecDepth 100000 in
theorem open_fis {H : Type} {enc : TypeId × Value → H} {W : World} {a : Option Addr} {len cap : Nat} {d : DataW H} {p : List MemPlace}
    (h : DataW.Trod enc Try.prog W 0 (fun _ => true) true 27 (.slice a len cap) d p) :
    ∃ l : List Fi, l.length = len ∧ len ≤ maxLen ∧ fK.Reads W W.heap.size a l ∧ Ints l := by
  obtain ⟨fuel, hf⟩ := h
  rcases open_slice Try.underlying27 hf with ⟨hcs, _⟩ | ⟨x, ln, c, m, n, D, Pl, hcs, _, hl, hm, hmm, _, hi⟩
  · simp [Value.cells] at hcs
    obtain ⟨rfl, rfl, rfl⟩ := hcs
    exact ⟨[], rfl, Nat.zero_le _, .inl rfl, fun x hx => by cases hx⟩
  · simp [Value.cells] at hcs
    obtain ⟨rfl, rfl, rfl⟩ := hcs
    have hmc : m = cap := by simpa using hmm
    subst hmc
    have each : ∀ i, i < m → ∃ y : Fi, (W.cell? (x.add (i * 2)) = some (.int .i64 y.1) ∧ W.cell? (x.add (i * 2 + 1)) = some (.int .i64 y.2)) ∧ (-9223372036854775808 ≤ y.1 ∧ y.1 ≤ 9223372036854775807) ∧ (-9223372036854775808 ≤ y.2 ∧ y.2 ≤ 9223372036854775807) := fun i him => by
      obtain ⟨cs', h1, h2⟩ := hi i him
      rw [cells_fi] at h1
      obtain ⟨_, hlen, hcell⟩ := World.cells?_some h1
      obtain ⟨y0, y1, n', _, _, t0, t1⟩ := trod_struct2 Try.underlying44 h2
      obtain ⟨c0, c1, rfl⟩ := list2 hlen
      simp only [cells_i, cells_l] at t0 t1
      obtain ⟨k0, e0, _, w0⟩ := DataW.trod_int Try.underlying3 t0
      obtain ⟨k1, e1, _, w1⟩ := DataW.trod_int Try.underlying2 t1
      have q0 := hcell 0 (by omega)
      have q1 := hcell 1 (by omega)
      simp at e0 e1
      subst e0 e1
      rw [add_add] at q0 q1
      exact ⟨(k0, k1), ⟨by simpa using q0, by simpa using q1⟩, wfOf w0, wfOf w1⟩
    obtain ⟨Y, hY⟩ := choose_lt each
    refine ⟨(List.range len).map Y, by simp, Nat.le_trans hl hm, ?_, fun z hz => ?_⟩
    · rcases Nat.eq_zero_or_pos len with h0 | h0
      · subst h0
        exact .inl rfl
      · refine reads_of fOk ⟨by simpa [Addr.add] using World.cell?_spot (hY 0 (by omega)).1.1, by simpa [Addr.add] using World.block_lt_of_cell? _ _ (hY 0 (by omega)).1.1⟩ fun i hil j u hu => ?_
        obtain ⟨⟨q0, q1⟩, _⟩ := hY i (by omega)
        match j, hu with
        | 0, hu => cases hu; exact q0
        | 1, hu => cases hu; exact q1
        | j + 2, hu => simp [fK] at hu
    · obtain ⟨i, hin, rfl⟩ := List.mem_map.1 hz
      exact (hY i (by have := List.mem_range.1 hin; omega)).2
theorem open_times {H : Type} {enc : TypeId × Value → H} {W : World} {a : Option Addr} {len cap : Nat} {d : DataW H} {p : List MemPlace}
    (h : DataW.Trod enc Try.prog W 0 (fun _ => true) true 40 (.slice a len cap) d p) :
    ∃ l : List Int, l.length = len ∧ len ≤ maxLen ∧ pK.Reads W W.heap.size a l ∧ ∀ c ∈ l, -9223372036854775808 ≤ c ∧ c ≤ 9223372036854775807 := by
  obtain ⟨fuel, hf⟩ := h
  rcases open_slice Try.underlying40 hf with ⟨hcs, _⟩ | ⟨x, ln, c, m, n, D, Pl, hcs, _, hl, hm, hmm, _, hi⟩
  · simp [Value.cells] at hcs
    obtain ⟨rfl, rfl, rfl⟩ := hcs
    exact ⟨[], rfl, Nat.zero_le _, .inl rfl, fun x hx => by cases hx⟩
  · simp [Value.cells] at hcs
    obtain ⟨rfl, rfl, rfl⟩ := hcs
    have hmc : m = cap := by simpa using hmm
    subst hmc
    have each : ∀ i, i < m → ∃ y : Int, W.cell? (x.add i) = some (.int .i64 y) ∧ (-9223372036854775808 ≤ y ∧ y ≤ 9223372036854775807) := fun i him => by
      obtain ⟨cs', h1, h2⟩ := hi i him
      rw [cells_l] at h1
      obtain ⟨_, hlen, hcell⟩ := World.cells?_some h1
      obtain ⟨k0, e0, _, w0⟩ := DataW.trod_int Try.underlying2 h2
      have q0 := hcell 0 (by omega)
      subst e0
      rw [add_add] at q0
      exact ⟨k0, by simpa using q0, wfOf w0⟩
    obtain ⟨Y, hY⟩ := choose_lt each
    refine ⟨(List.range len).map Y, by simp, Nat.le_trans hl hm, ?_, fun z hz => ?_⟩
    · rcases Nat.eq_zero_or_pos len with h0 | h0
      · subst h0
        exact .inl rfl
      · refine reads_of pOk ⟨by simpa [Addr.add] using World.cell?_spot (hY 0 (by omega)).1, by simpa [Addr.add] using World.block_lt_of_cell? _ _ (hY 0 (by omega)).1⟩ fun i hil j u hu => ?_
        obtain ⟨q0, _⟩ := hY i (by omega)
        match j, hu with
        | 0, hu => cases hu; simpa [pK] using q0
        | j + 1, hu => simp [pK] at hu
    · obtain ⟨i, hin, rfl⟩ := List.mem_map.1 hz
      exact (hY i (by have := List.mem_range.1 hin; omega)).2
end Go.Proofs.Ytaepgcicgmbbeaa
