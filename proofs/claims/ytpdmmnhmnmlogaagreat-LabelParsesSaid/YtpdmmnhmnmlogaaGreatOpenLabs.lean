/- A slice of labels that came in, as a list of labels; the reach of its texts. -/
import Derived.Test.YtpdmmnhmnmlogaaGreatLabMem
import Derived.Test.YtpdmmnhmnmlogaaGreatSeq
import Derived.Test.YtpdmmnhmnmlogaaGreatRows
import Derived.Deep.SlicePairs
import Derived.SizedLaws
import Derived.ProofKit
import Derived.OpenShut
import Derived.ShutString
import Derived.ChangeOld
import Derived.Below
namespace Go.Proofs.YtpdmmnhmnmlogaaGreat
open Go.ChangeShapes Go.WideShapes Go.ChangeAt Go.RowKit Go.Deep

theorem lbl_two : ∃ f0 f1 : Field, Tryz.prog.underlying 42 = some (.struct #[f0, f1]) ∧ f0.type = 9 ∧ f1.type = 9 ∧ f0.offset = 0 ∧ f1.offset = 1 := by
  have h := lbl_struct
  have hf := lbl_fields
  generalize Tryz.prog.fieldsOf 42 = fs at h hf
  obtain ⟨fs⟩ := fs
  rcases fs with _ | ⟨f, _ | ⟨g, _ | ⟨k, fs⟩⟩⟩
  · cases hf
  · simp at hf
  · simp only [List.map_cons, List.map_nil, List.cons.injEq, Prod.mk.injEq, and_true] at hf
    exact ⟨f, g, h, hf.1.2.1, hf.2.2.1, hf.1.2.2, hf.2.2.2⟩
  · simp at hf
theorem cells_str : Tryz.prog.cellsOf 9 = 1 := by kernel_rfl
theorem cells_lbl : Tryz.prog.cellsOf 42 = 2 := by kernel_rfl
theorem mem_weightsAll {H : Type} {P : Program} {e : TypeId} {n : Nat} : ∀ {ds : List (DataW H)} {d : DataW H}, d ∈ ds → n ∈ d.weights P e → n ∈ DataW.weightsAll P e ds
  | x :: ds, d, hd, hn => by
    unfold DataW.weightsAll
    rw [List.mem_append]
    rcases List.mem_cons.1 hd with rfl | h
    · exact .inl hn
    · exact .inr (mem_weightsAll h hn)
theorem open_labs {H : Type} {enc : TypeId × Value → H} {W : World} {a : Option Addr} {len cap : Nat} {d : DataW H} {p : List MemPlace}
    (h : DataW.Trod enc Tryz.prog W 0 (fun _ => true) true 22 (.slice a len cap) d p) :
    ∃ l : List Lbl, l.length = len ∧ len ≤ cap ∧ cap ≤ maxLen ∧ LReads W W.heap.size a l ∧ ∀ x ∈ l, x.1.length ∈ d.weights Tryz.prog 22 ∧ x.2.length ∈ d.weights Tryz.prog 22 := by
  obtain ⟨fuel, hf⟩ := h
  obtain ⟨f0, f1, hst, t0, t1, o0, o1⟩ := lbl_two
  rcases open_slice_pairs Tryz.underlying22 hst cells_lbl o0 o1 (by rw [t0]; exact cells_str) (by rw [t1]; exact cells_str) hf with ⟨hcs, _⟩ | ⟨x, ln, c, m, n, V0, V1, D0, D1, P0, P1, hcs, _, hl, hm, hmm, hx, hi⟩
  · simp [Value.cells] at hcs
    obtain ⟨rfl, rfl, rfl⟩ := hcs
    exact ⟨[], rfl, Nat.le_refl _, Nat.zero_le _, .inl rfl, fun x hx => by cases hx⟩
  · simp [Value.cells] at hcs
    obtain ⟨rfl, rfl, rfl⟩ := hcs
    have hmc : m = cap := by simpa using hmm
    subst hmc
    have each : ∀ i, i < m → ∃ y : Lbl, V0 i = strV y.1 ∧ V1 i = strV y.2 ∧ D0 i = .lit (.string y.1) ∧ D1 i = .lit (.string y.2) := fun i him => by
      obtain ⟨_, _, h2, h3⟩ := hi i him
      rw [t0] at h2
      rw [t1] at h3
      obtain ⟨s0, e1, e2, _⟩ := DataW.trod_string Tryz.underlying9 h2
      obtain ⟨s1, e3, e4, _⟩ := DataW.trod_string Tryz.underlying9 h3
      simp only [Prod.mk.injEq] at e2 e4
      refine ⟨(s0.data.toList, s1.data.toList), ?_, ?_, e2.1, e4.1⟩
      · unfold strV; rw [Lib.mk_data]; simpa using e1
      · unfold strV; rw [Lib.mk_data]; simpa using e3
    obtain ⟨Y, hY⟩ := choose_lt each
    simp only [Prod.mk.injEq] at hx
    refine ⟨(List.range len).map Y, by simp, hl, hm, ?_, fun z hz => ?_⟩
    · rcases Nat.eq_zero_or_pos len with h0 | h0
      · subst h0
        exact .inl rfl
      · obtain ⟨b, off, spot⟩ := x
        have h1 := (hi 0 (by omega)).1
        obtain rfl : spot = none := by simpa [Addr.add] using World.cell?_spot h1
        have hb : b < W.heap.size := by
          have := World.block_lt_of_cell? _ _ h1
          simpa [Addr.add] using this
        refine .inr ⟨b, off, rfl, hb, fun j u hj => ?_⟩
        have hjl : j < len * 2 := by
          have := (List.getElem?_eq_some_iff.1 hj).1
          rw [flatL_len] at this
          simpa using this
        have hq : j / 2 < len := by omega
        have hat := flatL_at (l := (List.range len).map Y) (j := j / 2) (x := Y (j / 2)) (by simp [hq])
        obtain ⟨c0, c1, _, _⟩ := hi (j / 2) (by omega)
        obtain ⟨v0, v1, _, _⟩ := hY (j / 2) (by omega)
        rw [add_plain'] at c0 c1
        rcases Nat.mod_two_eq_zero_or_one j with hm2 | hm2
        · have e : j / 2 * 2 = j := by omega
          rw [e] at hat c0
          rw [hat.1] at hj
          cases hj
          rw [c0, v0]
        · have e : j / 2 * 2 + 1 = j := by omega
          rw [e] at hat c1
          rw [hat.2] at hj
          cases hj
          rw [c1, v1]
    · obtain ⟨i, hin, rfl⟩ := List.mem_map.1 hz
      have hil := List.mem_range.1 hin
      obtain ⟨_, _, d0, d1⟩ := hY i (by omega)
      have hd : (DataW.agg [D0 i, D1 i] : DataW H) ∈ (List.range len).map fun i => DataW.agg [D0 i, D1 i] := List.mem_map.2 ⟨i, hin, rfl⟩
      have hw : (Y i).1.length ∈ (DataW.agg [D0 i, D1 i] : DataW H).weights Tryz.prog 42 ∧ (Y i).2.length ∈ (DataW.agg [D0 i, D1 i] : DataW H).weights Tryz.prog 42 := by
        rw [d0, d1]
        simp [DataW.weights, hst, DataW.weightsEach]
      rw [hx.1]
      simp only [DataW.weights, Tryz.underlying22, List.mem_cons, List.mem_append]
      exact ⟨.inr (.inl (mem_weightsAll hd hw.1)), .inr (.inl (mem_weightsAll hd hw.2))⟩
end Go.Proofs.YtpdmmnhmnmlogaaGreat
