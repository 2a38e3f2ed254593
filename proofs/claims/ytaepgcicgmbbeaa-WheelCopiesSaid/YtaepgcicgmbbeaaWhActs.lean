/- What came in: acts. -/
import Derived.Test.YtaepgcicgmbbeaaWhPlaysW
import Derived.Test.YtaepgcicgmbbeaaWhOpen
namespace Go.Proofs.Ytaepgcicgmbbeaa
open Go.ChangeShapes Go.WideShapes Go.ChangeAt Go.RowKit Go.Deep

theorem cells_act : Try.prog.cellsOf 32 = 3 := by kernel_rfl
theorem list3 {α : Type} : ∀ {l : List α}, l.length = 3 → ∃ a b c, l = [a, b, c]
  | [a, b, c], _ => ⟨a, b, c, rfl⟩
set_option maxRecDepth 100000 in
theorem open_acts {H : Type} {enc : TypeId × Value → H} {W : World} {a : Option Addr} {len cap : Nat} {d : DataW H} {p : List MemPlace}
    (h : DataW.Trod enc Try.prog W 0 (fun _ => true) true 22 (.slice a len cap) d p) :
    ∃ l : List Ac, l.length = len ∧ len ≤ maxLen ∧ aK.Reads W W.heap.size a l ∧ Acts l := by
  obtain ⟨fuel, hf⟩ := h
  rcases open_slice Try.underlying22 hf with ⟨hcs, _⟩ | ⟨x, ln, c, m, n, D, Pl, hcs, _, hl, hm, hmm, _, hi⟩
  · simp [Value.cells] at hcs
    obtain ⟨rfl, rfl, rfl⟩ := hcs
    exact ⟨[], rfl, Nat.zero_le _, .inl rfl, fun x hx => by cases hx⟩
  · simp [Value.cells] at hcs
    obtain ⟨rfl, rfl, rfl⟩ := hcs
    have hmc : m = cap := by simpa using hmm
    subst hmc
    have each : ∀ i, i < m → ∃ y : Ac, (W.cell? (x.add (i * 3)) = some (.int .i64 y.1) ∧ W.cell? (x.add (i * 3 + 1)) = some (.int .i64 y.2.1) ∧ W.cell? (x.add (i * 3 + 2)) = some (.int .i64 y.2.2)) ∧ In64 y.1 ∧ In64 y.2.1 ∧ In64 y.2.2 := fun i him => by
      obtain ⟨cs', h1, h2⟩ := hi i him
      rw [cells_act] at h1
      obtain ⟨_, hlen, hcell⟩ := World.cells?_some h1
      obtain ⟨y0, y1, y2, n', _, _, t0, t1, t2⟩ := trod_struct3 Try.underlying32 h2
      obtain ⟨c0, c1, c2, rfl⟩ := list3 hlen
      simp only [cells_i, cells_l] at t0 t1 t2
      obtain ⟨k0, e0, _, w0⟩ := DataW.trod_int Try.underlying3 t0
      obtain ⟨k1, e1, _, w1⟩ := DataW.trod_int Try.underlying3 t1
      obtain ⟨k2, e2, _, w2⟩ := DataW.trod_int Try.underlying2 t2
      have q0 := hcell 0 (by omega)
      have q1 := hcell 1 (by omega)
      have q2 := hcell 2 (by omega)
      simp at e0 e1 e2
      subst e0 e1 e2
      rw [add_add] at q0 q1 q2
      exact ⟨(k0, k1, k2), ⟨by simpa using q0, by simpa using q1, by simpa using q2⟩, wfOf w0, wfOf w1, wfOf w2⟩
    obtain ⟨Y, hY⟩ := choose_lt each
    refine ⟨(List.range len).map Y, by simp, Nat.le_trans hl hm, ?_, fun z hz => ?_⟩
    · rcases Nat.eq_zero_or_pos len with h0 | h0
      · subst h0
        exact .inl rfl
      · refine reads_of aOk ⟨by simpa [Addr.add] using World.cell?_spot (hY 0 (by omega)).1.1, by simpa [Addr.add] using World.block_lt_of_cell? _ _ (hY 0 (by omega)).1.1⟩ fun i hil j u hu => ?_
        obtain ⟨⟨q0, q1, q2⟩, _⟩ := hY i (by omega)
        match j, hu with
        | 0, hu => cases hu; exact q0
        | 1, hu => cases hu; exact q1
        | 2, hu => cases hu; exact q2
        | j + 3, hu => simp [aK] at hu
    · obtain ⟨i, hin, rfl⟩ := List.mem_map.1 hz
      exact (hY i (by have := List.mem_range.1 hin; omega)).2
end Go.Proofs.Ytaepgcicgmbbeaa
