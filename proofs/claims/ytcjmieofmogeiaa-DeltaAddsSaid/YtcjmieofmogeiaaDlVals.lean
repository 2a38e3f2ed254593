/- What came in: values. -/
import Derived.Test.YtcjmieofmogeiaaDlOpen
import Derived.Test.YtcjmieofmogeiaaDlAddsP
namespace Go.Proofs.Ytcjmieofmogeiaa
open Go.ChangeShapes Go.WideShapes Go.ChangeAt Go.RowKit Go.Deep

theorem open_vals {H : Type} {enc : TypeId × Value → H} {W : World} {a : Option Addr} {len cap : Nat} {d : DataW H} {p : List MemPlace}
    (h : DataW.Trod enc Try.prog W 0 (fun _ => true) true 46 (.slice a len cap) d p) :
    ∃ l : List Int, l.length = len ∧ len ≤ maxLen ∧ tK.Reads W W.heap.size a l ∧ ∀ c ∈ l, -9223372036854775808 ≤ c ∧ c ≤ 9223372036854775807 := by
  obtain ⟨fuel, hf⟩ := h
  rcases open_slice Try.underlying46 hf with ⟨hcs, _⟩ | ⟨x, ln, c, m, n, D, Pl, hcs, _, hl, hm, hmm, _, hi⟩
  · simp [Value.cells] at hcs
    obtain ⟨rfl, rfl, rfl⟩ := hcs
    exact ⟨[], rfl, Nat.zero_le _, .inl rfl, fun x hx => by cases hx⟩
  · simp [Value.cells] at hcs
    obtain ⟨rfl, rfl, rfl⟩ := hcs
    have hmc : m = cap := by simpa using hmm
    subst hmc
    have each : ∀ i, i < m → ∃ y : Int, W.cell? (x.add i) = some (.int .i64 y) ∧ (-9223372036854775808 ≤ y ∧ y ≤ 9223372036854775807) := fun i him => by
      obtain ⟨cs', h1, h2⟩ := hi i him
      rw [cells_i64] at h1
      obtain ⟨_, hlen, hcell⟩ := World.cells?_some h1
      obtain ⟨k0, e0, _, w0⟩ := DataW.trod_int Try.underlying2 h2
      have q0 := hcell 0 (by omega)
      subst e0
      rw [add_add] at q0
      exact ⟨k0, by simpa using q0, in64_of w0⟩
    obtain ⟨Y, hY⟩ := choose_lt each
    refine ⟨(List.range len).map Y, by simp, Nat.le_trans hl hm, ?_, fun z hz => ?_⟩
    · rcases Nat.eq_zero_or_pos len with h0 | h0
      · subst h0
        exact .inl rfl
      · refine reads_of tOk ⟨by simpa [Addr.add] using World.cell?_spot (hY 0 (by omega)).1, by simpa [Addr.add] using World.block_lt_of_cell? _ _ (hY 0 (by omega)).1⟩ fun i hil j u hu => ?_
        obtain ⟨q0, _⟩ := hY i (by omega)
        match j, hu with
        | 0, hu => cases hu; simpa [tK] using q0
        | j + 1, hu => simp [tK] at hu
    · obtain ⟨i, hin, rfl⟩ := List.mem_map.1 hz
      exact (hY i (by have := List.mem_range.1 hin; omega)).2
end Go.Proofs.Ytcjmieofmogeiaa
