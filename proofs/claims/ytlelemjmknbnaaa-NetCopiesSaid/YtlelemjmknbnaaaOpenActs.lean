/- A slice of acts that came in, as a list of acts (the reach of its texts is still to do). -/
import Derived.Test.YtlelemjmknbnaaaBytes
import Derived.Test.YtlelemjmknbnaaaRows
import Derived.ProofKit
import Derived.OpenShut
import Derived.ShutString
import Derived.ChangeOld
import Derived.Below
import Derived.Test.YtlelemjmknbnaaaActs
import Derived.Deep.SlicePairs
import Derived.Lib.SmallJoins
namespace Go.Proofs.Ytlelemjmknbnaaa
open Go.ChangeShapes Go.WideShapes Go.ChangeAt Go.RowKit

theorem own : ownKnob Try.prog.godebug = none := by kernel_rfl
theorem laidOut : laidOutB Try.prog = true := by kernel_rfl

theorem byte_in {n : Int} (h : (Lit.int .u8 n).wf = true) : (((UInt8.ofNat n.toNat).toNat : Nat) : Int) = n := by
  have := bounds_u8 h
  rw [UInt8.toNat_ofNat']
  omega
theorem open_bytes {H : Type} {enc : TypeId × Value → H} {W : World} {a : Option Addr} {len cap : Nat} {d : DataW H} {p : List MemPlace}
    (h : DataW.Trod enc Try.prog W 0 (fun _ => true) true 30 (.slice a len cap) d p) :
    ∃ l : List UInt8, l.length = len ∧ len ≤ maxLen ∧ BReads W W.heap.size a l ∧ (a = none → cap = 0) := by
  obtain ⟨fuel, hf⟩ := h
  rcases open_ints Try.underlying30 Try.underlying5 (by kernel_rfl) hf with ⟨hcs, _⟩ | ⟨x, l, c, zs, hcs, _, hl, hm, hz, _, hcell, hwz⟩
  · simp [Value.cells] at hcs
    obtain ⟨rfl, rfl, rfl⟩ := hcs
    exact ⟨[], rfl, Nat.zero_le _, .inl rfl, fun _ => rfl⟩
  · simp [Value.cells] at hcs
    obtain ⟨rfl, rfl, rfl⟩ := hcs
    have hz' : zs.length = cap := by simpa using hz
    refine ⟨(zs.take len).map fun n => UInt8.ofNat n.toNat, by simp; omega, by omega, ?_, fun h => by cases h⟩
    rcases Nat.eq_zero_or_pos len with h0 | h0
    · subst h0
      exact .inl (by simp)
    · obtain ⟨b, off, spot⟩ := x
      have h1 := hcell 0 (by omega)
      obtain rfl : spot = none := by simpa [Addr.add] using World.cell?_spot h1
      have hb : b < W.heap.size := by
        have := World.block_lt_of_cell? _ _ h1
        simpa [Addr.add] using this
      refine .inr ⟨b, off, rfl, hb, fun j c hj => ?_⟩
      rw [List.getElem?_map] at hj
      obtain ⟨n, hn, rfl⟩ := Option.map_eq_some_iff.1 hj
      rw [List.getElem?_take] at hn
      split at hn
      · have hjz : j < zs.length := by
          rcases Nat.lt_or_ge j zs.length with h2 | h2
          · exact h2
          · rw [List.getElem?_eq_none h2] at hn; cases hn
        have h2 := hcell j hjz
        rw [add_plain'] at h2
        rw [h2]
        have e : zs.getD j 0 = n := by simp [List.getD, hn]
        have hw := hwz n (List.mem_of_getElem? hn)
        rw [e]
        unfold bcell
        rw [byte_in hw]
      · cases hn
end Go.Proofs.Ytlelemjmknbnaaa

namespace Go.Proofs.Ytlelemjmknbnaaa
open Go.ChangeShapes Go.WideShapes Go.ChangeAt Go.RowKit Go.Deep

instance : Inhabited Ac := ⟨⟨0, 0, default, none, [], 0⟩⟩
theorem cells_act : Try.prog.cellsOf 32 = 4 := by kernel_rfl
theorem cells_i : Try.prog.cellsOf 3 = 1 := by kernel_rfl
theorem cells_s : Try.prog.cellsOf 9 = 1 := by kernel_rfl
theorem cells_b : Try.prog.cellsOf 30 = 1 := by kernel_rfl
theorem list4 {α : Type} : ∀ {l : List α}, l.length = 4 → ∃ a b c d, l = [a, b, c, d]
  | [a, b, c, d], _ => ⟨a, b, c, d, rfl⟩
theorem slice_of {H : Type} {enc : TypeId × Value → H} {W : World} {n : Nat} {c3 : Value} {y : DataW H × List MemPlace} (h : DataW.trod enc Try.prog W 0 (fun _ => true) true n 30 [c3] = some y) :
    ∃ (A : Option Addr) (l : List UInt8) (c : Nat), c3 = .slice A l.length c ∧ BReads W W.heap.size A l ∧ (A = none → c = 0) := by
  have hs : ∃ A m c, c3 = .slice A m c := by
    rcases open_slice Try.underlying30 h with ⟨e, _⟩ | ⟨a, len, cap, _, _, _, _, e, _⟩
    · exact ⟨none, 0, 0, by simpa using e⟩
    · exact ⟨some a, len, cap, by simpa using e⟩
  obtain ⟨A, m, c, rfl⟩ := hs
  obtain ⟨l, hl, _, hr, hn⟩ := open_bytes (a := A) (len := m) (cap := c) (d := y.1) (p := y.2) ⟨n, by simpa [Value.cells] using h⟩
  exact ⟨A, l, c, by rw [hl], hr, hn⟩
set_option maxRecDepth 100000 in
theorem open_acts {H : Type} {enc : TypeId × Value → H} {W : World} {a : Option Addr} {len cap : Nat} {d : DataW H} {p : List MemPlace}
    (h : DataW.Trod enc Try.prog W 0 (fun _ => true) true 22 (.slice a len cap) d p) :
    ∃ l : List Ac, l.length = len ∧ len ≤ maxLen ∧ AReads W W.heap.size a l ∧ ∀ x ∈ l, (Lit.int .i64 x.id).wf = true := by
  obtain ⟨fuel, hf⟩ := h
  rcases open_slice Try.underlying22 hf with ⟨hcs, _⟩ | ⟨x, ln, c, m, n, D, Pl, hcs, _, hl, hm, hmm, _, hi⟩
  · simp [Value.cells] at hcs
    obtain ⟨rfl, rfl, rfl⟩ := hcs
    exact ⟨[], rfl, Nat.zero_le _, .inl rfl, fun x hx => by cases hx⟩
  · simp [Value.cells] at hcs
    obtain ⟨rfl, rfl, rfl⟩ := hcs
    have hmc : m = cap := by simpa using hmm
    subst hmc
    have each : ∀ i, i < m → ∃ y : Ac, (W.cell? (x.add (i * 4)) = some (.int .i64 y.kind) ∧ W.cell? (x.add (i * 4 + 1)) = some (.int .i64 y.id) ∧ W.cell? (x.add (i * 4 + 2)) = some (.string y.host) ∧ W.cell? (x.add (i * 4 + 3)) = some (.slice y.A y.b.length y.c)) ∧ BReads W W.heap.size y.A y.b ∧ (y.A = none → y.c = 0) ∧ (Lit.int .i64 y.id).wf = true := fun i him => by
      obtain ⟨cs', h1, h2⟩ := hi i him
      rw [cells_act] at h1
      obtain ⟨_, hlen, hcell⟩ := World.cells?_some h1
      obtain ⟨y0, y1, y2, y3, n', _, _, t0, t1, t2, t3⟩ := Go.Joins.trod_struct4 Try.underlying32 h2
      obtain ⟨c0, c1, c2, c3, rfl⟩ := list4 hlen
      simp only [cells_i, cells_s, cells_b] at t0 t1 t2 t3
      obtain ⟨k0, e0, _, _⟩ := DataW.trod_int Try.underlying3 t0
      obtain ⟨k1, e1, _, w1⟩ := DataW.trod_int Try.underlying3 t1
      obtain ⟨s2, e2, _, _⟩ := DataW.trod_string Try.underlying9 t2
      obtain ⟨A, l, c, e3, hr, hn⟩ := slice_of (c3 := c3) (by simpa using t3)
      have q0 := hcell 0 (by omega)
      have q1 := hcell 1 (by omega)
      have q2 := hcell 2 (by omega)
      have q3 := hcell 3 (by omega)
      simp at e0 e1 e2
      subst e0 e1 e2 e3
      rw [add_add] at q0 q1 q2 q3
      exact ⟨⟨k0, k1, s2, A, l, c⟩, ⟨by simpa using q0, by simpa using q1, by simpa using q2, by simpa using q3⟩, hr, hn, w1⟩
    obtain ⟨Y, hY⟩ := choose_lt each
    refine ⟨(List.range len).map Y, by simp, Nat.le_trans hl hm, ?_, fun z hz => ?_⟩
    · rcases Nat.eq_zero_or_pos len with h0 | h0
      · subst h0
        exact .inl rfl
      · obtain ⟨b, off, spot⟩ := x
        have h1 := (hY 0 (by omega)).1.1
        obtain rfl : spot = none := by simpa [Addr.add] using World.cell?_spot h1
        have hb : b < W.heap.size := by
          have := World.block_lt_of_cell? _ _ h1
          simpa [Addr.add] using this
        refine .inr ⟨b, off, rfl, hb, fun j q hj => ?_⟩
        have hjl : j < len := by
          have := (List.getElem?_eq_some_iff.1 hj).1
          simpa using this
        have e : q = Y j := by
          simp [hjl] at hj
          exact hj.symm
        subst e
        obtain ⟨⟨c0, c1, c2, c3⟩, hr, hn, _⟩ := hY j (by omega)
        rw [add_plain'] at c0 c1 c2 c3
        exact ⟨⟨c0, by rw [Nat.add_assoc]; exact c1, by rw [Nat.add_assoc]; exact c2, by rw [Nat.add_assoc]; exact c3⟩, hr, hn⟩
    · obtain ⟨i, hin, rfl⟩ := List.mem_map.1 hz
      exact (hY i (by have := List.mem_range.1 hin; omega)).2.2.2
end Go.Proofs.Ytlelemjmknbnaaa
