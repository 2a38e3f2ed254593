/- What came in: acts. -/
import Derived.Test.YtjkkpdflijjllaaFldOpen
import Derived.Test.YtjkkpdflijjllaaWnSumsW
namespace Go.Proofs.Ytjkkpdflijjllaa
open Go.ChangeShapes Go.WideShapes Go.ChangeAt Go.RowKit Go.Deep

theorem gain_struct : Try.prog.underlying 34 = some (.struct (Try.prog.fieldsOf 34)) := by kernel_rfl
theorem gain_fields : (Try.prog.fieldsOf 34).toList.map (fun f => (f.type, f.offset)) = [(9, 0), (2, 1), (2, 2), (4, 3)] := by kernel_rfl
theorem act_struct : Try.prog.underlying 36 = some (.struct (Try.prog.fieldsOf 36)) := by kernel_rfl
theorem act_fields : (Try.prog.fieldsOf 36).toList.map (fun f => (f.type, f.offset)) = [(3, 0), (2, 1), (34, 2)] := by kernel_rfl
theorem cells_gain : Try.prog.cellsOf 34 = 4 := by kernel_rfl
theorem cells_act : Try.prog.cellsOf 36 = 6 := by kernel_rfl
theorem list6 {α : Type} : ∀ {l : List α}, l.length = 6 → ∃ a b c d e f, l = [a, b, c, d, e, f]
  | [a, b, c, d, e, f], _ => ⟨a, b, c, d, e, f, rfl⟩
instance : Inhabited Ac := ⟨⟨0, 0, ⟨#[]⟩, 0, 0, false⟩⟩
/-- What an act is made of, by the weights of what came in. -/
def WAc (ws : List Nat) (a : Ac) : Prop := a.name.size ∈ ws ∧ I64 a.n ∧ I64 a.tm ∧ I64 a.inc
set_option maxRecDepth 100000 in
theorem trod_act {H : Type} {enc : TypeId × Value → H} {W : World} {fuel : Nat} {cs : List Value} {x : DataW H × List MemPlace} (h : DataW.trod enc Try.prog W 0 (fun _ => true) true fuel 36 cs = some x) :
    ∃ a : Ac, cs = a.cells ∧ WAc (x.1.weights Try.prog 36) a := by
  obtain ⟨n, hl, hf⟩ := trod_flds act_struct act_fields h
  rw [cells_act] at hl
  obtain ⟨c0, c1, c2, c3, c4, c5, rfl⟩ := list6 hl
  obtain ⟨y0, h0, _⟩ := hf 0 _ _ rfl
  obtain ⟨y1, h1, _⟩ := hf 1 _ _ rfl
  obtain ⟨y2, h2, w2⟩ := hf 2 _ _ rfl
  simp only [cells_in, cells_i64, cells_gain] at h0 h1 h2
  obtain ⟨m, hl2, hf2⟩ := trod_flds gain_struct gain_fields h2
  obtain ⟨z0, g0, w0⟩ := hf2 0 _ _ rfl
  obtain ⟨z1, g1, _⟩ := hf2 1 _ _ rfl
  obtain ⟨z2, g2, _⟩ := hf2 2 _ _ rfl
  obtain ⟨z3, g3, _⟩ := hf2 3 _ _ rfl
  simp only [cells_st, cells_i64, cells_bo] at g0 g1 g2 g3
  obtain ⟨k0, e0, _, q0⟩ := DataW.trod_int Try.underlying3 h0
  obtain ⟨k1, e1, _, q1⟩ := DataW.trod_int Try.underlying2 h1
  obtain ⟨s2, e2, d2, _⟩ := DataW.trod_string Try.underlying9 g0
  obtain ⟨k3, e3, _, q3⟩ := DataW.trod_int Try.underlying2 g1
  obtain ⟨k4, e4, _, q4⟩ := DataW.trod_int Try.underlying2 g2
  obtain ⟨b5, e5, _⟩ := DataW.trod_bool Try.underlying4 g3
  simp at e0 e1 e2 e3 e4 e5
  subst e0 e1 e2 e3 e4 e5
  rw [d2] at w0
  exact ⟨⟨k0, k1, s2, k3, k4, b5⟩, rfl, w2 _ (w0 _ weight_str), in64_of q1, in64_of q3, in64_of q4⟩
set_option maxRecDepth 100000 in
theorem open_acts {H : Type} {enc : TypeId × Value → H} {W : World} {a : Option Addr} {len cap : Nat} {d : DataW H} {p : List MemPlace}
    (h : DataW.Trod enc Try.prog W 0 (fun _ => true) true 22 (.slice a len cap) d p) :
    ∃ l : List Ac, l.length = len ∧ acK.Reads W W.heap.size a l ∧ ∀ x ∈ l, WAc (d.weights Try.prog 22) x := by
  obtain ⟨fuel, hf⟩ := h
  rcases open_slice Try.underlying22 hf with ⟨hcs, _⟩ | ⟨x, ln, c, m, n, D, Pl, hcs, _, hl, hm, hmm, hd, hi⟩
  · simp [Value.cells] at hcs
    obtain ⟨rfl, rfl, rfl⟩ := hcs
    exact ⟨[], rfl, .inl rfl, fun x hx => by cases hx⟩
  · simp [Value.cells] at hcs
    obtain ⟨rfl, rfl, rfl⟩ := hcs
    have hmc : m = cap := by simpa using hmm
    subst hmc
    have each : ∀ i, i < m → ∃ y : Ac, (∀ j u, (acK.enc y)[j]? = some u → W.cell? (x.add (i * 6 + j)) = some u) ∧ WAc ((D i).weights Try.prog 36) y := fun i him => by
      obtain ⟨cs', h1, h2⟩ := hi i him
      rw [cells_act] at h1
      obtain ⟨_, hlen, hcell⟩ := World.cells?_some h1
      obtain ⟨t, rfl, g1⟩ := trod_act h2
      refine ⟨t, fun j u hj => ?_, g1⟩
      have hj5 : j < 6 := by
        have := (List.getElem?_eq_some_iff.1 hj).1
        simpa [acK, Ac.cells] using this
      have := hcell j hj5
      rw [add_add] at this
      rw [this]
      simpa [acK] using hj
    obtain ⟨Y, hY⟩ := choose_lt each
    have el : ((List.range len).map Y).length = len := by simp
    refine ⟨(List.range len).map Y, el, ?_, fun z hz => ?_⟩
    · rcases Nat.eq_zero_or_pos len with h0 | h0
      · subst h0
        exact .inl rfl
      · have c0 := (hY 0 (by omega)).1 0 _ rfl
        refine reads_of acOk ⟨by simpa [Addr.add] using World.cell?_spot c0, by simpa [Addr.add] using World.block_lt_of_cell? _ _ c0⟩ fun i hil j u hu => (hY i (by omega)).1 j u hu
    · obtain ⟨i, hin, rfl⟩ := List.mem_map.1 hz
      have hil := List.mem_range.1 hin
      obtain ⟨w0, g⟩ := (hY i (by omega)).2
      have hdm : D i ∈ (List.range len).map D := List.mem_map.2 ⟨i, hin, rfl⟩
      refine ⟨?_, g⟩
      have hd' := congrArg Prod.fst hd
      simp only at hd'
      rw [hd']
      simp only [DataW.weights, Try.underlying22, List.mem_cons, List.mem_append]
      exact .inr (.inl (weights_all hdm w0))
theorem open_ints64 {H : Type} {enc : TypeId × Value → H} {W : World} {a : Option Addr} {len cap : Nat} {d : DataW H} {p : List MemPlace}
    (h : DataW.Trod enc Try.prog W 0 (fun _ => true) true 53 (.slice a len cap) d p) :
    ∃ l : List Int, l.length = len ∧ i6K.Reads W W.heap.size a l ∧ ∀ c ∈ l, I64 c := by
  obtain ⟨fuel, hf⟩ := h
  rcases open_slice Try.underlying53 hf with ⟨hcs, _⟩ | ⟨x, ln, c, m, n, D, Pl, hcs, _, hl, hm, hmm, _, hi⟩
  · simp [Value.cells] at hcs
    obtain ⟨rfl, rfl, rfl⟩ := hcs
    exact ⟨[], rfl, .inl rfl, fun x hx => by cases hx⟩
  · simp [Value.cells] at hcs
    obtain ⟨rfl, rfl, rfl⟩ := hcs
    have hmc : m = cap := by simpa using hmm
    subst hmc
    have each : ∀ i, i < m → ∃ y : Int, W.cell? (x.add i) = some (.int .i64 y) ∧ I64 y := fun i him => by
      obtain ⟨cs', h1, h2⟩ := hi i him
      rw [cells_i64] at h1
      obtain ⟨_, hlen, hcell⟩ := World.cells?_some h1
      obtain ⟨k0, e0, _, w0⟩ := DataW.trod_int Try.underlying2 h2
      have q0 := hcell 0 (by omega)
      subst e0
      rw [add_add] at q0
      exact ⟨k0, by simpa using q0, in64_of w0⟩
    obtain ⟨Y, hY⟩ := choose_lt each
    refine ⟨(List.range len).map Y, by simp, ?_, fun z hz => ?_⟩
    · rcases Nat.eq_zero_or_pos len with h0 | h0
      · subst h0
        exact .inl rfl
      · refine reads_of i6Ok ⟨by simpa [Addr.add] using World.cell?_spot (hY 0 (by omega)).1, by simpa [Addr.add] using World.block_lt_of_cell? _ _ (hY 0 (by omega)).1⟩ fun i hil j u hu => ?_
        obtain ⟨q0, _⟩ := hY i (by omega)
        match j, hu with
        | 0, hu => cases hu; simpa [i6K] using q0
        | j + 1, hu => simp [i6K] at hu
    · obtain ⟨i, hin, rfl⟩ := List.mem_map.1 hz
      exact (hY i (by have := List.mem_range.1 hin; omega)).2
end Go.Proofs.Ytjkkpdflijjllaa
