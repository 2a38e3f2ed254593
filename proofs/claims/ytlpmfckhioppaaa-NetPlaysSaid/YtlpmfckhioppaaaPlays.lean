/- NetPlays: whatever acts are played, the net does as the document's does; no condition. -/
import Derived.Test.YtlpmfckhioppaaaPlaysW
import Derived.Test.YtlpmfckhioppaaaOpenActs
import Derived.Test.YtlpmfckhioppaaaRows
import Derived.SizedLaws
import Derived.ProofKit
import Derived.OpenShut
import Derived.ShutString
import Derived.ChangeOld
import Derived.Below
import Derived.HandedShaped
namespace Go.Proofs.Ytlpmfckhioppaaa
open Go.ChangeShapes Go.WideShapes Go.ChangeAt Go.RowKit Go.Deep

theorem mem_weightsAll2 {H : Type} {P : Program} {e : TypeId} {n : Nat} : ∀ {ds : List (DataW H)} {d : DataW H}, d ∈ ds → n ∈ d.weights P e → n ∈ DataW.weightsAll P e ds
  | x :: ds, d, hd, hn => by
    unfold DataW.weightsAll
    rw [List.mem_append]
    rcases List.mem_cons.1 hd with rfl | h
    · exact .inl hn
    · exact .inr (mem_weightsAll2 h hn)
theorem act_weights {H : Type} (d0 d1 d2 d3 : DataW H) : (DataW.agg [d0, d1, d2, d3] : DataW H).weights Try.prog 32 = d0.weights Try.prog 3 ++ (d1.weights Try.prog 3 ++ (d2.weights Try.prog 9 ++ (d3.weights Try.prog 30 ++ []))) := by
  simp [DataW.weights, Try.underlying32, DataW.weightsEach]
theorem u8_bytes : Try.prog.bytesOf 5 = 1 := by kernel_rfl
theorem slice_of2 {H : Type} {enc : TypeId × Value → H} {W : World} {n : Nat} {c3 : Value} {y : DataW H × List MemPlace} (h : DataW.trod enc Try.prog W 0 (fun _ => true) true n 30 [c3] = some y) :
    ∃ (A : Option Addr) (l : List UInt8) (c : Nat), c3 = .slice A l.length c ∧ BReads W W.heap.size A l ∧ (A = none → c = 0) ∧ (l.length = 0 ∨ ∃ q ∈ y.1.weights Try.prog 30, l.length ≤ q) := by
  obtain ⟨A, l, c, h1, h2, h3⟩ := slice_of h
  refine ⟨A, l, c, h1, h2, h3, ?_⟩
  rcases open_slice Try.underlying30 h with ⟨e, _⟩ | ⟨a, len, cap, m, n', D, Pl, e, _, hl, _, hm, hy, _⟩
  · left
    rw [h1] at e
    simp at e
    simp [e]
  · right
    rw [h1] at e
    simp at e
    refine ⟨_, by rw [hy]; simp only [DataW.weights, Try.underlying30]; exact List.mem_cons_self .., ?_⟩
    rw [u8_bytes]
    simp
    omega
set_option maxRecDepth 100000 in
theorem open_acts2 {H : Type} {enc : TypeId × Value → H} {W : World} {a : Option Addr} {len cap : Nat} {d : DataW H} {p : List MemPlace}
    (h : DataW.Trod enc Try.prog W 0 (fun _ => true) true 22 (.slice a len cap) d p) :
    ∃ l : List Ac, l.length = len ∧ len ≤ maxLen ∧ AReads W W.heap.size a l ∧ ∀ x ∈ l, (Lit.int .i64 x.id).wf = true ∧ x.host.size ∈ d.weights Try.prog 22 ∧ (x.b.length = 0 ∨ ∃ n ∈ d.weights Try.prog 22, x.b.length ≤ n) := by
  obtain ⟨fuel, hf⟩ := h
  rcases open_slice Try.underlying22 hf with ⟨hcs, _⟩ | ⟨x, ln, c, m, n, D, Pl, hcs, _, hl, hm, hmm, hx, hi⟩
  · simp [Value.cells] at hcs
    obtain ⟨rfl, rfl, rfl⟩ := hcs
    exact ⟨[], rfl, Nat.zero_le _, .inl rfl, fun x hx => by cases hx⟩
  · simp [Value.cells] at hcs
    obtain ⟨rfl, rfl, rfl⟩ := hcs
    have hmc : m = cap := by simpa using hmm
    subst hmc
    have each : ∀ i, i < m → ∃ y : Ac, (W.cell? (x.add (i * 4)) = some (.int .i64 y.kind) ∧ W.cell? (x.add (i * 4 + 1)) = some (.int .i64 y.id) ∧ W.cell? (x.add (i * 4 + 2)) = some (.string y.host) ∧ W.cell? (x.add (i * 4 + 3)) = some (.slice y.A y.b.length y.c)) ∧ BReads W W.heap.size y.A y.b ∧ (y.A = none → y.c = 0) ∧ (Lit.int .i64 y.id).wf = true ∧ y.host.size ∈ (D i).weights Try.prog 32 ∧ (y.b.length = 0 ∨ ∃ n ∈ (D i).weights Try.prog 32, y.b.length ≤ n) := fun i him => by
      obtain ⟨cs', h1, h2⟩ := hi i him
      rw [cells_act] at h1
      obtain ⟨_, hlen, hcell⟩ := World.cells?_some h1
      obtain ⟨y0, y1, y2, y3, n', hD, _, t0, t1, t2, t3⟩ := Go.Joins.trod_struct4 Try.underlying32 h2
      obtain ⟨c0, c1, c2, c3, rfl⟩ := list4 hlen
      simp only [cells_i, cells_s, cells_b] at t0 t1 t2 t3
      obtain ⟨k0, e0, _, _⟩ := DataW.trod_int Try.underlying3 t0
      obtain ⟨k1, e1, _, w1⟩ := DataW.trod_int Try.underlying3 t1
      obtain ⟨s2, e2, g2, _⟩ := DataW.trod_string Try.underlying9 t2
      obtain ⟨A, l, c, e3, hr, hn, hw3⟩ := slice_of2 (c3 := c3) (by simpa using t3)
      have hD' : D i = .agg [y0.1, y1.1, y2.1, y3.1] := (Prod.mk.inj hD).1
      have g2' : y2.1 = .lit (.string s2.data.toList) := by rw [g2]
      have hWh : s2.size ∈ (D i).weights Try.prog 32 := by
        rw [hD', act_weights, g2', Lib.size_eq]
        simp [DataW.weights]
      have hWb : l.length = 0 ∨ ∃ n ∈ (D i).weights Try.prog 32, l.length ≤ n := by
        rcases hw3 with h0 | ⟨q, h3, h4⟩
        · exact .inl h0
        · refine .inr ⟨q, ?_, h4⟩
          rw [hD', act_weights]
          simp [h3]
      have q0 := hcell 0 (by omega)
      have q1 := hcell 1 (by omega)
      have q2 := hcell 2 (by omega)
      have q3 := hcell 3 (by omega)
      simp at e0 e1 e2
      subst e0 e1 e2 e3
      rw [add_add] at q0 q1 q2 q3
      exact ⟨⟨k0, k1, s2, A, l, c⟩, ⟨by simpa using q0, by simpa using q1, by simpa using q2, by simpa using q3⟩, hr, hn, w1, hWh, hWb⟩
    obtain ⟨Y, hY⟩ := choose_lt each
    refine ⟨(List.range len).map Y, by simp, Nat.le_trans hl hm, ?_, fun z hz => ?_⟩
    · rcases Nat.eq_zero_or_pos len with h0 | h0
      · subst h0
        exact .inl rfl
      · obtain ⟨b, off, spot⟩ := x
        have h1 := (hY 0 (by omega)).1.1
        obtain rfl : spot = none := by simpa [Addr.add] using World.cell?_spot h1
        have hb : b < W.heap.size := by
          have := World.block_lt_of_cell? _ _ h1
          simpa [Addr.add] using this
        refine .inr ⟨b, off, rfl, hb, fun j q hj => ?_⟩
        have hjl : j < len := by
          have := (List.getElem?_eq_some_iff.1 hj).1
          simpa using this
        have e : q = Y j := by
          simp [hjl] at hj
          exact hj.symm
        subst e
        obtain ⟨⟨c0, c1, c2, c3⟩, hr, hn, _, _, _⟩ := hY j (by omega)
        rw [add_plain'] at c0 c1 c2 c3
        exact ⟨⟨c0, by rw [Nat.add_assoc]; exact c1, by rw [Nat.add_assoc]; exact c2, by rw [Nat.add_assoc]; exact c3⟩, hr, hn⟩
    · obtain ⟨i, hin, rfl⟩ := List.mem_map.1 hz
      have hil := List.mem_range.1 hin
      obtain ⟨_, _, _, hwf, hh, hb⟩ := hY i (by omega)
      have hd : D i ∈ (List.range len).map D := List.mem_map.2 ⟨i, hin, rfl⟩
      have hx1 := (Prod.mk.inj hx).1
      have up : ∀ q, q ∈ (D i).weights Try.prog 32 → q ∈ d.weights Try.prog 22 := fun q hq => by
        rw [hx1]
        simp only [DataW.weights, Try.underlying22, List.mem_cons, List.mem_append]
        exact .inr (.inl (mem_weightsAll2 hd hq))
      refine ⟨hwf, up _ hh, ?_⟩
      rcases hb with h0 | ⟨n, h1, h2⟩
      · exact .inl h0
      · exact .inr ⟨n, up _ h1, h2⟩

namespace netPlays
theorem own : ownKnob Try.prog.godebug = none := by kernel_rfl
theorem laidOut : laidOutB Try.prog = true := by kernel_rfl
theorem law (most leave : Int) (A0 : Option Addr) (cap : Nat) (l : List Ac) (w : World) (hl : l.length ≤ maxLen) (hh : hugeA l) (hr : AReads w w.heap.size A0 l) (hid : ∀ x ∈ l, (Lit.int .i64 x.id).wf = true) :
    Calls Try.prog 3 #[.int .i64 most, .slice A0 l.length cap, .int .i64 leave] w (Fin w) := by
  unfold maxLen at hl
  cases hf : fewB l 60 with
  | false => exact early most leave A0 cap l w (by omega) hh hr hf
  | true => exact main most leave A0 cap l w (by omega) hh hr hid hf

set_option maxRecDepth 100000 in
theorem lifted (os : Os) (started : os.Started) (H : Type) (enc : TypeId × Value → H) :
    ReturnsInHanded {} Try.checked os 3 .any (Rows.netPlaysSpec.pre6 enc Try.prog Try.f3 Rows.netPlaysRow.domain false) (Rows.netPlaysSpec.post enc Try.prog Try.f3 false true false false) := by
  refine returnsInHanded_of_change_shaped (C := Try.checked) own started (by kernel_rfl) Try.func3
    (ChangeSpec.witness6 (enc := enc) (C := Try.checked) false ⟨#[], #[.int .i64 0, .slice none 0 0, .int .i64 0], []⟩ 8 (by kernel_rfl) (by kernel_rfl) (by kernel_rfl) (by kernel_rfl)) ?_
  intro W base args ds gs before hval0 hW hcnd hsz0 hsh _
  have hval : ∀ (j : Nat) t v, Try.f3.params[j]? = some t → args[j]? = some v → Value.okWide Try.prog W .any base t v := hval0
  have hsz : (DataW.weightsEach Try.prog (Try.f3.params.toList ++ Rows.netPlaysSpec.plain.varTypes Try.prog) (ds ++ gs)).all (· ≤ reachBytes) = true := hsz0
  have hW' := hW
  obtain ⟨p, q, hA0, hV, rfl, hfz, hnd⟩ := hW
  have hA : DataW.TrodAll enc Try.prog W 0 (fun _ => true) true Try.f3.params.toList args.toList ds p := hA0
  rw [Try.params3] at hA hval hsz
  obtain ⟨v0, vs0, d0, ds0, p0, q0, hargs, rfl, rfl, h0, r0⟩ := trodAll_cons hA
  obtain ⟨v1, vs1, d1, ds1, p1, q1, rfl, rfl, rfl, h1, r1⟩ := trodAll_cons r0
  obtain ⟨v2, vs2, d2, ds2, p2, q2, rfl, rfl, rfl, h2, r2⟩ := trodAll_cons r1
  obtain ⟨rfl, rfl, rfl⟩ := trodAll_nil r2
  obtain rfl : args = #[v0, v1, v2] := by cases args; simp_all
  obtain ⟨rfl, rfl⟩ := trodVars_none hV
  obtain ⟨n0, rfl, rfl, rfl, wn0⟩ := open_int Try.underlying3 (hval 0 3 v0 rfl rfl) h0
  obtain ⟨a1, len1, cap1, rfl⟩ := okWide_slice Try.underlying22 (hval 1 22 v1 rfl rfl)
  have k1 := h1
  have lt1 : ∀ x ∈ p1, x.block < W.heap.size := by obtain ⟨m, hm⟩ := k1; exact DataW.trod_lt m _ _ _ hm
  obtain ⟨l, rfl, hm, hr, hx⟩ := open_acts2 h1
  obtain ⟨n2, rfl, rfl, rfl, wn2⟩ := open_int Try.underlying3 (hval 2 3 v2 rfl rfl) h2
  have hh : hugeA l := fun x hxl => by
    obtain ⟨_, e1, e2⟩ := hx x hxl
    have f1 := List.all_eq_true.1 hsz _ (DataW.weights_mem_each (j := 1) (t := 22) rfl rfl _ e1)
    unfold reachBytes at f1 hsz
    simp only [decide_eq_true_eq] at f1
    rcases e2 with e2 | ⟨q, e3, e4⟩
    · omega
    · have f2 := List.all_eq_true.1 hsz _ (DataW.weights_mem_each (j := 1) (t := 22) rfl rfl _ e3)
      simp only [decide_eq_true_eq] at f2
      omega
  clear hA0 hval0 hsz0
  refine (law n0 n2 a1 cap1 l W hm hh hr (fun x hxl => (hx x hxl).1)).mono fun e W' ⟨he, bel⟩ => ?_
  subst he
  exact ⟨_, rfl, _, _, _, [], _, [], hW', trodAll_mk1 (shut_bool Try.underlying4 _), (trodAll_cons_mk (shut_int Try.underlying3 wn0) (trodAll_cons_mk (Below.trod laidOut (by kernel_rfl) (of_decide_eq_true (by kernel_rfl)) k1 bel lt1) (trodAll_cons_mk (shut_int Try.underlying3 wn2) trodAll_mk0))), rfl, bel.frame _, fun h => by cases h⟩

theorem holds : Rows.NetPlaysSaid :=
  OpenClaim.holds_of_wide 3 Try.f3 rfl rfl rfl rfl rfl rfl rfl ⟨rfl, rfl, rfl, rfl, rfl⟩ rfl rfl rfl rfl rfl (by kernel_rfl) Try.func3 (by kernel_rfl)
    (of_decide_eq_true (by kernel_rfl)) (by unfold Func.isWrapper; first | (rw [if_pos (by decide +kernel)]; kernel_rfl) | (rw [if_neg (by decide +kernel)]; exact ⟨rfl, rfl⟩))
    (fun os started H enc _ => lifted os started H enc)
#print axioms holds
end netPlays
end Go.Proofs.Ytlpmfckhioppaaa
