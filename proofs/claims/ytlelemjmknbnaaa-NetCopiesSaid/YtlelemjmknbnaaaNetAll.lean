/- Going over a net's connections: the function value that All hands back. -/
import Derived.Test.YtlelemjmknbnaaaNetList
namespace Go.Proofs.Ytlelemjmknbnaaa
open Go.RowKit Go.Maps Go.Sort Go.Shelf
attribute [local go_sem] Oper.semAt_some

/-- Block b lies as it lay. -/
def KeepB (b : Nat) (W W' : World) : Prop := W'.heap[b]? = W.heap[b]?
theorem KeepB.t {b : Nat} {A B C : World} (h : KeepB b A B) (k : KeepB b B C) : KeepB b A C := Eq.trans k h
theorem KeepB.b {b : Nat} {w : World} (hb : b < w.heap.size) (W : World) (l : Nat) (o o' : Obj) (hl : w.heap.size ≤ l) (_ : W.heap[l]? = some o) (_ : o.isCells = false) (_ : o.isWalk = false) : KeepB b W (W.putObj l o') := World.putObj_heap_other (by omega)
theorem KeepB.cell {b j : Nat} {A B : World} (h : KeepB b A B) : B.cell? ⟨b, j, none⟩ = A.cell? ⟨b, j, none⟩ := World.cell?_of_block h
theorem KeepB.alloc {b : Nat} {A B : World} (h : KeepB b A B) (hb : b < B.heap.size) (o : Obj) : KeepB b A (B.alloc o) := Eq.trans (Below.heap_alloc _ _ b hb) h
def encEnt (x : Ent) : Array Value := #[.int .i64 (x.1 : Int), .string ⟨x.2.toArray⟩]
set_option maxRecDepth 100000 in
set_option maxHeartbeats 2000000 in
theorem all1_in (F : Fence) (n : Nat) (hf : F.fn 51) (hro : F.round = none) (hn : 1 ≤ n) (l Bs b cap : Nat) (es : List Ent) (hl : es.length ≤ 1000) (J Jx : List Ent → World → Prop) (B0 : Nat) (hJ : AbidesFrom B0 J) (hJx : AbidesFrom B0 Jx)
    (hY : ∀ pre x W, J pre W → pre.length < es.length → YieldAt F (n - 1) Try.prog l (encEnt x) W fun e W' =>
      (e = .returned (.bool true) ∧ J (pre ++ [x]) W' ∧ KeepB b W W') ∨ (e = .returned (.bool false) ∧ Jx (pre ++ [x]) W'))
    (W : World) (hb : b < W.heap.size) (hBs : W.cell? ⟨Bs, 0, none⟩ = some (.slice (some ⟨b, 0, none⟩) es.length cap))
    (hc : ∀ (j : Nat) (x : Ent), es[j]? = some x → W.cell? ⟨b, j * 2, none⟩ = some (.int .i64 (x.1 : Int)) ∧ W.cell? ⟨b, j * 2 + 1, none⟩ = some (.string ⟨x.2.toArray⟩)) (h0 : J [] W) :
    CallsIn F n Try.prog 51 #[.func (.yield l) #[] #[], .pointer (some ⟨Bs, 0, none⟩)] W fun e W' => (∃ v, e = .returned v) ∧
      ((∃ ys, ys = es ∧ J ys W') ∨ (∃ pre, pre <+: es ∧ Jx pre W')) := by
  have hlb : ∀ wr, KeepB b W wr → b < wr.heap.size := fun wr h => by
    obtain ⟨o, ho⟩ : ∃ o, W.heap[b]? = some o := ⟨_, Array.getElem?_eq_getElem hb⟩
    exact lt_of_block (Eq.trans h ho)
  refine callsIn_of_wp Try.func51 rfl hf ?_ hro
  simp only [Try.ntmps51, List.size_toArray, List.length_cons, List.length_nil, Nat.reduceAdd, Nat.reduceSub, Array.replicate_succ, Array.replicate_zero, List.push_toArray, List.append_toArray, List.nil_append, List.cons_append]
  gi_wp2
  gi_loopw [7] (fun i wr => ∃ k : Nat, k ≤ es.length ∧ i = .int .i64 k ∧ J (es.take k) wr ∧ KeepB b W wr)
    (fun i _ => es.length - (intOf i).toNat)
  case atStart => exact ⟨0, Nat.zero_le _, rfl, h0, rfl⟩
  case round =>
    obtain ⟨k, hk, rfl, hJs, hnx⟩ := hrel
    by_cases hlt : k < es.length
    · obtain ⟨x, hx⟩ : ∃ x, es[k]? = some x := ⟨_, List.getElem?_eq_getElem hlt⟩
      obtain ⟨c0, c1⟩ := hc k x hx
      have d0 : wr.cell? ⟨b, k * 2, none⟩ = some (.int .i64 (x.1 : Int)) := hnx.cell.trans c0
      have d1 : wr.cell? ⟨b, k * 2 + 1, none⟩ = some (.string ⟨x.2.toArray⟩) := hnx.cell.trans c1
      obtain ⟨fn, tmps, assign, body, hy, hR⟩ := hY (es.take k) x (wr.alloc (.cells #[.int .i64 (x.1 : Int), .string ⟨x.2.toArray⟩] 80)) (hJ _ _ _ none hJs (World.grownBy_alloc _ _ _) (fun r e => by cases e)) (by rw [List.length_take]; omega)
      unfold encEnt at hy
      clear hc hBs c0 c1
      have e1 : es.take k ++ [x] = es.take (k + 1) := by
        rw [List.take_add_one, hx]
        rfl
      rw [e1] at hR
      clear hx e1
      gi_wp2
      refine hR.mono ?_
      rintro e W3 (⟨rfl, hJ3, hk3⟩ | ⟨rfl, hJx3⟩)
      · gi_wp2
        go_roundw
        case rel => exact ⟨k + 1, by omega, by simp, hJ3, (hnx.alloc (hlb wr hnx) _).t hk3⟩
        case measure => simp [intOf]; omega
      · gi_wp2
        refine bodyPost_ret (results_none rfl _ _ _) rfl ?_
        exact ⟨⟨_, rfl⟩, .inr ⟨_, List.take_prefix _ _, hJx3⟩⟩
    · obtain rfl : k = es.length := by omega
      gi_wp2
      go_end0
      exact ⟨⟨_, rfl⟩, .inl ⟨_, rfl, by rwa [List.take_length] at hJs⟩⟩
theorem ent_cells {B : Nat} {w : World} {v : Value} {es : List Ent} (h : entK.Own B w v es) : (v = .slice none 0 0 ∧ es = []) ∨ ∃ b cap, v = .slice (some ⟨b, 0, none⟩) es.length cap ∧ B ≤ b ∧ b < w.heap.size ∧
    ∀ (j : Nat) (x : Ent), es[j]? = some x → w.cell? ⟨b, j * 2, none⟩ = some (.int .i64 (x.1 : Int)) ∧ w.cell? ⟨b, j * 2 + 1, none⟩ = some (.string ⟨x.2.toArray⟩) := by
  rcases h.form with h1 | ⟨g, cap, rfl, hB, hg, _, _⟩
  · exact .inl h1
  · refine .inr ⟨g, cap, rfl, hB, hg, fun j x hj => ⟨?_, ?_⟩⟩
    · have := World.ownsRow.cells h (g := g) rfl (j * 2) (.int .i64 (x.1 : Int)) (by have := EK.flat_at entOk hj 0 _ rfl; simpa [entK] using this)
      rwa [add_plain', Nat.zero_add] at this
    · have := World.ownsRow.cells h (g := g) rfl (j * 2 + 1) (.string ⟨x.2.toArray⟩) (by have := EK.flat_at entOk hj 1 _ rfl; simpa [entK] using this)
      rwa [add_plain', Nat.zero_add] at this
/-- What All hands back goes over these, while its list's block lies as it lay. -/
theorem ent_stops (F : Fence) (n : Nat) (hf : F.fn 51) (hro : F.round = none) (hn : 1 ≤ n) (Bs b B : Nat) (v : Value) (es : List Ent) (hl : es.length ≤ 1000) (w : World) (hBs : Bs < w.heap.size) (hc : w.cell? ⟨Bs, 0, none⟩ = some v) (ho : entK.Own B w v es) (hb : ∀ g, v.ownBlock = some g → g = b) :
    SeqStopsK F n Try.prog 51 #[.pointer (some ⟨Bs, 0, none⟩)] encEnt (KeepB b) (fun ys => ys = es) (fun pre => pre <+: es) es.length w := fun l J Jx W hW hJ hJx hY h0 => by
  have hc' := (hW.cell (p := ⟨Bs, 0, none⟩) hBs).trans hc
  rcases ent_cells (ho.below hW) with ⟨rfl, rfl⟩ | ⟨g, cap, rfl, _, hg, hcs⟩
  · exact (none_in F n hf hro l Bs none 0 (J []) W hc' h0).mono fun e W' ⟨he, hj⟩ => ⟨he, .inl ⟨_, rfl, hj⟩⟩
  · obtain rfl := hb g rfl
    exact all1_in F n hf hro hn l Bs g cap es hl J Jx W.heap.size hJ hJx hY W hg hc' hcs h0
set_option maxRecDepth 100000 in
set_option maxHeartbeats 1000000 in
theorem all_any {B : Nat} {w : World} {bn bm : Nat} {most last : Int} {L : List NE} (h : NetAt B w bn bm most last L) (hl : L.length ≤ 1000) (hh : ∀ x ∈ L, x.1.host.length ≤ 1000000) (hlast : last ≤ 1000000000) :
    Calls Try.prog 32 #[.pointer (some ⟨bn, 0, none⟩)] w fun e w' =>
      (∃ bs v, e = .returned (.func (.func 51) #[] #[.pointer (some ⟨bs, 0, none⟩)]) ∧ w.heap.size ≤ bs ∧ bs < w'.heap.size ∧ w'.cell? ⟨bs, 0, none⟩ = some v ∧ entK.Own w.heap.size w' v (entsOf L)) ∧ Below w.heap.size w w' := by
  have hmf : ∀ (fn : Fn) (first cap : Array Value) (w : World), (Instr.makeFunc fn first cap).run Try.prog w = .ok (.func fn first cap) w := fun _ _ _ _ => rfl
  have HL := Lib.hid (list_any h hl hh hlast)
  clear h hh
  go_enter Try.func32, Try.ntmps32
  go_wp2_with fail
  refine HL.out.mono ?_
  rintro e w1 ⟨⟨v, rfl, hv⟩, hb⟩
  have HB := Lib.hid hb
  have HV := Lib.hid hv
  clear hb hv
  obtain ⟨A, c, rfl⟩ : ∃ A c, v = .slice A (entsOf L).length c := by
    rcases HV.out.form with ⟨rfl, h0⟩ | ⟨g, cap, rfl, _⟩
    · exact ⟨none, 0, by rw [h0]; rfl⟩
    · exact ⟨_, _, rfl⟩
  go_wp2_with fail
  go_ret
  exact ⟨⟨_, _, rfl, HB.out.size, by simp, (Boxed.new w1 _ _).cell, HV.out.alloc _⟩, HB.out.alloc HB.out.size _⟩
end Go.Proofs.Ytlelemjmknbnaaa
