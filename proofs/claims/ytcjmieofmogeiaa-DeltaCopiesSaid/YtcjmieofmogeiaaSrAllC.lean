/- All's contract. -/
import Derived.Test.YtcjmieofmogeiaaSrList
import Derived.Test.YtcjmieofmogeiaaStCw
import Derived.RangeFuncKeeps
import Derived.RangeFuncNested
import Derived.RangeFuncBound
import Derived.RangeFuncCalls
import Derived.RangeFuncWrites
namespace Go.Proofs.Ytcjmieofmogeiaa
open Go.RowKit Go.Maps Go.Sort Go.Shelf
attribute [local go_sem] Oper.semAt_some

theorem KeepL.cell {b j : Nat} {A B : World} (h : KeepL [b] A B) : B.cell? ⟨b, j, none⟩ = A.cell? ⟨b, j, none⟩ := World.cell?_of_block (h b (by simp))
theorem KeepL.alloc {b : Nat} {A B : World} (h : KeepL [b] A B) (hb : b < B.heap.size) (o : Obj) : KeepL [b] A (B.alloc o) := fun i hi => by
  rw [List.mem_singleton] at hi
  subst hi
  exact (Below.heap_alloc _ _ i hb).trans (h i (by simp))
set_option maxRecDepth 100000 in
set_option maxHeartbeats 2000000 in
theorem allS1_in {α : Type} (gf : α → One) (F : Fence) (n : Nat) (hf : F.fn 48) (hro : F.round = none) (hn : 1 ≤ n) (l Bs b cap : Nat) (es : List α) (hl : es.length ≤ 100000) (hnm : ∀ y ∈ es, (gf y).l.s.name = (gf y).name) (J Jx : List α → World → Prop) (B0 : Nat) (hJ : AbidesFrom B0 J) (hJx : AbidesFrom B0 Jx)
    (hY : ∀ pre x W, J pre W → pre.length < es.length → YieldAt F (n - 1) Try.prog l (encOne (gf x)) W fun e W' =>
      (e = .returned (.bool true) ∧ J (pre ++ [x]) W' ∧ KeepL [b] W W') ∨ (e = .returned (.bool false) ∧ Jx (pre ++ [x]) W'))
    (W : World) (hb : b < W.heap.size) (hBs : W.cell? ⟨Bs, 0, none⟩ = some (.slice (some ⟨b, 0, none⟩) es.length cap))
    (hc : ∀ (j : Nat) (x : α), es[j]? = some x → ∀ (i : Nat) (u : Value), (lstK.enc (gf x).l)[i]? = some u → W.cell? ⟨b, j * 6 + i, none⟩ = some u) (h0 : J [] W) :
    CallsIn F n Try.prog 48 #[.func (.yield l) #[] #[], .pointer (some ⟨Bs, 0, none⟩)] W fun e W' => (∃ v, e = .returned v) ∧
      ((∃ ys, ys = es ∧ J ys W') ∨ (∃ pre, pre <+: es ∧ Jx pre W')) := by
  have hlb : ∀ wr, KeepL [b] W wr → b < wr.heap.size := fun wr h => by
    obtain ⟨o, ho⟩ : ∃ o, W.heap[b]? = some o := ⟨_, Array.getElem?_eq_getElem hb⟩
    exact lt_of_block (Eq.trans (h b (by simp)) ho)
  refine callsIn_of_wp Try.func48 rfl hf ?_ hro
  simp only [Try.ntmps48, List.size_toArray, List.length_cons, List.length_nil, Nat.reduceAdd, Nat.reduceSub, Array.replicate_succ, Array.replicate_zero, List.push_toArray, List.append_toArray, List.nil_append, List.cons_append]
  gi_wp2
  gi_loopw [7] (fun i wr => ∃ k : Nat, k ≤ es.length ∧ i = .int .i64 k ∧ J (es.take k) wr ∧ KeepL [b] W wr)
    (fun i _ => es.length - (intOf i).toNat)
  case atStart => exact ⟨0, Nat.zero_le _, rfl, h0, fun _ _ => rfl⟩
  case round =>
    obtain ⟨k, hk, rfl, hJs, hnx⟩ := hrel
    by_cases hlt : k < es.length
    · obtain ⟨x, hx⟩ : ∃ x, es[k]? = some x := ⟨_, List.getElem?_eq_getElem hlt⟩
      have hcx := hc k x hx
      have hn0 := hnm x (List.mem_of_getElem? hx)
      have hYx := hY (es.take k) x
      obtain ⟨y, hyx⟩ : ∃ y, y = gf x := ⟨_, rfl⟩
      rw [← hyx] at hcx hn0 hYx
      have d0 : wr.cell? ⟨b, k * 6, none⟩ = some (.string y.l.s.name) := hnx.cell.trans (hcx 0 _ rfl)
      have d1 : wr.cell? ⟨b, k * 6 + 1, none⟩ = some (.int .i64 y.l.s.val) := hnx.cell.trans (hcx 1 _ rfl)
      have d2 : wr.cell? ⟨b, k * 6 + 2, none⟩ = some (.int .i64 y.l.s.tm) := hnx.cell.trans (hcx 2 _ rfl)
      have d3 : wr.cell? ⟨b, k * 6 + 3, none⟩ = some (.bool y.l.s.cnt) := hnx.cell.trans (hcx 3 _ rfl)
      have d4 : wr.cell? ⟨b, k * 6 + 4, none⟩ = some (.bool y.l.live) := hnx.cell.trans (hcx 4 _ rfl)
      have d5 : wr.cell? ⟨b, k * 6 + 5, none⟩ = some (.int .i64 y.l.own) := hnx.cell.trans (hcx 5 _ rfl)
      obtain ⟨fn, tmps, assign, body, hy, hR⟩ := hYx (wr.alloc (.cells #[.string y.l.s.name, .int .i64 y.l.s.val, .int .i64 y.l.s.tm, .bool y.l.s.cnt, .bool y.l.live, .int .i64 y.l.own] 88)) (hJ _ _ _ none hJs (World.grownBy_alloc _ _ _) (fun r e => by cases e)) (by rw [List.length_take]; omega)
      unfold encOne Lst.val' at hy
      rw [← hn0] at hy
      clear hc hBs hcx hYx hyx
      have e1 : es.take k ++ [x] = es.take (k + 1) := by
        rw [List.take_add_one, hx]
        rfl
      rw [e1] at hR
      clear hx e1 hn0 hnm
      gi_wp2
      refine hR.mono ?_
      rintro e W3 (⟨rfl, hJ3, hk3⟩ | ⟨rfl, hJx3⟩)
      · gi_wp2
        go_roundw
        case rel => exact ⟨k + 1, by omega, by simp, hJ3, (hnx.alloc (hlb wr hnx) _).t hk3⟩
        case measure => simp [intOf]; omega
      · gi_wp2
        refine bodyPost_ret (results_none rfl _ _ _) rfl ?_
        exact ⟨⟨_, rfl⟩, .inr ⟨_, List.take_prefix _ _, hJx3⟩⟩
    · obtain rfl : k = es.length := by omega
      gi_wp2
      go_end0
      exact ⟨⟨_, rfl⟩, .inl ⟨_, rfl, by rwa [List.take_length] at hJs⟩⟩
set_option maxRecDepth 100000 in
set_option maxHeartbeats 1000000 in
theorem allS0_in (F : Fence) (n : Nat) (hf : F.fn 48) (hro : F.round = none) (l Bs : Nat) (J : World → Prop) (W : World) (hBs : W.cell? ⟨Bs, 0, none⟩ = some (.slice none 0 0)) (h0 : J W) :
    CallsIn F n Try.prog 48 #[.func (.yield l) #[] #[], .pointer (some ⟨Bs, 0, none⟩)] W fun e W' => (∃ v, e = .returned v) ∧ J W' := by
  refine callsIn_of_wp Try.func48 rfl hf ?_ hro
  simp only [Try.ntmps48, List.size_toArray, List.length_cons, List.length_nil, Nat.reduceAdd, Nat.reduceSub, Array.replicate_succ, Array.replicate_zero, List.push_toArray, List.append_toArray, List.nil_append, List.cons_append]
  gi_wp2
  gi_loopw [7] (fun i wr => i = .int .i64 0 ∧ J wr) (fun i _ => 0)
  case atStart => exact ⟨rfl, h0⟩
  case round =>
    obtain ⟨rfl, hJ⟩ := hrel
    gi_wp2
    go_end0
    exact ⟨⟨_, rfl⟩, hJ⟩
end Go.Proofs.Ytcjmieofmogeiaa

namespace Go.Proofs.Ytcjmieofmogeiaa
open Go.RowKit Go.Maps Go.Sort Go.Shelf
attribute [local go_sem] Oper.semAt_some
variable {hd : Hd}

theorem lst_cells {B : Nat} {w : World} {v : Value} {L : List One} (h : lstK.Own B w v (lastsL L)) : (v = .slice none 0 0 ∧ L = []) ∨ ∃ b cap, v = .slice (some ⟨b, 0, none⟩) L.length cap ∧ b < w.heap.size ∧
    ∀ (j : Nat) (x : One), L[j]? = some x → ∀ (i : Nat) (u : Value), (lstK.enc x.l)[i]? = some u → w.cell? ⟨b, j * 6 + i, none⟩ = some u := by
  have hln : (lastsL L).length = L.length := by simp [lastsL]
  rcases h.form with ⟨h1, h2⟩ | ⟨g, cap, rfl, hB, hg, _, _⟩
  · exact .inl ⟨h1, by simpa [lastsL] using h2⟩
  · refine .inr ⟨g, cap, by rw [hln], hg, fun j x hj i u hu => ?_⟩
    have := World.ownsRow.cells h (g := g) rfl (j * 6 + i) u (EK.flat_at lstOk (show (lastsL L)[j]? = some x.l by simp [lastsL, hj]) i u hu)
    rwa [add_plain', Nat.zero_add] at this
/-- What All hands back goes over these, while its list's block lies as it lay. -/
theorem allS_stops {α : Type} (gf : α → One) (es : List α) (F : Fence) (n : Nat) (hf : F.fn 48) (hro : F.round = none) (hn : 1 ≤ n) (Bs b B : Nat) (v : Value) (L : List One) (hes : es.map gf = L) (hl : L.length ≤ 100000) (hnm : ∀ y ∈ L, y.l.s.name = y.name) (w : World) (hBs : Bs < w.heap.size) (hc : w.cell? ⟨Bs, 0, none⟩ = some v) (ho : lstK.Own B w v (lastsL L)) (hb : ∀ g, v.ownBlock = some g → g = b) :
    SeqStopsK F n Try.prog 48 #[.pointer (some ⟨Bs, 0, none⟩)] (fun x => encOne (gf x)) (KeepL [b]) (fun ys => ys = es) (fun pre => pre <+: es) es.length w := fun l J Jx W hW hJ hJx hY h0 => by
  have hc' := (hW.cell (p := ⟨Bs, 0, none⟩) hBs).trans hc
  rcases lst_cells (ho.below hW) with ⟨rfl, rfl⟩ | ⟨g, cap, rfl, hg, hcs⟩
  · have he : es = [] := by simpa using hes
    exact (allS0_in F n hf hro l Bs (J []) W hc' h0).mono fun e W' ⟨he', hj⟩ => ⟨he', .inl ⟨_, he.symm, hj⟩⟩
  · obtain rfl := hb g rfl
    have hlen : L.length = es.length := by rw [← hes, List.length_map]
    rw [hlen] at hc' hl
    exact allS1_in gf F n hf hro hn l Bs g cap es hl (fun y hy => hnm _ (by rw [← hes]; exact List.mem_map_of_mem hy)) J Jx W.heap.size hJ hJx hY W hg hc' (fun j x hx => hcs j (gf x) (by rw [← hes, List.getElem?_map, hx]; rfl)) h0
theorem Sr.pre {B : Nat} {w w' : World} {p b most : Nat} {F : List Nat} {P : PM} {L : List One} (h : Sr B w p b F most P L) (ht : Turns [] w w') : Sr B w' p b F most P L :=
  ⟨h.sm.pre ht, h.tel, h.cov, fun i hi => ⟨(h.foot i hi).1, Nat.lt_of_lt_of_le (h.foot i hi).2 ht.size⟩⟩
theorem Sr.names {B : Nat} {w : World} {p b most : Nat} {F : List Nat} {P : PM} {L : List One} (h : Sr B w p b F most P L) : ∀ y ∈ L, y.l.s.name = y.name ∧ NmOk y.name := fun y hy => by
  obtain ⟨g, hg⟩ := h.tel.mem y hy
  exact h.sm.nm _ _ hg
set_option maxRecDepth 100000 in
set_option maxHeartbeats 1000000 in
theorem allSt_any {B : Nat} {w : World} {p b most : Nat} {F : List Nat} {P : PM} {L : List One} (h : Sr B w p b F most P L) (hL : L.length ≤ 90000) :
    Calls Try.prog 42 #[ptr p] w fun e w' => ∃ gf caps bs, e = .returned (.func (.func gf) #[] caps) ∧ (∀ args W, (callFunc gf args).run Try.prog W = .ok (.enter gf args) W) ∧ (∀ b ∈ bs, b < w'.heap.size) ∧ Turns [] w w' ∧
      ∀ (α : Type) (gg : α → One) (es : List α), es.map gg = L → ∀ W, Turns [] w' W → SeqStopsK Fence.wide 5 Try.prog gf caps (fun x => encOne (gg x)) (KeepL bs) (fun ys => ys = es) (fun pre => pre <+: es) es.length W := by
  have hmf : ∀ (fn : Fn) (first cap : Array Value) (w : World), (Instr.makeFunc fn first cap).run Try.prog w = .ok (.func fn first cap) w := fun _ _ _ _ => rfl
  have HLS := Lib.hid (listSt_any h hL)
  have HNM := Lib.hid h.names
  have HLL := Lib.hid hL
  clear h hL
  go_enter Try.func42, Try.ntmps42
  go_wp2_with fail
  refine HLS.out.mono ?_
  rintro e w1 ⟨⟨v, rfl, hv⟩, hb⟩
  have HB := Lib.hid hb
  have HV := Lib.hid hv
  have hln : (lastsL L).length = L.length := by simp [lastsL]
  have hform : ∃ A c g, v = .slice A L.length c ∧ (∀ i, v.ownBlock = some i → i = g) ∧ g < w1.heap.size + 1 := by
    rcases hv.form with ⟨rfl, h0⟩ | ⟨g, cap, rfl, _, hg, _⟩
    · refine ⟨none, 0, 0, ?_, fun i hi => by simp [Value.ownBlock] at hi, by omega⟩
      have : L.length = 0 := by rw [← hln, h0]; rfl
      rw [this]
    · exact ⟨_, _, g, by rw [hln], fun i hi => by simpa [Value.ownBlock] using hi.symm, by omega⟩
  obtain ⟨A, c, g, hve, hg1, hg2⟩ := hform
  have HG1 := Lib.hid hg1
  have HG2 := Lib.hid hg2
  have HVE := Lib.hid hve
  clear hb hv hln hg1 hg2 hve
  rw [HVE.out]
  go_wp2_with fail
  go_ret
  refine ⟨_, _, [g], rfl, enters_of Try.func48 (by kernel_rfl) rfl, fun i hi => by rw [List.mem_singleton] at hi; subst hi; simpa using HG2.out, HB.out.then (Turns.alloc _ _), fun α gg es hes W hW => ?_⟩
  have hV := HV.out.alloc (.cells #[.slice A L.length c] 104)
  rw [← HVE.out] at hV hW
  refine allS_stops gg es Fence.wide 5 trivial rfl (by omega) w1.heap.size g w.heap.size v L hes (by have := HLL.out; omega) (fun y hy => (HNM.out y hy).1) W (Nat.lt_of_lt_of_le (by simp) hW.size) ?_ (hV.turns hW (by simp)) HG1.out
  exact (hW.cell (by simp) (by simp) 0).trans (Boxed.new w1 _ _).cell
end Go.Proofs.Ytcjmieofmogeiaa
