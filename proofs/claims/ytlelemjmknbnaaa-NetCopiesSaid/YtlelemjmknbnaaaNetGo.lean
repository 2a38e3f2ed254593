/- Going over a net's connections, each round knowing that what it gets is one of them. -/
import Derived.Test.YtlelemjmknbnaaaNetAll
namespace Go.Proofs.Ytlelemjmknbnaaa
open Go.RowKit Go.Maps Go.Sort Go.Shelf
attribute [local go_sem] Oper.semAt_some

set_option maxRecDepth 100000 in
set_option maxHeartbeats 2000000 in
theorem all1_f {α : Type} (f : α → Ent) (F : Fence) (n : Nat) (hf : F.fn 51) (hro : F.round = none) (hn : 1 ≤ n) (l Bs b cap : Nat) (es : List α) (hl : es.length ≤ 1000) (J Jx : List α → World → Prop) (B0 : Nat) (hJ : AbidesFrom B0 J) (hJx : AbidesFrom B0 Jx)
    (hY : ∀ pre x W, J pre W → pre.length < es.length → YieldAt F (n - 1) Try.prog l (encEnt (f x)) W fun e W' =>
      (e = .returned (.bool true) ∧ J (pre ++ [x]) W' ∧ KeepB b W W') ∨ (e = .returned (.bool false) ∧ Jx (pre ++ [x]) W'))
    (W : World) (hb : b < W.heap.size) (hBs : W.cell? ⟨Bs, 0, none⟩ = some (.slice (some ⟨b, 0, none⟩) es.length cap))
    (hc : ∀ (j : Nat) (x : α), es[j]? = some x → W.cell? ⟨b, j * 2, none⟩ = some (.int .i64 ((f x).1 : Int)) ∧ W.cell? ⟨b, j * 2 + 1, none⟩ = some (.string ⟨(f x).2.toArray⟩)) (h0 : J [] W) :
    CallsIn F n Try.prog 51 #[.func (.yield l) #[] #[], .pointer (some ⟨Bs, 0, none⟩)] W fun e W' => (∃ v, e = .returned v) ∧
      ((∃ ys, ys = es ∧ J ys W') ∨ (∃ pre, pre <+: es ∧ Jx pre W')) := by
  have hlb : ∀ wr, KeepB b W wr → b < wr.heap.size := fun wr h => by
    obtain ⟨o, ho⟩ : ∃ o, W.heap[b]? = some o := ⟨_, Array.getElem?_eq_getElem hb⟩
    exact lt_of_block (Eq.trans h ho)
  refine callsIn_of_wp Try.func51 rfl hf ?_ hro
  simp only [Try.ntmps51, List.size_toArray, List.length_cons, List.length_nil, Nat.reduceAdd, Nat.reduceSub, Array.replicate_succ, Array.replicate_zero, List.push_toArray, List.append_toArray, List.nil_append, List.cons_append]
  gi_wp2
  gi_loopw [7] (fun i wr => ∃ k : Nat, k ≤ es.length ∧ i = .int .i64 k ∧ J (es.take k) wr ∧ KeepB b W wr)
    (fun i _ => es.length - (intOf i).toNat)
  case atStart => exact ⟨0, Nat.zero_le _, rfl, h0, rfl⟩
  case round =>
    obtain ⟨k, hk, rfl, hJs, hnx⟩ := hrel
    by_cases hlt : k < es.length
    · obtain ⟨x, hx⟩ : ∃ x, es[k]? = some x := ⟨_, List.getElem?_eq_getElem hlt⟩
      obtain ⟨c0, c1⟩ := hc k x hx
      have d0 : wr.cell? ⟨b, k * 2, none⟩ = some (.int .i64 ((f x).1 : Int)) := hnx.cell.trans c0
      have d1 : wr.cell? ⟨b, k * 2 + 1, none⟩ = some (.string ⟨(f x).2.toArray⟩) := hnx.cell.trans c1
      obtain ⟨fn, tmps, assign, body, hy, hR⟩ := hY (es.take k) x (wr.alloc (.cells #[.int .i64 ((f x).1 : Int), .string ⟨(f x).2.toArray⟩] 80)) (hJ _ _ _ none hJs (World.grownBy_alloc _ _ _) (fun r e => by cases e)) (by rw [List.length_take]; omega)
      unfold encEnt at hy
      clear hc hBs c0 c1
      have e1 : es.take k ++ [x] = es.take (k + 1) := by
        rw [List.take_add_one, hx]
        rfl
      rw [e1] at hR
      clear hx e1
      gi_wp2
      refine hR.mono ?_
      rintro e W3 (⟨rfl, hJ3, hk3⟩ | ⟨rfl, hJx3⟩)
      · gi_wp2
        go_roundw
        case rel => exact ⟨k + 1, by omega, by simp, hJ3, (hnx.alloc (hlb wr hnx) _).t hk3⟩
        case measure => simp [intOf]; omega
      · gi_wp2
        refine bodyPost_ret (results_none rfl _ _ _) rfl ?_
        exact ⟨⟨_, rfl⟩, .inr ⟨_, List.take_prefix _ _, hJx3⟩⟩
    · obtain rfl : k = es.length := by omega
      gi_wp2
      go_end0
      exact ⟨⟨_, rfl⟩, .inl ⟨_, rfl, by rwa [List.take_length] at hJs⟩⟩

abbrev EntIn (es : List Ent) : Type := { x : Ent // x ∈ es }
theorem attach_at {es : List Ent} {j : Nat} {x : EntIn es} (h : es.attach[j]? = some x) : es[j]? = some x.1 := by
  have h2 : (es.attach.map Subtype.val)[j]? = some x.1 := by rw [List.getElem?_map, h]; rfl
  rwa [List.attach_map_subtype_val] at h2
/-- What All hands back goes over these, and each is one of them. -/
theorem entin_stops (F : Fence) (n : Nat) (hf : F.fn 51) (hro : F.round = none) (hn : 1 ≤ n) (Bs b B : Nat) (v : Value) (es : List Ent) (hl : es.length ≤ 1000) (w : World) (hBs : Bs < w.heap.size) (hc : w.cell? ⟨Bs, 0, none⟩ = some v) (ho : entK.Own B w v es) (hb : ∀ g, v.ownBlock = some g → g = b) :
    SeqStopsK (α := EntIn es) F n Try.prog 51 #[.pointer (some ⟨Bs, 0, none⟩)] (fun x => encEnt x.1) (KeepB b) (fun ys => ys = es.attach) (fun pre => pre <+: es.attach) es.length w := fun l J Jx W hW hJ hJx hY h0 => by
  have hc' := (hW.cell (p := ⟨Bs, 0, none⟩) hBs).trans hc
  rcases ent_cells (ho.below hW) with ⟨rfl, rfl⟩ | ⟨g, cap, rfl, _, hg, hcs⟩
  · exact (none_in F n hf hro l Bs none 0 (J []) W hc' h0).mono fun e W' ⟨he, hj⟩ => ⟨he, .inl ⟨_, rfl, hj⟩⟩
  · obtain rfl := hb g rfl
    have := all1_f (α := EntIn es) (fun x => x.1) F n hf hro hn l Bs g cap es.attach (by rw [List.length_attach]; exact hl) J Jx W.heap.size hJ hJx (fun pre x W1 h1 h2 => hY pre x W1 h1 (by rw [List.length_attach] at h2; exact h2)) W hg (by rw [List.length_attach]; exact hc') (fun j x hj => hcs j x.1 (attach_at hj)) h0
    exact this
end Go.Proofs.Ytlelemjmknbnaaa
