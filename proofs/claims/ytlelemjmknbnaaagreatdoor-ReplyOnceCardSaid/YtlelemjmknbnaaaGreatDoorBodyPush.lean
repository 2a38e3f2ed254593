/- Push. -/
import Derived.Test.YtlelemjmknbnaaaGreatDoorBodyStep
import Derived.Deep.RegionWith
namespace Go.Proofs.YtlelemjmknbnaaaGreatDoor
open Go.RowKit

/-- What is left behind Push. -/
def PuP (B : Nat) (w : World) (p : Nat) (lv bv : Value) (K : List Nat) (r : Nat × Dc) (e : Ending) (w' : World) : Prop :=
  e = .returned (.int .i64 (r.1 : Int)) ∧ ∃ lv' bv' nv' K', DecR B w' p r.2 lv' bv' nv' ∧ NxV w' nv' r.2.nx K' ∧ (∀ g ∈ K', g ∉ foot p lv' bv') ∧ Turns (foot p lv bv) w w' ∧ (∀ g ∈ foot p lv' bv', g ∈ foot p lv bv ∨ w.heap.size ≤ g) ∧ ∀ g ∈ K', g ∈ K ∨ w.heap.size ≤ g
structure Inv (B : Nat) (w : World) (p : Nat) (d : Dc) (lv bv : Value) (K : List Nat) (l : List UInt8) (t : Nat) (dt : Dc) (lv' bv' nv' : Value) (K' : List Nat) (wr : World) : Prop where
  dec : DecR B wr p dt lv' bv' nv'
  nx : NxV wr nv' dt.nx K'
  off : ∀ g ∈ K', g ∉ foot p lv' bv'
  turns : Turns (foot p lv bv) w wr
  fresh : ∀ g ∈ foot p lv' bv', g ∈ foot p lv bv ∨ w.heap.size ≤ g
  freshK : ∀ g ∈ K', g ∈ K ∨ w.heap.size ≤ g
  push : d.push l = (t + (dt.push (l.drop t)).1, (dt.push (l.drop t)).2)
  bnd : Bnd dt (l.length - t)
theorem BReads.fromAt {w : World} {B g off : Nat} {l : List UInt8} (h : BReads w B (some ⟨g, off, none⟩) l) {t : Nat} : BReads w B (some ⟨g, off + t, none⟩) (l.drop t) := by
  rcases h with h | ⟨b, o, e, hb, hc⟩
  · exact .inl (by rw [h]; simp)
  · cases e
    refine .inr ⟨g, off + t, rfl, hb, fun j c hj => ?_⟩
    rw [List.getElem?_drop] at hj
    have := hc (t + j) c hj
    rwa [← Nat.add_assoc] at this
namespace Inv
variable {B : Nat} {w : World} {p : Nat} {d : Dc} {lv bv : Value} {K : List Nat} {l : List UInt8} {t : Nat} {dt : Dc} {lv' bv' nv' : Value} {K' : List Nat} {wr : World}
theorem start (h : DecR B w p d lv bv nv') (hn : NxV w nv' d.nx K) (hk : ∀ g ∈ K, g ∉ foot p lv bv) (hb : Bnd d l.length) : Inv B w p d lv bv K l 0 d lv bv nv' K w :=
  ⟨h, hn, hk, Turns.refl _ _, fun _ h => .inl h, fun _ h => .inl h, by simp, by simpa using hb⟩
/-- The way on, where a run of bytes is kept. -/
theorem kept (h : Inv B w p d lv bv K l t dt lv' bv' nv' K' wr) {k : Nat} (hk : k = min dt.left (l.drop t).length) {bv2 : Value} {w2 : World}
    (hd : DecR B w2 p { dt with left := dt.left - k, body := dt.body ++ (l.drop t).take k } lv' bv2 nv') (ht : Turns (foot p lv' bv') wr w2) (hf : ∀ g ∈ foot p lv' bv2, g ∈ foot p lv' bv' ∨ wr.heap.size ≤ g) :
    Inv B w p d lv bv K l (t + k) { dt with left := dt.left - k, body := dt.body ++ (l.drop t).take k } lv' bv2 nv' K' w2 := by
  have hs := h.turns.size
  have hlk : ((l.drop t).take k).length = k := by rw [List.length_take]; omega
  have hdl : (l.drop t).length = l.length - t := List.length_drop
  have hpk := Dc.push_keep ((l.drop t).take k) dt ((l.drop t).drop k) (by rw [hlk]; omega)
  rw [List.take_append_drop, hlk, List.drop_drop] at hpk
  refine ⟨hd, h.nx.turns ht (fun g hg => h.off g hg), fun g hg hm => ?_, h.turns.trans ht (fun g hg => h.fresh g hg), fun g hg => ?_, h.freshK, ?_, ?_⟩
  · rcases hf g hm with h1 | h1
    · exact h.off g hg h1
    · have := h.nx.lt g hg
      omega
  · rcases hf g hg with h1 | h1
    · exact h.fresh g h1
    · exact .inr (by omega)
  · rw [h.push, hpk]
    simp only [Prod.mk.injEq, and_true]
    omega
  · have hb := h.bnd
    have e : l.length - t = l.length - (t + k) + ((l.drop t).take k).length := by rw [hlk]; omega
    rw [e] at hb
    have := hb.keep
    rwa [hlk] at this
/-- The way on, where a state took a byte. -/
theorem stepped (h : Inv B w p d lv bv K l t dt lv' bv' nv' K' wr) {c : UInt8} (hc : l[t]? = some c) (hl : dt.left = 0) (ho : dt.over = false) {v lv2 bv2 : Value} {K2 : List Nat} {w2 : World}
    (hd : DecR B w2 p (dt.step c) lv2 bv2 v) (hn : NxV w2 v (dt.step c).nx K2) (ht : Turns (foot p lv' bv') wr w2) (hf : ∀ g ∈ foot p lv2 bv2, g ∈ foot p lv' bv' ∨ wr.heap.size ≤ g)
    (hk : ∀ g ∈ K2, g ∈ K' ∨ wr.heap.size ≤ g) (hoff : ∀ g ∈ K2, g ∉ foot p lv2 bv2) :
    Inv B w p d lv bv K l (t + 1) (dt.step c) lv2 bv2 v K2 w2 := by
  have hs := h.turns.size
  have hlt : t < l.length := (List.getElem?_eq_some_iff.1 hc).1
  have hdr : l.drop t = c :: l.drop (t + 1) := by
    rw [List.drop_eq_getElem_cons hlt]
    rw [List.getElem?_eq_getElem hlt] at hc
    rw [Option.some.inj hc]
  have htk : dt.take1 c = dt.step c := if_neg (by omega)
  refine ⟨hd, hn, hoff, h.turns.trans ht (fun g hg => h.fresh g hg), fun g hg => ?_, fun g hg => ?_, ?_, ?_⟩
  · rcases hf g hg with h1 | h1
    · exact h.fresh g h1
    · exact .inr (by omega)
  · rcases hk g hg with h1 | h1
    · exact h.freshK g h1
    · exact .inr (by omega)
  · rw [h.push, hdr, Dc.push_one ho, htk]
    simp only [Prod.mk.injEq, and_true]
    omega
  · refine Bnd.step ?_ c
    have e : l.length - (t + 1) + 1 = l.length - t := by omega
    rw [e]
    exact h.bnd
theorem done (h : Inv B w p d lv bv K l t dt lv' bv' nv' K' wr) (hd : dt.push (l.drop t) = (0, dt)) {e : Ending} (he : e = .returned (.int .i64 (t : Int))) : PuP B w p lv bv K (d.push l) e wr := by
  have hp := h.push
  rw [hd] at hp
  rw [hp]
  exact ⟨he, lv', bv', nv', K', h.dec, h.nx, h.off, h.turns, h.fresh, h.freshK⟩
end Inv
end Go.Proofs.YtlelemjmknbnaaaGreatDoor
