/- Each state, as one step; the bounds. -/
import Derived.Test.YtlelemjmknbnaaaGreatDoorBodyKeep
namespace Go.Proofs.YtlelemjmknbnaaaGreatDoor
open Go.RowKit

structure Bnd (d : Dc) (k : Nat) : Prop where
  body : d.body.length + k ≤ 100000
  line : d.line.length + k ≤ 500000
  trail : d.trail + k ≤ 1000000
  left : d.left < 9223372036854775808
  room : d.room < 9223372036854775808
theorem Bnd.less {d : Dc} {k j : Nat} (h : Bnd d k) (hj : j ≤ k) : Bnd d j := ⟨by have := h.body; omega, by have := h.line; omega, by have := h.trail; omega, h.left, h.room⟩
theorem Bnd.keep {d : Dc} {k : Nat} {l : List UInt8} (h : Bnd d (k + l.length)) : Bnd { d with left := d.left - l.length, body := d.body ++ l } k :=
  ⟨by have := h.body; simp; omega, by have := h.line; show d.line.length + k ≤ _; omega, by have := h.trail; show d.trail + k ≤ _; omega, by have := h.left; show d.left - l.length < _; omega, h.room⟩
theorem Bnd.fail {d : Dc} {k : Nat} (h : Bnd d k) (e : Nat) : Bnd (d.fail e) k := ⟨h.body, by have := h.line; show ([] : List UInt8).length + k ≤ _; simp; omega, h.trail, by show 0 < _; decide, h.room⟩
theorem Bnd.noLine {d : Dc} {k : Nat} (h : Bnd d k) : Bnd { d with line := [] } k := ⟨h.body, by have := h.line; show ([] : List UInt8).length + k ≤ _; simp; omega, h.trail, h.left, h.room⟩
theorem Bnd.nx {d : Dc} {k : Nat} (h : Bnd d k) (n : Nx) : Bnd { d with nx := n } k := ⟨h.body, h.line, h.trail, h.left, h.room⟩
theorem Bnd.more {d : Dc} {k : Nat} (h : Bnd d (k + 1)) (c : UInt8) : Bnd { d with line := d.line ++ [c] } k := ⟨by have := h.body; show d.body.length + k ≤ _; omega, by have := h.line; simp; omega, by have := h.trail; show d.trail + k ≤ _; omega, h.left, h.room⟩
theorem Bnd.trailed {d : Dc} {k : Nat} (h : Bnd d (k + 1)) : Bnd { d with trail := d.trail + 1 } k := ⟨by have := h.body; show d.body.length + k ≤ _; omega, by have := h.line; show d.line.length + k ≤ _; omega, by have := h.trail; show d.trail + 1 + k ≤ _; omega, h.left, h.room⟩
theorem Bnd.step {d : Dc} {k : Nat} (h : Bnd d (k + 1)) (c : UInt8) : Bnd (d.step c) k := by
  have hk := h.less (Nat.le_succ k)
  unfold Dc.step
  cases d.nx with
  | none => exact hk
  | size =>
    show Bnd (d.size1 c) k
    unfold Dc.size1
    split
    · exact (h.more c).nx .size
    · unfold Dc.sized
      cases sizeL (d.line ++ [c]) with
      | none => exact hk.noLine.fail 12
      | some n =>
        show Bnd (if d.room < n then _ else _) k
        split
        · exact hk.noLine.fail 13
        · split
          · exact hk.noLine.nx .trailer
          · rename_i h1 h2
            have hr := h.room
            exact ⟨hk.body, hk.noLine.line, hk.trail, by show n < _; omega, by show d.room - n < _; omega⟩
  | beyond => exact hk.fail 13
  | trailer =>
    show Bnd (d.trail1 c) k
    have ht := h.trailed
    have hm : Bnd { d with line := d.line ++ [c], trail := d.trail + 1 } k := ⟨ht.body, by have := h.line; simp; omega, ht.trail, h.left, h.room⟩
    unfold Dc.trail1
    split
    · exact hm.fail 12
    · split
      · exact hm.nx .trailer
      · split
        · exact ht.noLine.nx .none
        · split
          · exact ht.noLine.nx .trailer
          · exact ht.noLine.fail 12
  | cr =>
    show Bnd (if c = 13 then _ else _) k
    split
    · exact hk.nx .lf
    · exact hk.fail 12
  | lf =>
    show Bnd (if c = 10 then _ else _) k
    split
    · exact hk.nx .size
    · exact hk.fail 12
theorem foot_self {p : Nat} {lv bv : Value} {w : World} : ∀ g ∈ foot p lv bv, g ∈ foot p lv bv ∨ w.heap.size ≤ g := fun _ h => .inl h
variable {B : Nat} {w : World} {p : Nat} {d : Dc} {lv bv nv : Value} {K : List Nat}
theorem st_fail {n : Nat} {c : UInt8} (hs : d.step c = d.fail n) {e : Ending} {w' : World} (h : e = .returned .nilFunc ∧ DecR B w' p (d.fail n) (.slice none 0 0) bv .nilFunc ∧ Turns [p] w w') : StP B w p lv bv K (d.step c) e w' := by
  obtain ⟨he, hd, ht⟩ := h
  rw [hs]
  exact StP.mk' (K' := []) hd ⟨rfl, rfl⟩ (ht.mono foot_p) (fun g hg => .inl (foot_nil g hg)) (by simp) (by simp) he
theorem st_size (h : DecR B w p d lv bv nv) (hn : d.nx = .size) (c : UInt8) {k : Nat} (hb : Bnd d (k + 1)) (hm : GX w) (hB : 1 < B) :
    Calls Tryz.prog 37 #[.pointer (some ⟨p, 0, none⟩), .int .u8 (c.toNat : Int)] w (StP B w p lv bv K (d.step c)) := by
  have hs : d.step c = d.size1 c := by unfold Dc.step; rw [hn]
  rw [hs]
  exact sizeLine_any h c (by have := hb.line; omega) hm hB hb.room
theorem st_trail (h : DecR B w p d lv bv nv) (hn : d.nx = .trailer) (c : UInt8) {k : Nat} (hb : Bnd d (k + 1)) (hm : GX w) (hB : 1 < B) :
    Calls Tryz.prog 49 #[.pointer (some ⟨p, 0, none⟩), .int .u8 (c.toNat : Int)] w (StP B w p lv bv K (d.step c)) := by
  have hs : d.step c = d.trail1 c := by unfold Dc.step; rw [hn]
  rw [hs]
  exact trailer_any h c (by have := hb.line; omega) hm hB (by have := hb.trail; omega)
theorem st_beyond (h : DecR B w p d lv bv nv) (hn : d.nx = .beyond) (c : UInt8) :
    Calls Tryz.prog 38 #[.pointer (some ⟨p, 0, none⟩), .int .u8 (c.toNat : Int)] w (StP B w p lv bv K (d.step c)) :=
  (beyond_any h c).mono fun _ _ hh => st_fail (by unfold Dc.step; rw [hn]) hh
theorem st_must (h : DecR B w p d lv bv nv) {g g' : Nat} {x : UInt8} {v : Value} {n : Nx} (c : UInt8) (hs : d.step c = if c = x then { d with nx := n } else d.fail 12) (h1 : BoxU w g (x.toNat : Int)) (h2 : BoxF w g' v) {K' : List Nat} (hv : NxV w v n K') (hk : ∀ i ∈ K', i ∈ K) (ho : ∀ i ∈ K', i ∉ foot p lv bv) :
    Calls Tryz.prog 62 #[.pointer (some ⟨p, 0, none⟩), .int .u8 (c.toNat : Int), .pointer (some ⟨g, 0, none⟩), .pointer (some ⟨g', 0, none⟩)] w (StP B w p lv bv K (d.step c)) := by
  by_cases hc : c = x
  · rw [if_pos hc] at hs
    refine (mustc_yes c h1 h2 (by rw [hc])).mono fun e w' hh => ?_
    obtain ⟨he, rfl⟩ := hh
    rw [hs]
    exact StP.mk' (h.nxAny n) hv (Turns.refl _ _) foot_self (fun i hi => .inl (hk i hi)) ho he
  · rw [if_neg hc] at hs
    exact (mustc_no h c h1 (fun e => hc (UInt8.toNat_inj.1 (Int.ofNat.inj e)))).mono fun e w' hh => st_fail hs hh
end Go.Proofs.YtlelemjmknbnaaaGreatDoor
