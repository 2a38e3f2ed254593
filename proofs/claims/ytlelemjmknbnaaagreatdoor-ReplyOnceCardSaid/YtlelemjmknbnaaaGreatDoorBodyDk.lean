/- Done, Wrong, Body; a decoder with all its blocks. -/
import Derived.Test.YtlelemjmknbnaaaGreatDoorBodyNew
namespace Go.Proofs.YtlelemjmknbnaaaGreatDoor
open Go.RowKit

set_option maxRecDepth 100000 in
set_option maxHeartbeats 1000000 in
theorem done_any {B : Nat} {w : World} {p : Nat} {d : Dc} {lv bv nv : Value} {K : List Nat} (h : DecR B w p d lv bv nv) (hn : NxV w nv d.nx K) :
    Calls Tryz.prog 31 #[.pointer (some ⟨p, 0, none⟩)] w fun en w' => en = .returned (.bool (d.over && decide (d.wrong = 0))) ∧ w = w' := by
  have HO := Lib.hid (over_any h hn)
  obtain ⟨-, -, -, -, -, -, -, c7, -⟩ := h.cells
  clear h hn
  generalize d.over = o at HO ⊢
  have hw : ((d.wrong : Int) == 0) = decide (d.wrong = 0) := by
    rw [Bool.eq_iff_iff, beq_iff_eq, decide_eq_true_eq]
    omega
  generalize d.wrong = x at c7 hw ⊢
  obtain ⟨z, hz⟩ : ∃ z, z = decide (x = 0) := ⟨_, rfl⟩
  rw [← hz] at hw ⊢
  clear hz
  cases o
  all_goals
    go_enter Tryz.func31, Tryz.ntmps31
    go_wp2_with (go_at_call 28; refine (Hid.out HO).mono ?_; rintro e w1 ⟨rfl, rfl⟩)
    go_ret
    exact ⟨rfl, rfl⟩
set_option maxRecDepth 100000 in
theorem wrong_any {B : Nat} {w : World} {p : Nat} {d : Dc} {lv bv nv : Value} (h : DecR B w p d lv bv nv) :
    Calls Tryz.prog 30 #[.pointer (some ⟨p, 0, none⟩)] w fun en w' => en = .returned (.int .i64 (d.wrong : Int)) ∧ w = w' := by
  obtain ⟨-, -, -, -, -, -, -, c7, -⟩ := h.cells
  clear h
  go_enter Tryz.func30, Tryz.ntmps30
  go_wp2
  go_ret
  exact ⟨rfl, rfl⟩
theorem clone_any {B : Nat} {w : World} {v : Value} {l : List UInt8} (h : Owned B w v l) (hl : l.length ≤ 1000000) :
    Calls Tryz.prog 22 #[v] w fun e w' => (∃ v', e = .returned v' ∧ Owned w.heap.size w' v' l) ∧ Below w.heap.size w w' := by
  rcases h.form with ⟨rfl, rfl⟩ | ⟨g, cap, rfl, -, -, -, -⟩
  · refine (Tryz.bytes_Clone_nil 0 0 w).mono fun e w' hh => ?_
    obtain ⟨rfl, rfl⟩ := hh
    exact ⟨⟨_, rfl, World.ownsRow_nil _ _ _ _⟩, Below.refl _ _⟩
  · obtain ⟨A, c, hv, hr, -, -⟩ := h.reads
    cases hv
    have hx := numsL_len l
    refine (Tryz.bytes_Clone_at ⟨g, 0, none⟩ l.length cap (numsL l) w hx (by omega) (fun i hi => ?_)).mono fun e w' hh => ?_
    · obtain ⟨c, hc⟩ : ∃ c, l[i]? = some c := ⟨_, List.getElem?_eq_getElem hi⟩
      have h1 := hr.cells _ rfl i (bcell c) (by rw [List.getElem?_map, hc]; rfl)
      have h2 : (numsL l).getD i 0 = (c.toNat : Int) := by
        unfold numsL
        simp [List.getD, hc]
      rw [h1, h2]
      rfl
    · obtain ⟨v', he, ho, -, hb⟩ := hh
      refine ⟨⟨v', he, ?_⟩, hb⟩
      unfold Owned
      have e1 : (numsL l).map (Value.int .u8) = l.map bcell := by
        unfold numsL
        rw [List.map_map]
        rfl
      rw [← e1]
      exact ho
set_option maxRecDepth 100000 in
theorem body_any {B : Nat} {w : World} {p : Nat} {d : Dc} {lv bv nv : Value} (h : DecR B w p d lv bv nv) (hl : d.body.length ≤ 1000000) :
    Calls Tryz.prog 20 #[.pointer (some ⟨p, 0, none⟩)] w fun e w' => (∃ v', e = .returned v' ∧ Owned w.heap.size w' v' d.body) ∧ Below w.heap.size w w' := by
  have HC := Lib.hid (clone_any h.body hl)
  obtain ⟨-, -, -, -, -, -, c6, -, -⟩ := h.cells
  clear h
  go_enter Tryz.func20, Tryz.ntmps20
  go_wp2_with fail
  refine (Hid.out HC).mono ?_
  rintro e w1 ⟨⟨v', rfl, ho⟩, hb⟩
  have HO := Lib.hid ho
  have HB := Lib.hid hb
  clear ho hb HC
  go_wp2
  go_ret
  exact ⟨⟨_, rfl, HO.out⟩, HB.out⟩
/-- A decoder at p, with all its blocks. -/
def Dk (B : Nat) (w : World) (p : Nat) (d : Dc) (R : List Nat) : Prop :=
  ∃ lv bv nv K, DecR B w p d lv bv nv ∧ NxV w nv d.nx K ∧ (∀ g ∈ K, g ∉ foot p lv bv) ∧ R = foot p lv bv ++ K
theorem Dk.lt {B : Nat} {w : World} {p : Nat} {d : Dc} {R : List Nat} (h : Dk B w p d R) : ∀ g ∈ R, g < w.heap.size := by
  obtain ⟨lv, bv, nv, K, hd, hn, hk, rfl⟩ := h
  intro g hg
  rcases List.mem_append.1 hg with h1 | h1
  · exact (hd.ltF g h1).2
  · exact hn.lt g h1
theorem Dk.turns {B : Nat} {w w' : World} {p : Nat} {d : Dc} {R F : List Nat} (h : Dk B w p d R) (ht : Turns F w w') (hF : ∀ g ∈ R, g ∉ F) : Dk B w' p d R := by
  obtain ⟨lv, bv, nv, K, hd, hn, hk, rfl⟩ := h
  exact ⟨lv, bv, nv, K, hd.turns ht (fun g hg => hF g (List.mem_append_left _ hg)), hn.turns ht (fun g hg => hF g (List.mem_append_right _ hg)), hk, rfl⟩
theorem Dk.below {B : Nat} {w w' : World} {p : Nat} {d : Dc} {R : List Nat} (h : Dk B w p d R) (hb : Below w.heap.size w w') : Dk B w' p d R := h.turns (F := []) (Turns.of_below hb (Nat.le_refl _)) (by simp)
theorem push_dk {B : Nat} {w : World} {p : Nat} {d : Dc} {R : List Nat} (h : Dk B w p d R) {A : Option Addr} {c : Nat} {l : List UInt8}
    (hr : BReads w w.heap.size A l) (hc : l.length ≤ c) (hA : ∀ a, A = some a → a.block ∉ R) (hb : Bnd d l.length) (hm : GX w) (hB : 1 < B) :
    Calls Tryz.prog 17 #[.pointer (some ⟨p, 0, none⟩), .slice A l.length c] w fun e w' => e = .returned (.int .i64 ((d.push l).1 : Int)) ∧ ∃ R', Dk B w' p (d.push l).2 R' ∧ Turns R w w' ∧ ∀ g ∈ R', g ∈ R ∨ w.heap.size ≤ g := by
  obtain ⟨lv, bv, nv, K, hd, hn, hk, rfl⟩ := h
  refine (push_any hd hn hk hr hc (fun a e hm => hA a e (List.mem_append_left _ hm)) hb hm hB).mono fun e w' hh => ?_
  obtain ⟨he, lv', bv', nv', K', h1, h2, h3, h4, h5, h6⟩ := hh
  refine ⟨he, _, ⟨lv', bv', nv', K', h1, h2, h3, rfl⟩, h4.mono (fun i hi => List.mem_append_left _ hi), fun g hg => ?_⟩
  rcases List.mem_append.1 hg with h7 | h7
  · exact (h5 g h7).imp (fun h => List.mem_append_left _ h) id
  · exact (h6 g h7).imp (fun h => List.mem_append_right _ h) id
theorem done_dk {B : Nat} {w : World} {p : Nat} {d : Dc} {R : List Nat} (h : Dk B w p d R) :
    Calls Tryz.prog 31 #[.pointer (some ⟨p, 0, none⟩)] w fun en w' => en = .returned (.bool (d.over && decide (d.wrong = 0))) ∧ w = w' := by
  obtain ⟨lv, bv, nv, K, hd, hn, hk, rfl⟩ := h
  exact done_any hd hn
theorem wrong_dk {B : Nat} {w : World} {p : Nat} {d : Dc} {R : List Nat} (h : Dk B w p d R) :
    Calls Tryz.prog 30 #[.pointer (some ⟨p, 0, none⟩)] w fun en w' => en = .returned (.int .i64 (d.wrong : Int)) ∧ w = w' := by
  obtain ⟨lv, bv, nv, K, hd, hn, hk, rfl⟩ := h
  exact wrong_any hd
theorem body_dk {B : Nat} {w : World} {p : Nat} {d : Dc} {R : List Nat} (h : Dk B w p d R) (hl : d.body.length ≤ 1000000) :
    Calls Tryz.prog 20 #[.pointer (some ⟨p, 0, none⟩)] w fun e w' => (∃ v', e = .returned v' ∧ Owned w.heap.size w' v' d.body) ∧ Below w.heap.size w w' := by
  obtain ⟨lv, bv, nv, K, hd, hn, hk, rfl⟩ := h
  exact body_any hd hl
theorem new_dk {B : Nat} (w : World) (hB : B ≤ w.heap.size) (st len most : Int) (ch cl : Bool) (room : Nat) (hr : (room : Int) = max most 0) (hm : most ≤ 9223372036854775807) :
    Calls Tryz.prog 26 #[.agg #[.int .i64 st, .int .i64 len, .bool ch, .bool cl], .int .i64 most] w fun e w' => ∃ p R, e = .returned (.pointer (some ⟨p, 0, none⟩)) ∧ Dk B w' p (Dc.made len ch room) R ∧ Below w.heap.size w w' ∧ ∀ g ∈ R, w.heap.size ≤ g := by
  refine (new_any w hB st len most ch cl room hr hm).mono fun e w' hh => ?_
  obtain ⟨p, nv, he, hp, hd, hn, hb⟩ := hh
  refine ⟨p, _, he, ⟨_, _, nv, [], hd, hn, by simp, rfl⟩, hb, fun g hg => ?_⟩
  simp [foot, ownB, Value.ownBlock] at hg
  omega
end Go.Proofs.YtlelemjmknbnaaaGreatDoor
