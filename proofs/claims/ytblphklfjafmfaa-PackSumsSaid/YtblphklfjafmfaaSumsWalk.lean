/- PackSums: the walk. -/
import Derived.Test.YtblphklfjafmfaaKnown
namespace Go.Proofs.Ytblphklfjafmfaa
open Go.RowKit

def nats (l : List UInt8) : List Nat := l.map UInt8.toNat
theorem nats_lt (l : List UInt8) : ∀ c ∈ nats l, c < 256 := by
  intro c hc
  obtain ⟨x, _, rfl⟩ := List.mem_map.1 hc
  exact x.toNat_lt
theorem nats_len (l : List UInt8) : (nats l).length = l.length := List.length_map _
theorem cells_of {w : World} {b off : Nat} {l : List UInt8} (h : ∀ j c, l[j]? = some c → w.cell? ⟨b, off + j, none⟩ = some (bcell c)) : cellsAre w b off (nats l) := by
  intro j hj
  rw [nats_len] at hj
  rw [h j l[j] (List.getElem?_eq_getElem hj)]
  simp [nats, bcell, hj]
theorem sum_bytes (b off cap : Nat) (l : List UInt8) (w : World) (hb : b < w.heap.size) (hm : l.length ≤ 5000) (h : ∀ j c, l[j]? = some c → w.cell? ⟨b, off + j, none⟩ = some (bcell c)) :
    Calls Try.prog 4 #[.slice (some ⟨b, off, none⟩) l.length cap] w fun e w' => e = .returned (.int .u32 (sumN (nats l) : Nat)) ∧ Below w.heap.size w w' := by
  have := sum_some b off cap (nats l) w hb (by rw [nats_len]; unfold maxLen; omega) (nats_lt l) (cells_of h)
  rwa [nats_len] at this
theorem rsum_bytes (b off cap : Nat) (l : List UInt8) (w : World) (hm : l.length ≤ 5000) (h : ∀ j c, l[j]? = some c → w.cell? ⟨b, off + j, none⟩ = some (bcell c)) :
    Calls Try.prog 6 #[.slice (some ⟨b, off, none⟩) l.length cap] w fun e w' => e = .returned (.int .u32 (sumN (nats l) : Nat)) ∧ w = w' := by
  have := rsum_some b off cap (nats l) w (by rw [nats_len]; unfold maxLen; omega) (nats_lt l) (cells_of h)
  rwa [nats_len] at this
theorem sum_nats_set (l : List UInt8) (k : Nat) (hk : k < l.length) (x : UInt8) (hx : x ≠ l[k]) : sumN (nats (l.set k x)) ≠ sumN (nats l) := by
  have e0 : l = l.take k ++ l[k] :: l.drop (k + 1) := by rw [← List.drop_eq_getElem_cons hk, List.take_append_drop]
  have e1 : nats (l.set k x) = nats (l.take k) ++ x.toNat :: nats (l.drop (k + 1)) := by
    rw [List.set_eq_take_append_cons_drop, if_pos hk]
    unfold nats
    rw [List.map_append, List.map_cons]
  have e2 : nats l = nats (l.take k) ++ l[k].toNat :: nats (l.drop (k + 1)) := by
    have := congrArg nats e0
    rw [this]
    unfold nats
    rw [List.map_append, List.map_cons]
  rw [e1, e2]
  exact sum_other _ _ _ _ (nats_lt _) (nats_lt _) x.toNat_lt l[k].toNat_lt (fun e => hx (UInt8.toNat_inj.1 e))

theorem Owned.at_ {B g n c : Nat} {w : World} {l : List UInt8} (h : Owned B w (.slice (some ⟨g, 0, none⟩) n c) l) : (∀ j x, l[j]? = some x → w.cell? ⟨g, 0 + j, none⟩ = some (bcell x)) ∧ (∀ j, w.frozen? ⟨g, j, none⟩ = false) := by
  refine ⟨fun j x hx => ?_, fun j => ?_⟩
  · have := World.ownsRow.cells h (g := g) rfl j (bcell x) (by rw [List.getElem?_map, hx]; rfl)
    rwa [add_plain'] at this
  · rcases h.2 with ⟨h0, _⟩ | ⟨g', cap, cur, h0, _, hg, _⟩
    · cases h0
    · cases h0
      simp [World.frozen?, hg]
theorem xor_u8 (a b : UInt8) : bits .xor .u8 (a.toNat : Int) (b.toNat : Int) = (((a ^^^ b).toNat : Nat) : Int) := by
  rw [u8_xor_nat _ _ a.toNat_lt b.toNat_lt, UInt8.toNat_xor]
theorem xor_ne (a b : UInt8) (hb : b ≠ 0) : a ^^^ b ≠ a := by
  intro e
  apply hb
  have h := congrArg (fun x => a ^^^ x) e
  simpa [← UInt8.xor_assoc] using h
theorem set_cells (g k : Nat) (l : List UInt8) (x : UInt8) (w : World) (v : Int) (hk : k < l.length) (hv : v = (x.toNat : Int)) (h : ∀ j c, l[j]? = some c → w.cell? ⟨g, 0 + j, none⟩ = some (bcell c)) :
    ∀ j c, (l.set k x)[j]? = some c → (w.setCell ⟨g, k, none⟩ (.int .u8 v)).cell? ⟨g, 0 + j, none⟩ = some (bcell c) := by
  subst hv
  intro j c hj
  rw [List.getElem?_set] at hj
  rw [Nat.zero_add]
  by_cases he : k = j
  · subst he
    rw [if_pos rfl, if_pos hk] at hj
    cases hj
    have h0 := h k l[k] (List.getElem?_eq_getElem hk)
    rw [Nat.zero_add] at h0
    exact World.cell?_setCell_same _ _ _ h0
  · rw [if_neg he] at hj
    have h0 := h j c hj
    rw [Nat.zero_add] at h0
    rw [World.cell?_setCell_other _ _ _ _ (by intro e; cases e; exact he rfl)]
    exact h0
def Fin1 (w : World) (e : Ending) (w' : World) : Prop := e = .returned (.bool true) ∧ Below w.heap.size w w'

set_option maxRecDepth 100000 in
set_option maxHeartbeats 800000 in
theorem early (A : Option Addr) (len cap : Nat) (at_ by_ : Int) (w : World) (hlen : (len : Int) ≤ 9223372036854775807) (h : (len : Int) > 2000 ∨ at_ < 0 ∨ at_ ≥ len ∨ by_ = 0) :
    Calls Try.prog 3 #[.slice A len cap, .int .i64 at_, .int .u8 by_] w (Fin1 w) := by
  have HS := Lib.hid (fun w => sum_none 0 w)
  have hcases : (2000 < (len : Int)) ∨ (¬ 2000 < (len : Int) ∧ at_ < 0) ∨ (¬ 2000 < (len : Int) ∧ ¬ at_ < 0 ∧ (len : Int) ≤ at_) ∨ (¬ 2000 < (len : Int) ∧ ¬ at_ < 0 ∧ ¬ (len : Int) ≤ at_ ∧ by_ = 0) := by omega
  clear h
  rcases hcases with h1 | ⟨h1, h2⟩ | ⟨h1, h2, h3⟩ | ⟨h1, h2, h3, rfl⟩
  all_goals
    go_enter Try.func3, Try.ntmps3
    go_wp2_with fail
    refine (Hid.out HS _).mono ?_
    rintro e w1 ⟨rfl, hb1⟩
    have HK := Lib.hid (known_yes w w1 hb1)
    clear hb1
    go_wp2_with fail
    refine (Hid.out HK).mono ?_
    rintro e w2 ⟨rfl, hb2⟩
    have HB2 := Lib.hid hb2
    clear hb2
    go_wp2
    go_ret
    exact ⟨rfl, HB2.out⟩

set_option maxRecDepth 100000 in
set_option maxHeartbeats 1600000 in
theorem main (b off cap : Nat) (l : List UInt8) (k : Nat) (y : UInt8) (w : World) (hl : l.length ≤ 2000) (hk : k < l.length) (hy : y ≠ 0) (hb : b < w.heap.size) (hc : ∀ j c, l[j]? = some c → w.cell? ⟨b, off + j, none⟩ = some (bcell c)) :
    Calls Try.prog 3 #[.slice (some ⟨b, off, none⟩) l.length cap, .int .i64 k, .int .u8 (y.toNat : Int)] w (Fin1 w) := by
  obtain ⟨i0, hi, hz0, hz1, hz2⟩ := info_parts Try.infoU8
  have HR := Lib.hid (show BReads w w.heap.size (some ⟨b, off, none⟩) l from .inr ⟨b, off, rfl, hb, hc⟩)
  have HC := Lib.hid hc
  have hy0 : ((y.toNat : Int) == 0) = false := beq_eq_false_iff_ne.2 (fun e => hy (UInt8.toNat_inj.1 (by simpa using e)))
  have hl' : ¬ 2000 < (l.length : Int) := by omega
  have hk' : ¬ (l.length : Int) ≤ (k : Int) := by omega
  have HY := Lib.hid hy
  clear hc hy
  go_enter Try.func3, Try.ntmps3
  go_upto_region 3 with fail
  go_cut [7] (fun v wx => ∃ g c', v = .slice (some ⟨g, 0, none⟩) l.length c' ∧ w.heap.size ≤ g ∧ g < wx.heap.size ∧ Hid (Owned w.heap.size wx v l) ∧ Hid (Below w.heap.size w wx))
  case first =>
    go_wp2_with (at_builtin; refine wpList_append_own _ rfl _ _ 22 rfl w.heap.size 5 i0 (.int .u8 0) 1 1 Try.underlying22 hi hz0 hz1 hz2 rfl (by decide) _ 0 [] rfl (World.ownsRow_nil _ _ _ _) ⟨b, off, none⟩ l.length cap (l.map bcell) rfl (by simp) (HR.out.cells _ rfl) (bcell_one l) (by unfold maxLen; omega) (by omega) (Nat.le_refl _) ?_; intro v' w1 hown1 hg1 _; have HO1 := Lib.hid hown1; have HG1 := Lib.hid hg1; clear hown1 hg1)
    have hO : Owned w.heap.size w1 v' l := by have h := HO1.out; rw [Nat.zero_add, List.nil_append] at h; exact h
    have HF := hO.form
    have HO := Lib.hid hO
    clear hO
    rcases HF with ⟨_, h0⟩ | ⟨g, c', rfl, hg, hg2, _⟩
    · rw [h0] at hk; simp at hk
    go_meet
    exact ⟨g, c', rfl, hg, hg2, HO, Lib.hid ((Below.refl _ _).grown HG1.out (Nat.le_refl _) (fun k hk => by cases hk))⟩
  case rest =>
  obtain ⟨g, c', rfl, hg, hg2, HO, HB1⟩ := hcut
  have HCO := Lib.hid HO.out.at_.1
  have HS1 := Lib.hid (sum_bytes g 0 c' l wc hg2 (by omega) HCO.out)
  go_wp2_with fail
  refine (Hid.out HS1).mono ?_
  rintro e w2 ⟨rfl, hb2⟩
  have HB2 := Lib.hid hb2
  have HCB := Lib.hid (show ∀ j c, l[j]? = some c → w2.cell? ⟨b, off + j, none⟩ = some (bcell c) from fun j c hj => ((HB1.out.trans (hb2.mono HB1.out.size)).cell (p := ⟨b, off + j, none⟩) hb).trans (HC.out j c hj))
  have HCO2 := Lib.hid (show ∀ j c, l[j]? = some c → w2.cell? ⟨g, 0 + j, none⟩ = some (bcell c) from fun j c hj => (hb2.cell (p := ⟨g, 0 + j, none⟩) hg2).trans (HCO.out j c hj))
  have hfz : w2.frozen? ⟨g, k, none⟩ = false := (hb2.frozen (p := ⟨g, k, none⟩) hg2).trans (HO.out.at_.2 k)
  have hg3 : g < w2.heap.size := Nat.lt_of_lt_of_le hg2 hb2.size
  clear hb2
  obtain ⟨S, hS⟩ : ∃ S, S = sumN (nats l) := ⟨_, rfl⟩
  have HSS := Lib.hid hS
  have HS2 := Lib.hid (rsum_bytes b off cap l w2 (by omega) HCB.out)
  rw [← hS] at HS2 ⊢
  clear hS
  have hSS : ((S : Int) == (S : Int)) = true := beq_self_eq_true _
  have hr1 := run_bytes_text w2 9 22 Try.underlying22 Try.underlying9 c' (B := w2.heap.size) (A := some ⟨g, 0, none⟩) (l := l) (.inr ⟨g, 0, rfl, hg3, HCO2.out⟩)
  have hr2 := run_bytes_text w2 9 22 Try.underlying22 Try.underlying9 cap (B := w2.heap.size) (A := some ⟨b, off, none⟩) (l := l) (.inr ⟨b, off, rfl, Nat.lt_of_lt_of_le hb (HB1.out.trans (HB2.out.mono HB1.out.size)).size, HCB.out⟩)
  have hx : w2.cell? ⟨g, k, none⟩ = some (.int .u8 (l[k].toNat : Int)) := by have := HCO2.out k l[k] (List.getElem?_eq_getElem hk); rwa [Nat.zero_add] at this
  go_wp2_with fail
  refine (Hid.out HS2).mono ?_
  rintro e w' ⟨rfl, rfl⟩
  go_wp2_with fail
  have HCO3 := Lib.hid (set_cells g k l (l[k] ^^^ y) w2 (bits .xor .u8 (l[k].toNat : Int) (y.toNat : Int)) hk (xor_u8 _ _) HCO2.out)
  have HS3 := Lib.hid (sum_bytes g 0 c' (l.set k (l[k] ^^^ y)) (w2.setCell ⟨g, k, none⟩ (.int .u8 (bits .xor .u8 (l[k].toNat : Int) (y.toNat : Int)))) (by simpa using hg3) (by simp; omega) HCO3.out)
  rw [List.length_set] at HS3
  have HNE := Lib.hid (show sumN (nats (l.set k (l[k] ^^^ y))) ≠ S by rw [HSS.out]; exact sum_nats_set l k hk _ (xor_ne _ _ HY.out))
  obtain ⟨S2, hS2⟩ : ∃ S, S = sumN (nats (l.set k (l[k] ^^^ y))) := ⟨_, rfl⟩
  rw [← hS2] at HS3 HNE
  clear hS2
  have hne1 : ((S2 : Int) == (S : Int)) = false := beq_eq_false_iff_ne.2 (fun e => HNE.out (by omega))
  have hne2 : ((S2 : Int) != (S : Int)) = true := by rw [bne, hne1]; rfl
  refine (Hid.out HS3).mono ?_
  rintro e w3 ⟨rfl, hb3⟩
  have HB3 := Lib.hid (show Below w.heap.size w w3 from ((HB1.out.trans (HB2.out.mono HB1.out.size)).setCell (p := ⟨g, k, none⟩) hg _).trans (hb3.mono (by simpa using (HB1.out.trans (HB2.out.mono HB1.out.size)).size)))
  have HK := Lib.hid (known_yes w w3 HB3.out)
  clear hb3 hr1 hr2 hx hfz
  go_wp2_with fail
  refine (Hid.out HK).mono ?_
  rintro e w4 ⟨rfl, hb4⟩
  have HB4 := Lib.hid hb4
  clear hb4
  go_wp2
  go_ret
  exact ⟨rfl, HB4.out⟩
end Go.Proofs.Ytblphklfjafmfaa
