/- Push: the walk. -/
import Derived.Test.YtlelemjmknbnaaaGreatDoorBodyPush
import Derived.Deep.CutBlock
import Derived.WalkMore
namespace Go.Proofs.YtlelemjmknbnaaaGreatDoor
open Go.RowKit

theorem StP.form {n : Nx} {w : World} {v : Value} {K : List Nat} (h : NxV w v n K) : v = .nilFunc ∨ ∃ f cs, v = .func (.func f) #[] cs := by
  cases n with
  | none => exact .inl h.1
  | size => exact .inr ⟨_, _, h.1⟩
  | beyond => exact .inr ⟨_, _, h.1⟩
  | trailer => exact .inr ⟨_, _, h.1⟩
  | lf => obtain ⟨g, k, hv, -⟩ := h; exact .inr ⟨_, _, hv⟩
  | cr => obtain ⟨g, k, g2, k2, hv, -⟩ := h; exact .inr ⟨_, _, hv⟩
/-- What the store behind a state leaves. -/
theorem after_store {B : Nat} {w2 : World} {p : Nat} {d : Dc} {lv bv nv v : Value} {K : List Nat} (hd : DecR B w2 p d lv bv nv) (hn : NxV w2 v d.nx K) (ho : ∀ g ∈ K, g ∉ foot p lv bv) :
    DecR B (w2.setCell ⟨p, 1, none⟩ v) p d lv bv v ∧ NxV (w2.setCell ⟨p, 1, none⟩ v) v d.nx K ∧ Turns [p] w2 (w2.setCell ⟨p, 1, none⟩ v) := by
  have ht : Turns [p] w2 (w2.setCell ⟨p, 1, none⟩ v) := Turns.setCell w2 ⟨p, 1, none⟩ _ (List.mem_singleton.2 rfl)
  exact ⟨hd.set ht (heap_setCell_same _ p 1 _ _ _ hd.head) rfl rfl, hn.turns ht (fun g hg hm => ho g hg (by rw [List.mem_singleton] at hm; subst hm; simp [foot])), ht⟩
/-- What a state's call leaves, ahead of the store. -/
def StepQ (B : Nat) (w : World) (p : Nat) (d : Dc) (lv bv : Value) (K : List Nat) (l : List UInt8) (t : Nat) (dt : Dc) (c : UInt8) (e : Ending) (w2 : World) : Prop :=
  ∃ v lv2 bv2 K2 nv2, e = .returned v ∧ Inv B w p d lv bv K l (t + 1) (dt.step c) lv2 bv2 v K2 (w2.setCell ⟨p, 1, none⟩ v) ∧ w2.cell? ⟨p, 1, none⟩ = some nv2 ∧ w2.frozen? ⟨p, 1, none⟩ = false ∧ (v = .nilFunc ∨ ∃ f cs, v = .func (.func f) #[] cs)
theorem StepQ.nil {B : Nat} {w : World} {p : Nat} {d : Dc} {lv bv : Value} {K : List Nat} {l : List UInt8} {t : Nat} {dt : Dc} {c : UInt8} {e : Ending} {w2 : World} (h : StepQ B w p d lv bv K l t dt c e w2) (hz : (dt.step c).nx = .none) :
    ∃ lv2 bv2 K2 nv2, e = .returned .nilFunc ∧ Inv B w p d lv bv K l (t + 1) (dt.step c) lv2 bv2 .nilFunc K2 (w2.setCell ⟨p, 1, none⟩ .nilFunc) ∧ w2.cell? ⟨p, 1, none⟩ = some nv2 ∧ w2.frozen? ⟨p, 1, none⟩ = false := by
  obtain ⟨v, lv2, bv2, K2, nv2, he, hi, h1, h2, -⟩ := h
  have hn := hi.nx
  rw [hz] at hn
  obtain rfl : v = .nilFunc := hn.1
  exact ⟨lv2, bv2, K2, nv2, he, hi, h1, h2⟩
theorem StepQ.func {B : Nat} {w : World} {p : Nat} {d : Dc} {lv bv : Value} {K : List Nat} {l : List UInt8} {t : Nat} {dt : Dc} {c : UInt8} {e : Ending} {w2 : World} (h : StepQ B w p d lv bv K l t dt c e w2) (hz : (dt.step c).nx ≠ .none) :
    ∃ f cs lv2 bv2 K2 nv2, e = .returned (.func (.func f) #[] cs) ∧ Inv B w p d lv bv K l (t + 1) (dt.step c) lv2 bv2 (.func (.func f) #[] cs) K2 (w2.setCell ⟨p, 1, none⟩ (.func (.func f) #[] cs)) ∧ w2.cell? ⟨p, 1, none⟩ = some nv2 ∧ w2.frozen? ⟨p, 1, none⟩ = false := by
  obtain ⟨v, lv2, bv2, K2, nv2, he, hi, h1, h2, hv⟩ := h
  rcases hv with rfl | ⟨f, cs, rfl⟩
  · have hn := hi.nx
    generalize (dt.step c).nx = x at hz hn
    cases x with
    | none => exact absurd rfl hz
    | size => exact absurd hn.1 (by simp [fnS])
    | beyond => exact absurd hn.1 (by simp [fnS])
    | trailer => exact absurd hn.1 (by simp [fnS])
    | lf => obtain ⟨g, k, hv, -⟩ := hn; exact absurd hv (by simp [mustV])
    | cr => obtain ⟨g, k, g2, k2, hv, -⟩ := hn; exact absurd hv (by simp [mustV])
  · exact ⟨f, cs, lv2, bv2, K2, nv2, he, hi, h1, h2⟩
theorem step_store {B : Nat} {w : World} {p : Nat} {d : Dc} {lv bv : Value} {K : List Nat} {l : List UInt8} {t : Nat} {dt : Dc} {lv' bv' nv' : Value} {K' : List Nat} {wr : World} (HI : Inv B w p d lv bv K l t dt lv' bv' nv' K' wr) {c : UInt8} (hc : l[t]? = some c) (hl : dt.left = 0) (ho : dt.over = false)
    {W : World} (hW : Turns [] wr W) {e : Ending} {w2 : World} (h : StP B W p lv' bv' K' (dt.step c) e w2) :
    StepQ B w p d lv bv K l t dt c e w2 := by
  obtain ⟨v, lv2, bv2, nv2, K2, he, hd, hn, ht, hf, hk, hoff⟩ := h
  obtain ⟨hd2, hn2, ht2⟩ := after_store hd hn hoff
  have hs := hW.size
  have hT : Turns (foot p lv' bv') wr w2 := (hW.mono (G := foot p lv' bv') (by simp)).trans ht (fun i hi => .inl hi)
  have hcl := hd.cells
  exact ⟨v, lv2, bv2, K2, nv2, he, HI.stepped hc hl ho hd2 hn2 (hT.trans ht2 (fun i hi => .inl (foot_p (lv := lv') (bv := bv') i hi))) (fun g hg => (hf g hg).imp id (fun h => by omega)) (fun g hg => (hk g hg).imp id (fun h => by omega)) hoff, hcl.2.1, hcl.2.2.2.2.2.2.2.2 1, StP.form hn⟩
set_option maxRecDepth 100000 in
set_option maxHeartbeats 8000000 in
theorem push_any {B : Nat} {w : World} {p : Nat} {d : Dc} {lv bv nv : Value} {K : List Nat} (h : DecR B w p d lv bv nv) (hn : NxV w nv d.nx K) (hk : ∀ g ∈ K, g ∉ foot p lv bv) {A : Option Addr} {c : Nat} {l : List UInt8}
    (hr : BReads w w.heap.size A l) (hc : l.length ≤ c) (hA : ∀ a, A = some a → a.block ∉ foot p lv bv) (hb : Bnd d l.length) (hm : GX w) (hB : 1 < B) :
    Calls Tryz.prog 17 #[.pointer (some ⟨p, 0, none⟩), .slice A l.length c] w (PuP B w p lv bv K (d.push l)) := by
  have HI0 := Lib.hid (Inv.start h hn hk hb)
  have HRD := Lib.hid hr
  have HAA := Lib.hid hA
  have HGX : Hid (∀ W, Turns (foot p lv bv) w W → GX W) := Lib.hid (fun W ht => hm.turns ht (fun g hg => Nat.lt_of_lt_of_le hB (h.ltF g hg).1))
  have HLZ := Lib.hid (show l.length ≤ 100000 by have := hb.body; omega)
  obtain ⟨n, hnn⟩ : ∃ n, n = l.length := ⟨_, rfl⟩
  rw [← hnn] at hc HLZ ⊢
  have HN := Lib.hid hnn
  generalize hPU : PuP B w p lv bv K (d.push l) = PU
  have HPU := Lib.hid hPU
  have hst1 := st_nilF Tryz.prog
  have hst2 := st_func Tryz.prog
  have hne1 := ne_nilF
  have hne2 := ne_func
  clear hr hA hb hm hnn hn hk h hPU
  go_enter Tryz.func17, Tryz.ntmps17
  go_wp2
  go_step3
  go_wp2
  go_step3
  go_wp2
  go_loopw [5] (fun tv wr => ∃ (t : Nat) (dt : Dc) (lv' bv' nv' : Value) (K' : List Nat), tv = .int .i64 (t : Int) ∧ t ≤ n ∧ Hid (Inv B w p d lv bv K l t dt lv' bv' nv' K' wr)) (fun tv _ => n - (intOf tv).toNat)
  case atStart => exact ⟨0, d, lv, bv, nv, K, rfl, Nat.zero_le _, HI0⟩
  case round =>
    obtain ⟨t, dt, lv', bv', nv', K', rfl, htn, HI⟩ := hrel
    by_cases hlt : t < n
    · have htl : t < l.length := by rw [← HN.out]; exact hlt
      obtain ⟨ch, hch⟩ : ∃ ch, l[t]? = some ch := ⟨_, List.getElem?_eq_getElem htl⟩
      have hlt' : (t : Int) < (n : Int) := by omega
      have hrr := HRD.out.turns HI.out.turns HAA.out
      obtain ⟨g, off, hA, hgl, hcell⟩ := hrr.addr (by omega)
      subst hA
      have hct := hcell t ch hch
      have HRT := Lib.hid (hrr.fromAt (t := t))
      have HCH := Lib.hid hch
      obtain ⟨c0, c1, -, -, -, -, -, -, cf⟩ := HI.out.dec.cells
      have cf1 := cf 1
      have htc : ((c : Nat) == t) = false := by simp; omega
      have htc2 : (t : Int) ≤ (c : Int) := by omega
      have hgo : g ∉ foot p lv' bv' := fun hm => by
        rcases HI.out.fresh g hm with h1 | h1
        · exact HAA.out _ rfl h1
        · rcases HRD.out with h2 | ⟨b2, o2, e2, h3, -⟩
          · rw [h2] at htl; simp at htl
          · cases e2; omega
      have HGO := Lib.hid hgo
      clear hcell hch hgl hrr cf hgo
      by_cases hl0 : 0 < dt.left
      · have hl1 : (0 : Int) < (dt.left : Int) := by omega
        go_wp2_with fail
        have hdl : (l.drop t).length = n - t := by rw [List.length_drop, ← HN.out]
        obtain ⟨k, hk⟩ : ∃ k, k = min dt.left (l.drop t).length := ⟨_, rfl⟩
        have HKE := Lib.hid (keep_any HI.out.dec (c := c - t) HRT.out (by rw [hdl]; omega) (fun a e => by cases e; exact HGO.out) (by have := HI.out.bnd.body; rw [hdl, HN.out]; exact this) k hk HI.out.bnd.left (by rw [hdl]; omega))
        have hk1 : 1 ≤ k := by omega
        have hkn : t + k ≤ n := by omega
        have hwk : IntKind.i64.wrap ((t : Int) + (k : Int)) = ((t + k : Nat) : Int) := by have := HLZ.out; rw [IntKind.wrap_i64]; omega
        have HKM := Lib.hid hk
        rw [hdl] at HKE
        clear hk hdl
        refine (Hid.out HKE).mono ?_
        rintro e w2 ⟨rfl, bv2, hd2, ht2, hf2⟩
        have HI2 := Lib.hid (HI.out.kept HKM.out hd2 ht2 hf2)
        clear hd2 ht2 hf2 HKE
        go_wp2
        go_round
        case rel => exact ⟨t + k, _, _, _, _, _, rfl, hkn, HI2⟩
        case measure => simp [intOf] <;> omega
      · have hl1 : dt.left = 0 := by omega
        have hw1 : IntKind.i64.wrap ((t : Int) + 1) = ((t + 1 : Nat) : Int) := by have := HLZ.out; rw [IntKind.wrap_i64]; omega
        have hl2 : decide ((0 : Int) < (dt.left : Int)) = false := by simp; omega
        rw [hl1] at c0 hl2
        unfold bcell at hct
        cases hx : dt.nx with
        | none =>
          have hov : dt.over = true := by unfold Dc.over; rw [hx, hl1]; rfl
          have hnx := HI.out.nx
          rw [hx] at hnx
          obtain rfl : nv' = .nilFunc := hnx.1
          have HD := Lib.hid (Dc.push_over hov (l.drop t))
          clear hx hov hnx
          go_wp2
          exact HPU.out ▸ HI.out.done HD.out rfl
        | size =>
          have ho : dt.over = false := by unfold Dc.over; rw [hx]; simp
          have hnx := HI.out.nx
          rw [hx] at hnx
          obtain rfl : nv' = fnS 37 := hnx.1
          change wr.cell? ⟨p, 1, none⟩ = some (.func (.func 37) #[] #[]) at c1
          have HST : Hid (∀ W, Turns [] wr W → Calls Tryz.prog 37 #[.pointer (some ⟨p, 0, none⟩), .int .u8 (ch.toNat : Int)] W (StepQ B w p d lv bv K l t dt ch)) := Lib.hid (fun W hW => (st_size (HI.out.dec.turns hW (by simp)) hx ch (show Bnd dt (n - t - 1 + 1) by rw [show n - t - 1 + 1 = l.length - t by rw [← HN.out]; omega]; exact HI.out.bnd) (HGX.out W (HI.out.turns.trans hW (by simp))) hB).mono fun _ _ hh => step_store HI.out HCH.out (by omega) ho hW hh)
          clear hx ho
          by_cases hz : (dt.step ch).nx = .none
          · have HSN := Lib.hid (fun W hW => (HST.out W hW).mono fun _ _ hh => StepQ.nil hh hz)
            clear hz HST
            go_wp2_with fail
            go_region_with (go_at_call 37; refine (HSN.out _ (by first | exact Turns.refl _ _ | exact (Turns.refl _ _).drew0)).mono ?_; rintro e w2 ⟨lv2, bv2, K2, nv2, rfl, hi2, m1, n1⟩; have HI2 := Lib.hid hi2; clear hi2)
            all_goals
              go_wp2
              go_round
              case rel => exact ⟨t + 1, _, _, _, _, _, rfl, by omega, HI2⟩
              case measure => simp [intOf] <;> omega
          · have HSN := Lib.hid (fun W hW => (HST.out W hW).mono fun _ _ hh => StepQ.func hh hz)
            clear hz HST
            go_wp2_with fail
            go_region_with (go_at_call 37; refine (HSN.out _ (by first | exact Turns.refl _ _ | exact (Turns.refl _ _).drew0)).mono ?_; rintro e w2 ⟨fq, cq, lv2, bv2, K2, nv2, rfl, hi2, m1, n1⟩; have HI2 := Lib.hid hi2; clear hi2)
            all_goals
              go_wp2
              go_round
              case rel => exact ⟨t + 1, _, _, _, _, _, rfl, by omega, HI2⟩
              case measure => simp [intOf] <;> omega
        | beyond =>
          have ho : dt.over = false := by unfold Dc.over; rw [hx]; simp
          have hnx := HI.out.nx
          rw [hx] at hnx
          obtain rfl : nv' = fnS 38 := hnx.1
          change wr.cell? ⟨p, 1, none⟩ = some (.func (.func 38) #[] #[]) at c1
          have HST : Hid (∀ W, Turns [] wr W → Calls Tryz.prog 38 #[.pointer (some ⟨p, 0, none⟩), .int .u8 (ch.toNat : Int)] W (StepQ B w p d lv bv K l t dt ch)) := Lib.hid (fun W hW => (st_beyond (HI.out.dec.turns hW (by simp)) hx ch).mono fun _ _ hh => step_store HI.out HCH.out (by omega) ho hW hh)
          clear hx ho
          by_cases hz : (dt.step ch).nx = .none
          · have HSN := Lib.hid (fun W hW => (HST.out W hW).mono fun _ _ hh => StepQ.nil hh hz)
            clear hz HST
            go_wp2_with fail
            go_region_with (go_at_call 38; refine (HSN.out _ (by first | exact Turns.refl _ _ | exact (Turns.refl _ _).drew0)).mono ?_; rintro e w2 ⟨lv2, bv2, K2, nv2, rfl, hi2, m1, n1⟩; have HI2 := Lib.hid hi2; clear hi2)
            all_goals
              go_wp2
              go_round
              case rel => exact ⟨t + 1, _, _, _, _, _, rfl, by omega, HI2⟩
              case measure => simp [intOf] <;> omega
          · have HSN := Lib.hid (fun W hW => (HST.out W hW).mono fun _ _ hh => StepQ.func hh hz)
            clear hz HST
            go_wp2_with fail
            go_region_with (go_at_call 38; refine (HSN.out _ (by first | exact Turns.refl _ _ | exact (Turns.refl _ _).drew0)).mono ?_; rintro e w2 ⟨fq, cq, lv2, bv2, K2, nv2, rfl, hi2, m1, n1⟩; have HI2 := Lib.hid hi2; clear hi2)
            all_goals
              go_wp2
              go_round
              case rel => exact ⟨t + 1, _, _, _, _, _, rfl, by omega, HI2⟩
              case measure => simp [intOf] <;> omega
        | trailer =>
          have ho : dt.over = false := by unfold Dc.over; rw [hx]; simp
          have hnx := HI.out.nx
          rw [hx] at hnx
          obtain rfl : nv' = fnS 49 := hnx.1
          change wr.cell? ⟨p, 1, none⟩ = some (.func (.func 49) #[] #[]) at c1
          have HST : Hid (∀ W, Turns [] wr W → Calls Tryz.prog 49 #[.pointer (some ⟨p, 0, none⟩), .int .u8 (ch.toNat : Int)] W (StepQ B w p d lv bv K l t dt ch)) := Lib.hid (fun W hW => (st_trail (HI.out.dec.turns hW (by simp)) hx ch (show Bnd dt (n - t - 1 + 1) by rw [show n - t - 1 + 1 = l.length - t by rw [← HN.out]; omega]; exact HI.out.bnd) (HGX.out W (HI.out.turns.trans hW (by simp))) hB).mono fun _ _ hh => step_store HI.out HCH.out (by omega) ho hW hh)
          clear hx ho
          by_cases hz : (dt.step ch).nx = .none
          · have HSN := Lib.hid (fun W hW => (HST.out W hW).mono fun _ _ hh => StepQ.nil hh hz)
            clear hz HST
            go_wp2_with fail
            go_region_with (go_at_call 49; refine (HSN.out _ (by first | exact Turns.refl _ _ | exact (Turns.refl _ _).drew0)).mono ?_; rintro e w2 ⟨lv2, bv2, K2, nv2, rfl, hi2, m1, n1⟩; have HI2 := Lib.hid hi2; clear hi2)
            all_goals
              go_wp2
              go_round
              case rel => exact ⟨t + 1, _, _, _, _, _, rfl, by omega, HI2⟩
              case measure => simp [intOf] <;> omega
          · have HSN := Lib.hid (fun W hW => (HST.out W hW).mono fun _ _ hh => StepQ.func hh hz)
            clear hz HST
            go_wp2_with fail
            go_region_with (go_at_call 49; refine (HSN.out _ (by first | exact Turns.refl _ _ | exact (Turns.refl _ _).drew0)).mono ?_; rintro e w2 ⟨fq, cq, lv2, bv2, K2, nv2, rfl, hi2, m1, n1⟩; have HI2 := Lib.hid hi2; clear hi2)
            all_goals
              go_wp2
              go_round
              case rel => exact ⟨t + 1, _, _, _, _, _, rfl, by omega, HI2⟩
              case measure => simp [intOf] <;> omega
        | lf =>
          have ho : dt.over = false := by unfold Dc.over; rw [hx]; simp
          have hnx := HI.out.nx
          rw [hx] at hnx
          obtain ⟨g1, g1', rfl, hKe, hu1, hf1⟩ := hnx
          change wr.cell? ⟨p, 1, none⟩ = some (.func (.func 62) #[] #[.pointer (some ⟨g1, 0, none⟩), .pointer (some ⟨g1', 0, none⟩)]) at c1
          have hu (W : World) (hW : Turns [] wr W) : BoxU W g1 10 := (hW.block _ (lt_of_block hu1) (by simp)).trans hu1
          have hf (W : World) (hW : Turns [] wr W) : BoxF W g1' (fnS 37) := (hW.block _ (lt_of_block hf1) (by simp)).trans hf1
          have HST : Hid (∀ W, Turns [] wr W → Calls Tryz.prog 62 #[.pointer (some ⟨p, 0, none⟩), .int .u8 (ch.toNat : Int), .pointer (some ⟨g1, 0, none⟩), .pointer (some ⟨g1', 0, none⟩)] W (StepQ B w p d lv bv K l t dt ch)) := Lib.hid (fun W hW => (st_must (x := 10) (n := .size) (K' := []) (HI.out.dec.turns hW (by simp)) ch (by unfold Dc.step; rw [hx]) (hu W hW) (hf W hW) ⟨rfl, rfl⟩ (by simp) (by simp)).mono fun _ _ hh => step_store HI.out HCH.out (by omega) ho hW hh)
          clear hx ho
          by_cases hz : (dt.step ch).nx = .none
          · have HSN := Lib.hid (fun W hW => (HST.out W hW).mono fun _ _ hh => StepQ.nil hh hz)
            clear hz HST
            go_wp2_with fail
            go_region_with (go_at_call 62; refine (HSN.out _ (by first | exact Turns.refl _ _ | exact (Turns.refl _ _).drew0)).mono ?_; rintro e w2 ⟨lv2, bv2, K2, nv2, rfl, hi2, m1, n1⟩; have HI2 := Lib.hid hi2; clear hi2)
            all_goals
              go_wp2
              go_round
              case rel => exact ⟨t + 1, _, _, _, _, _, rfl, by omega, HI2⟩
              case measure => simp [intOf] <;> omega
          · have HSN := Lib.hid (fun W hW => (HST.out W hW).mono fun _ _ hh => StepQ.func hh hz)
            clear hz HST
            go_wp2_with fail
            go_region_with (go_at_call 62; refine (HSN.out _ (by first | exact Turns.refl _ _ | exact (Turns.refl _ _).drew0)).mono ?_; rintro e w2 ⟨fq, cq, lv2, bv2, K2, nv2, rfl, hi2, m1, n1⟩; have HI2 := Lib.hid hi2; clear hi2)
            all_goals
              go_wp2
              go_round
              case rel => exact ⟨t + 1, _, _, _, _, _, rfl, by omega, HI2⟩
              case measure => simp [intOf] <;> omega
        | cr =>
          have ho : dt.over = false := by unfold Dc.over; rw [hx]; simp
          have hnx := HI.out.nx
          rw [hx] at hnx
          obtain ⟨g1, g1', g2, g2', rfl, hKe, hu1, hf1, hu2, hf2⟩ := hnx
          change wr.cell? ⟨p, 1, none⟩ = some (.func (.func 62) #[] #[.pointer (some ⟨g1, 0, none⟩), .pointer (some ⟨g1', 0, none⟩)]) at c1
          have hu (W : World) (hW : Turns [] wr W) : BoxU W g1 13 := (hW.block _ (lt_of_block hu1) (by simp)).trans hu1
          have hf (W : World) (hW : Turns [] wr W) : BoxF W g1' (mustV g2 g2') := (hW.block _ (lt_of_block hf1) (by simp)).trans hf1
          have hv (W : World) (hW : Turns [] wr W) : NxV W (mustV g2 g2') .lf [g2, g2'] := ⟨g2, g2', rfl, rfl, (hW.block _ (lt_of_block hu2) (by simp)).trans hu2, (hW.block _ (lt_of_block hf2) (by simp)).trans hf2⟩
          have HST : Hid (∀ W, Turns [] wr W → Calls Tryz.prog 62 #[.pointer (some ⟨p, 0, none⟩), .int .u8 (ch.toNat : Int), .pointer (some ⟨g1, 0, none⟩), .pointer (some ⟨g1', 0, none⟩)] W (StepQ B w p d lv bv K l t dt ch)) := Lib.hid (fun W hW => (st_must (x := 13) (n := .lf) (K' := [g2, g2']) (HI.out.dec.turns hW (by simp)) ch (by unfold Dc.step; rw [hx]) (hu W hW) (hf W hW) (hv W hW) (fun i hi => by rw [hKe]; simp at hi ⊢; omega) (fun i hi => HI.out.off i (by rw [hKe]; simp at hi ⊢; omega))).mono fun _ _ hh => step_store HI.out HCH.out (by omega) ho hW hh)
          clear hx ho
          by_cases hz : (dt.step ch).nx = .none
          · have HSN := Lib.hid (fun W hW => (HST.out W hW).mono fun _ _ hh => StepQ.nil hh hz)
            clear hz HST
            go_wp2_with fail
            go_region_with (go_at_call 62; refine (HSN.out _ (by first | exact Turns.refl _ _ | exact (Turns.refl _ _).drew0)).mono ?_; rintro e w2 ⟨lv2, bv2, K2, nv2, rfl, hi2, m1, n1⟩; have HI2 := Lib.hid hi2; clear hi2)
            all_goals
              go_wp2
              go_round
              case rel => exact ⟨t + 1, _, _, _, _, _, rfl, by omega, HI2⟩
              case measure => simp [intOf] <;> omega
          · have HSN := Lib.hid (fun W hW => (HST.out W hW).mono fun _ _ hh => StepQ.func hh hz)
            clear hz HST
            go_wp2_with fail
            go_region_with (go_at_call 62; refine (HSN.out _ (by first | exact Turns.refl _ _ | exact (Turns.refl _ _).drew0)).mono ?_; rintro e w2 ⟨fq, cq, lv2, bv2, K2, nv2, rfl, hi2, m1, n1⟩; have HI2 := Lib.hid hi2; clear hi2)
            all_goals
              go_wp2
              go_round
              case rel => exact ⟨t + 1, _, _, _, _, _, rfl, by omega, HI2⟩
              case measure => simp [intOf] <;> omega
    · have hge : decide ((t : Int) < (n : Int)) = false := by simp; omega
      have HD := Lib.hid (show dt.push (l.drop t) = (0, dt) by rw [List.drop_eq_nil_of_le (by rw [← HN.out]; omega)]; rfl)
      go_wp2
      exact HPU.out ▸ HI.out.done HD.out rfl
end Go.Proofs.YtlelemjmknbnaaaGreatDoor
