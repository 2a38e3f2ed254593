/- The document's SameSeen. -/
import Derived.Test.YtcjmieofmogeiaaStPut
import Derived.Test.YtcjmieofmogeiaaStEqO
namespace Go.Proofs.Ytcjmieofmogeiaa
open Go.RowKit

set_option maxRecDepth 100000 in
set_option maxHeartbeats 4000000 in
theorem rcopyS_any {B : Nat} {w : World} {rv : Nat} {v : Value} {most : Nat} {L : List One} (h : RefS B w rv v most L) (hl : L.length ≤ 90000) :
    Calls Try.prog 33 #[.pointer (some ⟨rv, 0, none⟩)] w fun e w' => (∃ r2 v2, e = .returned (.pointer (some ⟨r2, 0, none⟩)) ∧ RefS w.heap.size w' r2 v2 most L) ∧ Turns [] w w' := by
  obtain ⟨e0, e1, hf⟩ := h.cells
  obtain ⟨A, c, hv, hrd, _⟩ := h.own.reads
  have H := Lib.hid h
  have HL := Lib.hid hl
  obtain ⟨NN, hNN⟩ : ∃ NN, NN = L.length := ⟨_, rfl⟩
  rw [← hNN] at hv
  rw [hv] at e0
  have HV := Lib.hid hv
  have HNN := Lib.hid hNN
  have HRD : Hid (∀ W, Turns [] w W → oK.Reads W w.heap.size A L ∧ w.heap.size ≤ W.heap.size) := Lib.hid (fun W ht => ⟨hrd.turns (Nat.le_refl _) ht (by simp), ht.size⟩)
  have HC : Hid (∀ W, Turns [] w W → W.cell? ⟨rv, 0, none⟩ = some (.slice A NN c) ∧ W.cell? ⟨rv, 1, none⟩ = some (.int .i64 most)) := Lib.hid (fun W ht => by
    obtain ⟨g0, g1, _⟩ := (h.pre ht).cells
    rw [hv] at g0
    exact ⟨g0, g1⟩)
  have HL1 := Lib.hid (show ([] : List One).length + L.length ≤ 100000 by simp; omega)
  clear h hf hv hrd hNN hl
  go_enter Try.func33, Try.ntmps33
  go_upto_region 1 with fail
  go_region_law (refine EK.step_append_all oOk (by rfl) (.const (.slice none 0 0)) (.tmp 6) (by rfl) w.heap.size (.slice none 0 0) [] (by rfl) (World.ownsRow_nil _ _ _ _) w.heap.size A L NN c HNN.out.symm (by kernel_rfl) (HRD.out _ (by first | exact Turns.refl _ _ | exact (Turns.refl _ _).drew0)).1 HL1.out (HRD.out _ (by first | exact Turns.refl _ _ | exact (Turns.refl _ _).drew0)).2 ?_; intro v2 w2 hown2 ht2 hf2; have HT2 := Lib.hid (show Turns [] w w2 from Turns.trans (by first | exact Turns.refl _ _ | exact (Turns.refl _ _).drew0) (ht2.mono (G := []) (by simp [ownB, Value.ownBlock])) (by simp)); have HO2 := Lib.hid hown2; have HG2 := Lib.hid (show ∀ i ∈ ownB v2, w.heap.size ≤ i from fun i hi => by rcases hf2 i hi with h1 | h1; (simp [ownB, Value.ownBlock] at h1); (rw [h1]; first | exact Nat.le_refl _ | simp)); obtain ⟨m0, m1⟩ := HC.out w2 HT2.out; obtain ⟨A3, c3, rfl, _⟩ := hown2.reads; obtain ⟨M, hM⟩ : ∃ M, M = ([] ++ L).length := ⟨_, rfl⟩; rw [← hM] at HG2 HO2 ⊢; clear hown2 ht2 hf2 hM)
  all_goals
    have HE := Lib.hid (show RefS w.heap.size (w2.alloc (.cells #[.slice A3 M c3, .int .i64 most] 41)) w2.heap.size (.slice A3 M c3) most L from
      ⟨heap_alloc_new _ _, HO2.out.alloc _, HT2.out.size, fun hm => Nat.lt_irrefl _ (HO2.out.foot _ hm).2⟩)
    clear e0 e1 m0 m1
    go_wp2
    all_goals
      go_ret
      exact ⟨⟨_, _, rfl, HE.out⟩, HT2.out.trans (Turns.alloc (F := []) _ _) (by simp)⟩
end Go.Proofs.Ytcjmieofmogeiaa

namespace Go.Proofs.Ytcjmieofmogeiaa
open Go.RowKit

instance : DecidableEq Sn := fun _ _ => decidable_of_iff _ snE_iff
set_option maxRecDepth 100000 in
set_option maxHeartbeats 8000000 in
theorem rsameSn_any (A1 A2 : Option Addr) (c1 c2 : Nat) (l m : List Sn) (w : World) (hl : l.length ≤ 90000) (hr1 : nK.Reads w w.heap.size A1 l) (hr2 : nK.Reads w w.heap.size A2 m) :
    Calls Try.prog 26 #[.slice A1 l.length c1, .slice A2 m.length c2] w fun e w' => e = .returned (.bool (decide (l = m))) ∧ Turns [] w w' := by
  by_cases hne : l.length = m.length
  · have HR1 := Lib.hid hr1
    have HR2 := Lib.hid hr2
    have hgd := sn_guard
    have hnq := sn_neq
    unfold Sn.val' at hnq
    rw [← hne]
    have HNE := Lib.hid hne
    have HLE := Lib.hid hl
    have f1 : (l.length : Int) ≤ 90000 := by omega
    clear hr1 hr2 hne hl
    go_enter Try.func26, Try.ntmps26
    go_wp2
    go_loopw [5] (fun i wr => ∃ k : Nat, i = .int .i64 (k : Int) ∧ k ≤ l.length ∧ Hid (l.take k = m.take k ∧ Turns [] w wr)) (fun i _ => l.length - (intOf i).toNat)
    case atStart => exact ⟨0, rfl, Nat.zero_le _, Lib.hid ⟨rfl, Turns.refl _ _⟩⟩
    case round =>
      obtain ⟨k, rfl, hk, HQ⟩ := hrel
      have HTD := Lib.hid (fun n : Nat => HQ.out.2.drewN0 n)
      by_cases hlt : k < l.length
      · have f2 : (k : Int) < (l.length : Int) := by omega
        have f3 : (0 : Int) ≤ (k : Int) := by omega
        obtain ⟨x, hx⟩ : ∃ x, l[k]? = some x := ⟨_, List.getElem?_eq_getElem hlt⟩
        obtain ⟨y, hy⟩ : ∃ y, m[k]? = some y := ⟨_, List.getElem?_eq_getElem (by have := HNE.out; omega)⟩
        obtain ⟨b1, o1, rfl, hb1, hc1⟩ := (HR1.out.turns (Nat.le_refl _) HQ.out.2 (by simp)).at nOk (by omega)
        obtain ⟨b2, o2, rfl, hb2, hc2⟩ := (HR2.out.turns (Nat.le_refl _) HQ.out.2 (by simp)).at nOk (by have := HNE.out; omega)
        have k0 : wr.cell? ⟨b1, o1 + k * 7, none⟩ = some (.string x.s.name) := hc1 k x hx 0 _ rfl
        have k1 : wr.cell? ⟨b1, o1 + k * 7 + 1, none⟩ = some (.int .i64 x.s.val) := hc1 k x hx 1 _ rfl
        have k2 : wr.cell? ⟨b1, o1 + k * 7 + 2, none⟩ = some (.int .i64 x.s.tm) := hc1 k x hx 2 _ rfl
        have k3 : wr.cell? ⟨b1, o1 + k * 7 + 3, none⟩ = some (.bool x.s.cnt) := hc1 k x hx 3 _ rfl
        have k4 : wr.cell? ⟨b1, o1 + k * 7 + 4, none⟩ = some (.int .i64 x.v) := hc1 k x hx 4 _ rfl
        have k5 : wr.cell? ⟨b1, o1 + k * 7 + 5, none⟩ = some (.bool x.chain) := hc1 k x hx 5 _ rfl
        have k6 : wr.cell? ⟨b1, o1 + k * 7 + 6, none⟩ = some (.int .i64 x.ahead) := hc1 k x hx 6 _ rfl
        have m0 : wr.cell? ⟨b2, o2 + k * 7, none⟩ = some (.string y.s.name) := hc2 k y hy 0 _ rfl
        have m1 : wr.cell? ⟨b2, o2 + k * 7 + 1, none⟩ = some (.int .i64 y.s.val) := hc2 k y hy 1 _ rfl
        have m2 : wr.cell? ⟨b2, o2 + k * 7 + 2, none⟩ = some (.int .i64 y.s.tm) := hc2 k y hy 2 _ rfl
        have m3 : wr.cell? ⟨b2, o2 + k * 7 + 3, none⟩ = some (.bool y.s.cnt) := hc2 k y hy 3 _ rfl
        have m4 : wr.cell? ⟨b2, o2 + k * 7 + 4, none⟩ = some (.int .i64 y.v) := hc2 k y hy 4 _ rfl
        have m5 : wr.cell? ⟨b2, o2 + k * 7 + 5, none⟩ = some (.bool y.chain) := hc2 k y hy 5 _ rfl
        have m6 : wr.cell? ⟨b2, o2 + k * 7 + 6, none⟩ = some (.int .i64 y.ahead) := hc2 k y hy 6 _ rfl
        have HX := Lib.hid hx
        have HY := Lib.hid hy
        have HJL := Lib.hid hlt
        clear hc1 hc2 hx hy hb1 hb2
        have hnn := hnq x y
        have HXY : Hid (snE x y = true ↔ x = y) := Lib.hid snE_iff
        clear hnq
        cases hb : snE x y with
        | true =>
          rw [hb] at hnn
          go_wp2
          go_quiet (fail)
          go_wp2
          go_roundw
          case rel =>
            refine ⟨k + 1, by go_num, HJL.out, Lib.hid ⟨?_, HTD.out _⟩⟩
            rw [List.take_add_one, List.take_add_one, HX.out, HY.out, HQ.out.1, HXY.out.1 hb]
          case measure => simp [intOf] <;> omega
        | false =>
          rw [hb] at hnn
          have HD : Hid (decide (l = m) = false) := Lib.hid (by
            simp
            intro e
            have h1 := HX.out
            rw [e, HY.out] at h1
            cases h1
            rw [HXY.out.2 rfl] at hb
            cases hb)
          go_wp2
          go_quiet (fail)
          go_wp2
          go_ret
          exact ⟨by rw [HD.out]; rfl, HTD.out _⟩
      · have hge : decide ((k : Int) < (l.length : Int)) = false := by simp; omega
        have HD : Hid (decide (l = m) = true) := Lib.hid (by
          have h1 := HQ.out.1
          rw [List.take_of_length_le (by omega), List.take_of_length_le (by have := HNE.out; omega)] at h1
          simpa using h1)
        go_wp2
        go_ret
        exact ⟨by rw [HD.out]; rfl, HQ.out.2⟩
  · have hb : ((l.length : Int) != (m.length : Int)) = true := by simp; omega
    have hd : decide (l = m) = false := by simp; exact fun e => hne (by rw [e])
    rw [hd]
    clear hr1 hr2 hne hl hd
    go_enter Try.func26, Try.ntmps26
    go_wp2
    go_ret
    exact ⟨rfl, Turns.refl _ _⟩
end Go.Proofs.Ytcjmieofmogeiaa
