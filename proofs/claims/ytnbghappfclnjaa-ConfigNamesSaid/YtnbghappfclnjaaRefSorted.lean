/- Labels by rising names: the document's Sorted. -/
import Derived.Test.YtnbghappfclnjaaRefMem
import Derived.Test.YtnbghappfclnjaaAppendS
import Derived.Deep.RegionLaw
namespace Go.Proofs.Ytnbghappfclnjaa
open Go.RowKit

theorem sortP_snoc {l : List Lbl} {k : Nat} {x : Lbl} (h : l[k]? = some x) : sortP (l.take (k + 1)) = insP x (sortP (l.take k)) := by
  unfold sortP
  rw [List.take_add_one, h, List.foldl_append]
  rfl
theorem insP_split : ∀ {S : List Lbl} {x : Lbl} {p : Nat}, p ≤ S.length → (∀ j y, j < p → S[j]? = some y → ltN y.1 x.1 = true) → (∀ y, S[p]? = some y → ltN y.1 x.1 = false) → insP x S = S.take p ++ x :: S.drop p
  | [], x, p, hp, _, _ => by
    obtain rfl : p = 0 := by simpa using hp
    rfl
  | y :: S, x, 0, _, _, h2 => by
    have := h2 y rfl
    unfold insP
    rw [if_neg (by rw [this]; simp)]
    rfl
  | y :: S, x, p + 1, hp, h1, h2 => by
    have h := h1 0 y (Nat.succ_pos _) rfl
    unfold insP
    rw [if_pos h, insP_split (S := S) (p := p) (by simpa using hp) (fun j z hj hz => h1 (j + 1) z (by omega) (by rw [List.getElem?_cons_succ]; exact hz)) (fun z hz => h2 z (by rw [List.getElem?_cons_succ]; exact hz))]
    rfl
theorem flatL_take (S : List Lbl) (p j : Nat) {u : Value} (h : (flatL (S.take p))[j]? = some u) : (flatL S)[j]? = some u := by
  have e : flatL S = flatL (S.take p) ++ flatL (S.drop p) := by rw [← flatL_append, List.take_append_drop]
  rw [e, List.getElem?_append_left (List.getElem?_eq_some_iff.1 h).1]
  exact h
theorem flatL_drop (S : List Lbl) (p j : Nat) (hp : p ≤ S.length) : (flatL (S.drop p))[j]? = (flatL S)[p * 2 + j]? := by
  have e : flatL S = flatL (S.take p) ++ flatL (S.drop p) := by rw [← flatL_append, List.take_append_drop]
  have hl : (flatL (S.take p)).length = p * 2 := by rw [flatL_len, List.length_take, Nat.min_eq_left hp]
  rw [e, List.getElem?_append_right (by omega), hl, Nat.add_sub_cancel_left]
theorem LReads.takes {w : World} {B : Nat} {A : Option Addr} {S : List Lbl} (h : LReads w B A S) (p : Nat) : LReads w B A (S.take p) := by
  rcases h with rfl | ⟨b, off, rfl, hb, hc⟩
  · exact .inl (by simp)
  · exact .inr ⟨b, off, rfl, hb, fun j u hj => hc j u (flatL_take S p j hj)⟩
theorem LReads.drops {w : World} {B b off : Nat} {S : List Lbl} (h : LReads w B (some ⟨b, off, none⟩) S) {p : Nat} (hp : p < S.length) : LReads w B (some ⟨b, off + p * 2, none⟩) (S.drop p) := by
  rcases h with rfl | ⟨b', off', e, hb, hc⟩
  · simp at hp
  · cases e
    refine .inr ⟨b, off + p * 2, rfl, hb, fun j u hj => ?_⟩
    rw [flatL_drop S p j (by omega)] at hj
    have := hc _ _ hj
    rwa [← Nat.add_assoc] at this

set_option maxRecDepth 100000 in
set_option maxHeartbeats 8000000 in
theorem rsorted_any (A : Option Addr) (cap : Nat) (l : List Lbl) (w : World) (hl : l.length ≤ 1000) (hr : LReads w w.heap.size A l) :
    Calls Try.prog 48 #[.slice A l.length cap] w fun e w' => ∃ v, e = .returned v ∧ OwnedL w.heap.size w' v (sortP l) ∧ Below w.heap.size w w' := by
  have HR := Lib.hid hr
  clear hr
  go_enter Try.func48, Try.ntmps48
  go_wp2
  go_loopw [3, 4] (fun ov i wr => ∃ (k : Nat) (ov' : Value), ov' = ov ∧ k ≤ l.length ∧ i = .int .i64 k ∧ Hid (OwnedL w.heap.size wr ov (sortP (l.take k))) ∧ Hid (Below w.heap.size w wr) ∧ w.heap.size ≤ wr.heap.size) (fun _ i _ => l.length - (intOf i).toNat)
  case atStart => exact ⟨0, _, rfl, Nat.zero_le _, rfl, Lib.hid (World.ownsRow_nil _ _ _ _), Lib.hid (Below.refl _ _), Nat.le_refl _⟩
  case round =>
    obtain ⟨k, ov', rfl, hk, rfl, HO, HB, hBr⟩ := hrel
    by_cases hlt : k < l.length
    · have hlt' : (k : Int) < (l.length : Int) := by omega
      have hk0 : (0 : Int) ≤ (k : Int) := by omega
      obtain ⟨x, hx⟩ : ∃ x, l[k]? = some x := ⟨_, List.getElem?_eq_getElem hlt⟩
      obtain ⟨b, off, rfl, hb, hc⟩ := HR.out.at (by omega)
      have hc1 := (HB.out.cell (p := ⟨b, off + k * 2, none⟩) hb).trans (hc k x hx).1
      have hc2 := (HB.out.cell (p := ⟨b, off + k * 2 + 1, none⟩) hb).trans (hc k x hx).2
      unfold strV at hc1 hc2
      have HSN := Lib.hid (sortP_snoc hx)
      have hSl : (sortP (l.take k)).length ≤ 1000 := by rw [sortP_len, List.length_take]; omega
      generalize sortP (l.take k) = S at HO HSN hSl
      obtain ⟨A1, c1, rfl, hrd, hcap, hcm⟩ := HO.out.reads
      have HRD := Lib.hid hrd
      have hc1m : (c1 : Int) ≤ 9223372036854775807 := by unfold maxLen at hcm; omega
      have hcap' : (S.length : Int) ≤ (c1 : Int) := by omega
      clear hc hx hrd
      go_wp2
      go_loopw [5] (fun j wr2 => ∃ (p q : Nat), p ≤ S.length ∧ j = .int .i64 p ∧ Hid (∀ t y, t < p → S[t]? = some y → ltN y.1 x.1 = true) ∧ wr2 = wr.drewN q) (fun j _ => S.length - (intOf j).toNat)
      case atStart => exact ⟨0, 0, Nat.zero_le _, rfl, Lib.hid (fun t y h => by omega), rfl⟩
      case round =>
        obtain ⟨p, q, hp, rfl, HLT, rfl⟩ := hrel
        have hp0 : (0 : Int) ≤ (p : Int) := by omega
        by_cases hps : p < S.length
        · have hps' : (p : Int) < (S.length : Int) := by omega
          obtain ⟨y, hy⟩ : ∃ y, S[p]? = some y := ⟨_, List.getElem?_eq_getElem hps⟩
          obtain ⟨g, o1, rfl, hg, hcs⟩ := HRD.out.at (by omega)
          have hy1 := (hcs p y hy).1
          unfold strV at hy1
          have HY := Lib.hid hy
          have e1 : Op.bytesLess (⟨y.1.toArray⟩ : ByteArray).toList (⟨x.1.toArray⟩ : ByteArray).toList = ltN y.1 x.1 := by rw [toList_eq, toList_eq]; rfl
          have e2 : Op.bytesLess y.1 x.1 = ltN y.1 x.1 := rfl
          clear hcs hy
          cases hlt1 : ltN y.1 x.1 with
          | true =>
            rw [hlt1] at e1 e2
            have HLT1 := Lib.hid (show ∀ t z, t < p + 1 → S[t]? = some z → ltN z.1 x.1 = true from fun t z h1 h2 => by
              rcases Nat.lt_or_ge t p with h | h
              · exact HLT.out t z h h2
              · obtain rfl : t = p := by omega
                rw [HY.out] at h2
                cases h2
                exact hlt1)
            clear hlt1
            go_wp2
            go_quiet (fail)
            go_wp2
            go_roundw
            case rel => exact ⟨p + 1, _, by omega, by go_num, HLT1, by first | exact World.drewN_drewN _ _ _ | rfl⟩
            case measure => simp [intOf] <;> omega
          | false =>
            rw [hlt1] at e1 e2
            have HIN := Lib.hid (insP_split hp HLT.out (fun z hz => by rw [HY.out] at hz; cases hz; exact hlt1))
            clear hlt1
            go_wp2
            go_quiet (fail)
            go_wp2
            rename_i nq
            obtain ⟨wq, hwq⟩ : ∃ wq, wq = (wr.drewN q).drewN nq := ⟨_, rfl⟩
            rw [← hwq]
            have HBq := Lib.hid (show Below wr.heap.size wr wq by rw [hwq]; exact below_drewN (below_drewN (Below.refl _ _) q) nq)
            have hsq : wq.heap.size = wr.heap.size := by rw [hwq]; rfl
            have HS1 := Lib.hid (show LReads wq wr.heap.size (some ⟨g, o1, none⟩) (S.take p) from (HRD.out.below HBq.out).takes p)
            have HS3 := Lib.hid (show LReads wr wr.heap.size (some ⟨g, o1 + p * 2, none⟩) (S.drop p) from LReads.drops HRD.out hps)
            have HTK := Lib.hid (show (S.take p).length = p by rw [List.length_take, Nat.min_eq_left hp])
            have HDR := Lib.hid (show (S.drop p).length = S.length - p by rw [List.length_drop])
            have kq1 := (HBq.out.cell (p := ⟨b, off + k * 2, none⟩) (Nat.lt_of_lt_of_le hb hBr)).trans hc1
            have kq2 := (HBq.out.cell (p := ⟨b, off + k * 2 + 1, none⟩) (Nat.lt_of_lt_of_le hb hBr)).trans hc2
            have hbr : b < wr.heap.size := Nat.lt_of_lt_of_le hb hBr
            have hcp : ¬ c1 = p := by omega
            have hpc : (p : Int) ≤ (c1 : Int) := by omega
            clear hwq hy1 e1 e2
            have HL1 := Lib.hid (show ([] : List Lbl).length + (S.take p).length ≤ 100000 by first | (rw [HTK.out]; simp; omega) | simp)
            have HL2 := Lib.hid (show ([] ++ (S.take p)).length + [x].length ≤ 100000 by first | (rw [List.nil_append, HTK.out]; simp; omega) | simp)
            have HL3 := Lib.hid (show ([] ++ (S.take p) ++ [x]).length + (S.drop p).length ≤ 100000 by first | (rw [List.nil_append, List.length_append, HTK.out, HDR.out]; simp; omega) | simp)
            go_region_law (first | (refine step_append_lblsN (by rfl) (.const (.slice none 0 0)) (.tmp 33) (by rfl) wr.heap.size (.slice none 0 0) [] (by rfl) (World.ownsRow_nil _ _ _ _) wr.heap.size (some ⟨g, o1, none⟩) (S.take p) p c1 HTK.out (by kernel_rfl) (by first | exact HS1.out.drew | exact (HS1.out.drew).aheadA (by simp; omega) _) HL1.out (by simp; omega) ?_; intro v2 w2 hown2 hb2 hs2; have HO2 := Lib.hid hown2; have HSF2 := Lib.hid hs2; have HB2 := Lib.hid (show Below wr.heap.size wr w2 by first | exact (HBq.out.drew).trans hb2 | exact ((HBq.out.drew).alloc (by simp; omega) _).trans hb2); clear hown2 hb2 hs2; have hB2 : wr.heap.size ≤ w2.heap.size := HB2.out.size; have m1 := (HB2.out.cell (p := ⟨b, off + k * 2, none⟩) hbr).trans hc1; have m2 := (HB2.out.cell (p := ⟨b, off + k * 2 + 1, none⟩) hbr).trans hc2) | (refine step_append_lblsN (by rfl) (.tmp 34) (.tmp 39) (by rfl) wr.heap.size v2 ([] ++ (S.take p)) (by kernel_rfl) (by first | exact HO2.out | exact HO2.out.alloc _) _ _ [x] 1 1 rfl (by rfl) (by first | exact LReads.lone x _ rfl | exact (LReads.lone (W := wq.drew) (p := wr.heap.size) x 33 hsq.symm).safe (by simp; omega) HSF2.out (by simp [Value.ownBlock])) HL2.out (by first | exact hB2 | (simp; omega)) ?_; intro v3 w3 hown3 hb3 _; have HO3 := Lib.hid hown3; have HB3 := Lib.hid (show Below wr.heap.size wr w3 by first | exact HB2.out.trans hb3 | exact (HB2.out.alloc hB2 _).trans hb3); clear hown3 hb3; have hB3 : wr.heap.size ≤ w3.heap.size := HB3.out.size) | (refine step_append_lblsN (by rfl) (.tmp 40) (.tmp 43) (by rfl) wr.heap.size v3 ([] ++ (S.take p) ++ [x]) (by kernel_rfl) HO3.out wr.heap.size (some ⟨g, o1 + p * 2, none⟩) (S.drop p) (S.length - p) (c1 - p) HDR.out (by kernel_rfl) (HS3.out.below HB3.out) HL3.out hB3 ?_; intro v4 w4 hown4 hb4 _; have HO4 := Lib.hid hown4; have HB4 := Lib.hid (HB3.out.trans hb4); clear hown4 hb4))
            all_goals
              have HON := Lib.hid (show OwnedL w.heap.size w4 v4 (sortP (l.take (k + 1))) by
                rw [HSN.out, HIN.out]
                have := HO4.out.low hBr
                simpa using this)
              have HBN := Lib.hid (show Below w.heap.size w w4 from HB.out.trans (HB4.out.mono hBr))
              have hBN : w.heap.size ≤ w4.heap.size := HBN.out.size
              go_wp2
              go_roundw
              case rel => exact ⟨k + 1, v4, rfl, by omega, by go_num, HON, HBN, hBN⟩
              case measure => simp [intOf] <;> omega
        · obtain rfl : p = S.length := by omega
          have hge : decide ((S.length : Int) < (S.length : Int)) = false := by simp
          have HIN := Lib.hid (show insP x S = S ++ x :: [] by
            rw [insP_split (Nat.le_refl _) HLT.out (fun z hz => by rw [List.getElem?_eq_none (Nat.le_refl _)] at hz; cases hz), List.take_length, List.drop_length])
          clear hps
          rcases HO.out.form with ⟨hv, hS⟩ | ⟨g, cc, hv, _, hg, _, _⟩
          · subst hS
            cases hv
            go_wp2
            go_quiet (fail)
            go_wp2
            rename_i nq
            obtain ⟨wq, hwq⟩ : ∃ wq, wq = (wr.drewN q).drewN nq := ⟨_, rfl⟩
            rw [← hwq]
            have HBq := Lib.hid (show Below wr.heap.size wr wq by rw [hwq]; exact below_drewN (below_drewN (Below.refl _ _) q) nq)
            have hsq : wq.heap.size = wr.heap.size := by rw [hwq]; rfl
            have HS1 := Lib.hid (show LReads wq wr.heap.size none ([] : List Lbl) from .inl rfl)
            have HS3 := Lib.hid (show LReads wr wr.heap.size none ([] : List Lbl) from .inl rfl)
            have HTK := Lib.hid (show ([] : List Lbl).length = 0 by rfl)
            have HDR := Lib.hid (show ([] : List Lbl).length = 0 by rfl)
            have kq1 := (HBq.out.cell (p := ⟨b, off + k * 2, none⟩) (Nat.lt_of_lt_of_le hb hBr)).trans hc1
            have kq2 := (HBq.out.cell (p := ⟨b, off + k * 2 + 1, none⟩) (Nat.lt_of_lt_of_le hb hBr)).trans hc2
            have hbr : b < wr.heap.size := Nat.lt_of_lt_of_le hb hBr
            have hcp : True := trivial
            clear hwq
            have HL1 := Lib.hid (show ([] : List Lbl).length + ([] : List Lbl).length ≤ 100000 by first | (rw [HTK.out]; simp; omega) | simp)
            have HL2 := Lib.hid (show ([] ++ ([] : List Lbl)).length + [x].length ≤ 100000 by first | (rw [List.nil_append, HTK.out]; simp; omega) | simp)
            have HL3 := Lib.hid (show ([] ++ ([] : List Lbl) ++ [x]).length + ([] : List Lbl).length ≤ 100000 by first | (rw [List.nil_append, List.length_append, HTK.out, HDR.out]; simp; omega) | simp)
            go_region_law (first | (refine step_append_lblsN (by rfl) (.const (.slice none 0 0)) (.tmp 33) (by rfl) wr.heap.size (.slice none 0 0) [] (by rfl) (World.ownsRow_nil _ _ _ _) wr.heap.size none ([] : List Lbl) 0 0 HTK.out (by kernel_rfl) (by first | exact HS1.out.drew | exact (HS1.out.drew).aheadA (by simp; omega) _) HL1.out (by simp; omega) ?_; intro v2 w2 hown2 hb2 hs2; have HO2 := Lib.hid hown2; have HSF2 := Lib.hid hs2; have HB2 := Lib.hid (show Below wr.heap.size wr w2 by first | exact (HBq.out.drew).trans hb2 | exact ((HBq.out.drew).alloc (by simp; omega) _).trans hb2); clear hown2 hb2 hs2; have hB2 : wr.heap.size ≤ w2.heap.size := HB2.out.size; have m1 := (HB2.out.cell (p := ⟨b, off + k * 2, none⟩) hbr).trans hc1; have m2 := (HB2.out.cell (p := ⟨b, off + k * 2 + 1, none⟩) hbr).trans hc2) | (refine step_append_lblsN (by rfl) (.tmp 34) (.tmp 39) (by rfl) wr.heap.size v2 ([] ++ ([] : List Lbl)) (by kernel_rfl) (by first | exact HO2.out | exact HO2.out.alloc _) _ _ [x] 1 1 rfl (by rfl) (by first | exact LReads.lone x _ rfl | exact (LReads.lone (W := wq.drew) (p := wr.heap.size) x 33 hsq.symm).safe (by simp; omega) HSF2.out (by simp [Value.ownBlock])) HL2.out (by first | exact hB2 | (simp; omega)) ?_; intro v3 w3 hown3 hb3 _; have HO3 := Lib.hid hown3; have HB3 := Lib.hid (show Below wr.heap.size wr w3 by first | exact HB2.out.trans hb3 | exact (HB2.out.alloc hB2 _).trans hb3); clear hown3 hb3; have hB3 : wr.heap.size ≤ w3.heap.size := HB3.out.size) | (refine step_append_lblsN (by rfl) (.tmp 40) (.tmp 43) (by rfl) wr.heap.size v3 ([] ++ ([] : List Lbl) ++ [x]) (by kernel_rfl) HO3.out wr.heap.size none ([] : List Lbl) (0) 0 HDR.out (by kernel_rfl) (HS3.out.below HB3.out) HL3.out hB3 ?_; intro v4 w4 hown4 hb4 _; have HO4 := Lib.hid hown4; have HB4 := Lib.hid (HB3.out.trans hb4); clear hown4 hb4))
            all_goals
              have HON := Lib.hid (show OwnedL w.heap.size w4 v4 (sortP (l.take (k + 1))) by
                rw [HSN.out, HIN.out]
                have := HO4.out.low hBr
                simpa using this)
              have HBN := Lib.hid (show Below w.heap.size w w4 from HB.out.trans (HB4.out.mono hBr))
              have hBN : w.heap.size ≤ w4.heap.size := HBN.out.size
              go_wp2
              go_roundw
              case rel => exact ⟨k + 1, v4, rfl, by omega, by go_num, HON, HBN, hBN⟩
              case measure => simp [intOf] <;> omega
          · cases hv
            by_cases hcp : c1 = S.length
            · subst hcp
              go_wp2
              go_quiet (fail)
              go_wp2
              rename_i nq
              obtain ⟨wq, hwq⟩ : ∃ wq, wq = (wr.drewN q).drewN nq := ⟨_, rfl⟩
              rw [← hwq]
              have HBq := Lib.hid (show Below wr.heap.size wr wq by rw [hwq]; exact below_drewN (below_drewN (Below.refl _ _) q) nq)
              have hsq : wq.heap.size = wr.heap.size := by rw [hwq]; rfl
              have HS1 := Lib.hid (show LReads wq wr.heap.size (some ⟨g, 0, none⟩) S from (HRD.out.below HBq.out))
              have HS3 := Lib.hid (show LReads wr wr.heap.size (some ⟨g, 0, none⟩) ([] : List Lbl) from .inl rfl)
              have HTK := Lib.hid (show S.length = S.length by rfl)
              have HDR := Lib.hid (show ([] : List Lbl).length = 0 by rfl)
              have kq1 := (HBq.out.cell (p := ⟨b, off + k * 2, none⟩) (Nat.lt_of_lt_of_le hb hBr)).trans hc1
              have kq2 := (HBq.out.cell (p := ⟨b, off + k * 2 + 1, none⟩) (Nat.lt_of_lt_of_le hb hBr)).trans hc2
              have hbr : b < wr.heap.size := Nat.lt_of_lt_of_le hb hBr
              have hcp : True := trivial
              clear hwq
              have HL1 := Lib.hid (show ([] : List Lbl).length + S.length ≤ 100000 by first | (rw [HTK.out]; simp; omega) | simp)
              have HL2 := Lib.hid (show ([] ++ S).length + [x].length ≤ 100000 by first | (rw [List.nil_append, HTK.out]; simp; omega) | simp)
              have HL3 := Lib.hid (show ([] ++ S ++ [x]).length + ([] : List Lbl).length ≤ 100000 by first | (rw [List.nil_append, List.length_append, HTK.out, HDR.out]; simp; omega) | simp)
              go_region_law (first | (refine step_append_lblsN (by rfl) (.const (.slice none 0 0)) (.tmp 33) (by rfl) wr.heap.size (.slice none 0 0) [] (by rfl) (World.ownsRow_nil _ _ _ _) wr.heap.size (some ⟨g, 0, none⟩) S S.length S.length HTK.out (by kernel_rfl) (by first | exact HS1.out.drew | exact (HS1.out.drew).aheadA (by simp; omega) _) HL1.out (by simp; omega) ?_; intro v2 w2 hown2 hb2 hs2; have HO2 := Lib.hid hown2; have HSF2 := Lib.hid hs2; have HB2 := Lib.hid (show Below wr.heap.size wr w2 by first | exact (HBq.out.drew).trans hb2 | exact ((HBq.out.drew).alloc (by simp; omega) _).trans hb2); clear hown2 hb2 hs2; have hB2 : wr.heap.size ≤ w2.heap.size := HB2.out.size; have m1 := (HB2.out.cell (p := ⟨b, off + k * 2, none⟩) hbr).trans hc1; have m2 := (HB2.out.cell (p := ⟨b, off + k * 2 + 1, none⟩) hbr).trans hc2) | (refine step_append_lblsN (by rfl) (.tmp 34) (.tmp 39) (by rfl) wr.heap.size v2 ([] ++ S) (by kernel_rfl) (by first | exact HO2.out | exact HO2.out.alloc _) _ _ [x] 1 1 rfl (by rfl) (by first | exact LReads.lone x _ rfl | exact (LReads.lone (W := wq.drew) (p := wr.heap.size) x 33 hsq.symm).safe (by simp; omega) HSF2.out (by simp [Value.ownBlock])) HL2.out (by first | exact hB2 | (simp; omega)) ?_; intro v3 w3 hown3 hb3 _; have HO3 := Lib.hid hown3; have HB3 := Lib.hid (show Below wr.heap.size wr w3 by first | exact HB2.out.trans hb3 | exact (HB2.out.alloc hB2 _).trans hb3); clear hown3 hb3; have hB3 : wr.heap.size ≤ w3.heap.size := HB3.out.size) | (refine step_append_lblsN (by rfl) (.tmp 40) (.tmp 43) (by rfl) wr.heap.size v3 ([] ++ S ++ [x]) (by kernel_rfl) HO3.out wr.heap.size (some ⟨g, 0, none⟩) ([] : List Lbl) (0) 0 HDR.out (by kernel_rfl) (HS3.out.below HB3.out) HL3.out hB3 ?_; intro v4 w4 hown4 hb4 _; have HO4 := Lib.hid hown4; have HB4 := Lib.hid (HB3.out.trans hb4); clear hown4 hb4))
              all_goals
                have HON := Lib.hid (show OwnedL w.heap.size w4 v4 (sortP (l.take (k + 1))) by
                  rw [HSN.out, HIN.out]
                  have := HO4.out.low hBr
                  simpa using this)
                have HBN := Lib.hid (show Below w.heap.size w w4 from HB.out.trans (HB4.out.mono hBr))
                have hBN : w.heap.size ≤ w4.heap.size := HBN.out.size
                go_wp2
                go_roundw
                case rel => exact ⟨k + 1, v4, rfl, by omega, by go_num, HON, HBN, hBN⟩
                case measure => simp [intOf] <;> omega
            · have hpc : (S.length : Int) ≤ (c1 : Int) := by omega
              go_wp2
              go_quiet (fail)
              go_wp2
              rename_i nq
              obtain ⟨wq, hwq⟩ : ∃ wq, wq = (wr.drewN q).drewN nq := ⟨_, rfl⟩
              rw [← hwq]
              have HBq := Lib.hid (show Below wr.heap.size wr wq by rw [hwq]; exact below_drewN (below_drewN (Below.refl _ _) q) nq)
              have hsq : wq.heap.size = wr.heap.size := by rw [hwq]; rfl
              have HS1 := Lib.hid (show LReads wq wr.heap.size (some ⟨g, 0, none⟩) S from (HRD.out.below HBq.out))
              have HS3 := Lib.hid (show LReads wr wr.heap.size (some ⟨g, S.length * 2, none⟩) ([] : List Lbl) from .inl rfl)
              have HTK := Lib.hid (show S.length = S.length by rfl)
              have HDR := Lib.hid (show ([] : List Lbl).length = 0 by rfl)
              have kq1 := (HBq.out.cell (p := ⟨b, off + k * 2, none⟩) (Nat.lt_of_lt_of_le hb hBr)).trans hc1
              have kq2 := (HBq.out.cell (p := ⟨b, off + k * 2 + 1, none⟩) (Nat.lt_of_lt_of_le hb hBr)).trans hc2
              have hbr : b < wr.heap.size := Nat.lt_of_lt_of_le hb hBr
              have hcp2 : True := trivial
              clear hwq
              have HL1 := Lib.hid (show ([] : List Lbl).length + S.length ≤ 100000 by first | (rw [HTK.out]; simp; omega) | simp)
              have HL2 := Lib.hid (show ([] ++ S).length + [x].length ≤ 100000 by first | (rw [List.nil_append, HTK.out]; simp; omega) | simp)
              have HL3 := Lib.hid (show ([] ++ S ++ [x]).length + ([] : List Lbl).length ≤ 100000 by first | (rw [List.nil_append, List.length_append, HTK.out, HDR.out]; simp; omega) | simp)
              go_region_law (first | (refine step_append_lblsN (by rfl) (.const (.slice none 0 0)) (.tmp 33) (by rfl) wr.heap.size (.slice none 0 0) [] (by rfl) (World.ownsRow_nil _ _ _ _) wr.heap.size (some ⟨g, 0, none⟩) S S.length c1 HTK.out (by kernel_rfl) (by first | exact HS1.out.drew | exact (HS1.out.drew).aheadA (by simp; omega) _) HL1.out (by simp; omega) ?_; intro v2 w2 hown2 hb2 hs2; have HO2 := Lib.hid hown2; have HSF2 := Lib.hid hs2; have HB2 := Lib.hid (show Below wr.heap.size wr w2 by first | exact (HBq.out.drew).trans hb2 | exact ((HBq.out.drew).alloc (by simp; omega) _).trans hb2); clear hown2 hb2 hs2; have hB2 : wr.heap.size ≤ w2.heap.size := HB2.out.size; have m1 := (HB2.out.cell (p := ⟨b, off + k * 2, none⟩) hbr).trans hc1; have m2 := (HB2.out.cell (p := ⟨b, off + k * 2 + 1, none⟩) hbr).trans hc2) | (refine step_append_lblsN (by rfl) (.tmp 34) (.tmp 39) (by rfl) wr.heap.size v2 ([] ++ S) (by kernel_rfl) (by first | exact HO2.out | exact HO2.out.alloc _) _ _ [x] 1 1 rfl (by rfl) (by first | exact LReads.lone x _ rfl | exact (LReads.lone (W := wq.drew) (p := wr.heap.size) x 33 hsq.symm).safe (by simp; omega) HSF2.out (by simp [Value.ownBlock])) HL2.out (by first | exact hB2 | (simp; omega)) ?_; intro v3 w3 hown3 hb3 _; have HO3 := Lib.hid hown3; have HB3 := Lib.hid (show Below wr.heap.size wr w3 by first | exact HB2.out.trans hb3 | exact (HB2.out.alloc hB2 _).trans hb3); clear hown3 hb3; have hB3 : wr.heap.size ≤ w3.heap.size := HB3.out.size) | (refine step_append_lblsN (by rfl) (.tmp 40) (.tmp 43) (by rfl) wr.heap.size v3 ([] ++ S ++ [x]) (by kernel_rfl) HO3.out wr.heap.size (some ⟨g, S.length * 2, none⟩) ([] : List Lbl) (0) (c1 - S.length) HDR.out (by kernel_rfl) (HS3.out.below HB3.out) HL3.out hB3 ?_; intro v4 w4 hown4 hb4 _; have HO4 := Lib.hid hown4; have HB4 := Lib.hid (HB3.out.trans hb4); clear hown4 hb4))
              all_goals
                have HON := Lib.hid (show OwnedL w.heap.size w4 v4 (sortP (l.take (k + 1))) by
                  rw [HSN.out, HIN.out]
                  have := HO4.out.low hBr
                  simpa using this)
                have HBN := Lib.hid (show Below w.heap.size w w4 from HB.out.trans (HB4.out.mono hBr))
                have hBN : w.heap.size ≤ w4.heap.size := HBN.out.size
                go_wp2
                go_roundw
                case rel => exact ⟨k + 1, v4, rfl, by omega, by go_num, HON, HBN, hBN⟩
                case measure => simp [intOf] <;> omega
    · have hge : decide ((k : Int) < (l.length : Int)) = false := by simp; omega
      have hk' : k = l.length := by omega
      have HE := Lib.hid (show OwnedL w.heap.size wr ov' (sortP l) by have := HO.out; rwa [hk', List.take_length] at this)
      clear hk'
      go_wp2
      go_ret
      exact ⟨_, rfl, HE.out, HB.out⟩
end Go.Proofs.Ytnbghappfclnjaa
