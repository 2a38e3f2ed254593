/- LabelBounds: the labels at the bounds. -/
import Derived.Test.YtlbnlgmgfghpoaaLabMore
import Derived.Test.YtlbnlgmgfghpoaaAppendS
import Derived.Test.YtlbnlgmgfghpoaaText
namespace Go.Proofs.Ytlbnlgmgfghpoaa
open Go.RowKit

def lblK (k : Nat) : Lbl := ([108, UInt8.ofNat (97 + k)], repL 1024 92)
def blabs (k : Nat) : List Lbl := (List.range k).map lblK
theorem blabs_succ (k : Nat) : blabs (k + 1) = blabs k ++ [lblK k] := by unfold blabs; rw [List.range_succ, List.map_append]; rfl
theorem blabs_len (k : Nat) : (blabs k).length = k := by simp [blabs]
theorem blabs_small (k : Nat) : smallL (blabs k) := by
  intro x hx
  unfold blabs at hx
  obtain ⟨j, _, rfl⟩ := List.mem_map.1 hx
  have h1 : (lblK j).1.length = 2 := rfl
  have h2 : (lblK j).2.length = 1024 := repL_len ..
  omega
theorem blabs_valid : validB (repL 200 109) (blabs 16) = true := by decide +kernel
theorem hcvOne (W : World) (n : Int) : ∀ q, (convert 42 9 (.slice (some ⟨W.heap.size, 0, none⟩) 1 1)).run Try.prog ((W.alloc (.cells #[.int .u8 n] 5)).drewN q) = .ok (.string ⟨#[UInt8.ofNat n.toNat]⟩) ((W.alloc (.cells #[.int .u8 n] 5)).drewN q) := by
  intro q
  rw [run_convert_bytes_string _ 42 9 5 _ _ _ Try.underlying42 Try.underlying5 Try.underlying9, run_bytesToString _ _ _ _ [n]]
  · rfl
  · simp [loadCells, go_sem]

theorem LReads.ahead {w : World} {B : Nat} {A : Option Addr} {l l1 : List Lbl} {x : Lbl} (h : LReads w B A l) (e : l = l1 ++ [x]) : LReads w B A l1 := by
  subst e
  rcases h with h | ⟨b, off, rfl, hb, hc⟩
  · simp at h
  · refine .inr ⟨b, off, rfl, hb, fun j u hj => hc j u ?_⟩
    rw [flatL_append, List.getElem?_append_left (List.getElem?_eq_some_iff.1 hj).1]
    exact hj
theorem chain {w0 w1 w2 : World} (h : Below w0.heap.size w0 w1) (h1 : Below w1.heap.size w1 w2) : Below w0.heap.size w0 w2 := h.trans (h1.mono h.size)
theorem b_201 : nameP (repL 201 109) [] = none := by decide +kernel
theorem b_1025 : nameP [109] [([97], repL 1025 120)] = none := by decide +kernel
theorem b_201a : nameP [109] [(repL 201 97, [])] = none := by decide +kernel
theorem b_200a : ∃ t, nameP [109] [(repL 200 97, [])] = some t := ⟨_, nameP_valid (by decide +kernel)⟩
theorem small_one {a b : List UInt8} (h1 : a.length ≤ 1000000) (h2 : b.length ≤ 1000000) : smallL [(a, b)] := by
  intro x hx
  rw [List.mem_singleton] at hx
  subst hx
  exact ⟨h1, h2⟩
set_option maxRecDepth 100000 in
set_option maxHeartbeats 16000000 in
theorem bounds_any (m : Int) (w : World) (hm : ML m w) :
    Calls Try.prog 6 #[] w fun e w' => e = .returned (.bool true) ∧ Below w.heap.size w w' := by
  have HM := Lib.hid hm
  have HMO := fun W => Lib.hid (more_any 92 1024 W (by omega))
  clear hm
  go_enter Try.func6, Try.ntmps6
  go_wp2
  go_loopw [1, 2] (fun lv i wr => ∃ (k : Nat) (lv' : Value), lv' = lv ∧ k ≤ 17 ∧ i = .int .i64 k ∧ Hid (OwnedL w.heap.size wr lv (blabs k)) ∧ Hid (Below w.heap.size w wr) ∧ w.heap.size ≤ wr.heap.size) (fun _ i _ => 17 - (intOf i).toNat)
  case atStart => exact ⟨0, _, rfl, Nat.zero_le _, rfl, Lib.hid (World.ownsRow_nil _ _ _ _), Lib.hid (Below.refl _ _), Nat.le_refl _⟩
  case round =>
    obtain ⟨k, lv', rfl, hk, rfl, HO, HB, hBr⟩ := hrel
    by_cases hlt : k < 17
    · have hlt' : (k : Int) < 17 := by omega
      have hk0 : (0 : Int) ≤ (k : Int) := by omega
      have w1 : IntKind.i64.wrap (97 + (k : Int)) = 97 + (k : Int) := IntWalk.i64_in _ (by omega)
      have w2 : IntKind.u8.wrap (97 + (k : Int)) = 97 + (k : Int) := IntWalk.u8_in _ (by omega)
      have hcv : (convert 42 9 (.slice (some ⟨wr.heap.size, 0, none⟩) 1 1)).run Try.prog ((wr.alloc (.cells #[.int .u8 (97 + (k : Int))] 5)).drew) = .ok (.string ⟨#[UInt8.ofNat (97 + (k : Int)).toNat]⟩) ((wr.alloc (.cells #[.int .u8 (97 + (k : Int))] 5)).drew) := hcvOne wr (97 + (k : Int)) 1
      have HSRC := Lib.hid (LReads.drew (LReads.lone' (W := wr.alloc (.cells #[.int .u8 (97 + (k : Int))] 5)) (p := wr.heap.size + 1) (X := ⟨#[108]⟩ ++ ⟨#[UInt8.ofNat (97 + (k : Int)).toNat]⟩) (Y := ⟨(repL 1024 92).toArray⟩) (lblK k) 45 (by
        have e : (97 + (k : Int)).toNat = 97 + k := by omega
        rw [e]
        rfl) rfl (by simp)))
      have HOWN := Lib.hid (OwnedL.drew ((HO.out.alloc (.cells #[.int .u8 (97 + (k : Int))] 5)).alloc (.cells #[.string (⟨#[108]⟩ ++ ⟨#[UInt8.ofNat (97 + (k : Int)).toNat]⟩), .string ⟨(repL 1024 92).toArray⟩] 45)))
      have HLN := Lib.hid (show (blabs k).length + [lblK k].length ≤ 100000 by rw [blabs_len]; simp; omega)
      go_wp2
      go_region_law (first | (refine step_append_lblsA (by rfl) (.tmp 23) (.tmp 32) (by rfl) w.heap.size lv' (blabs k) (by rfl) HOWN.out _ _ [lblK k] 1 (by rfl) HSRC.out HLN.out (by simp; omega) ?_; intro v2 w2 hown2 hb2 _; have HO2 := Lib.hid hown2; have HB2 := Lib.hid hb2; clear hown2 hb2) | (go_simp; go_at_call 24; refine (Hid.out (HMO _)).mono ?_; rintro e w3 ⟨rfl, rfl⟩))
      all_goals
        have HBN := Lib.hid (HB.out.trans ((((below_alloc hBr _).alloc (le_alloc hBr _) _).drew).trans HB2.out))
        have hBN : w.heap.size ≤ w2.heap.size := HBN.out.size
        have HON := Lib.hid (show OwnedL w.heap.size w2 v2 (blabs (k + 1)) by rw [blabs_succ]; exact HO2.out)
        go_wp2
        go_roundw
        case rel => exact ⟨k + 1, v2, rfl, by omega, by go_num, HON, HBN, hBN⟩
        case measure => simp [intOf] <;> omega
    · obtain rfl : k = 17 := by omega
      rcases HO.out.form with ⟨_, h0⟩ | ⟨g, cap, rfl, _, hg, hcap, hcm⟩
      · have := congrArg List.length h0
        rw [blabs_len] at this
        simp at this
      have hcap' : (16 : Int) ≤ (cap : Int) := by rw [blabs_len] at hcap; omega
      have HRD := Lib.hid (show LReads wr wr.heap.size (some ⟨g, 0, none⟩) (blabs 17) by
        obtain ⟨A, c, e, h, _⟩ := HO.out.reads
        cases e
        exact h)
      rw [blabs_len]
      obtain ⟨T, hT⟩ : ∃ T : ByteArray, T = ⟨(textT (repL 200 109) (blabs 16)).toArray⟩ := ⟨_, rfl⟩
      have HPT := Lib.hid (show parseP T.data.toList = some (repL 200 109, blabs 16) by rw [hT]; exact parseP_text blabs_valid)
      have HTS := Lib.hid (show T.size ≤ 100000 by
        rw [hT, Lib.size_eq]
        show (textT (repL 200 109) (blabs 16)).length ≤ _
        have hv := blabs_valid
        unfold validB at hv
        rw [Bool.and_eq_true] at hv
        have h1 := piecesT_len 16 (checkB_labs hv.1)
        rw [List.take_of_length_le (by rw [blabs_len]; exact Nat.le_refl _)] at h1
        rw [textT_eq]
        split
        · rw [repL_len]; omega
        · rw [List.length_append, List.length_append, repL_len]
          simp only [List.length_cons, List.length_nil]
          omega)
      have HN1 := Lib.hid (show Calls Try.prog 9 #[.string ⟨(repL 200 109).toArray⟩, .slice (some ⟨g, 0, none⟩) 16 cap] wr.drew fun e w' => e = .returned (.tuple #[.string T, .int .i64 0]) ∧ Below wr.heap.size wr w' by
        have h := name_any (some ⟨g, 0, none⟩) cap ⟨(repL 200 109).toArray⟩ (blabs 16) wr.drew (by rw [Lib.size_eq]; show (repL 200 109).length ≤ _; rw [repL_len]; omega) (by rw [blabs_len]; omega) (blabs_small 16) (LReads.drew (HRD.out.ahead (blabs_succ 16)))
        rw [blabs_len] at h
        refine h.mono fun e w' hh => ⟨?_, ((Below.refl _ _).drew).trans hh.2⟩
        rw [hh.1, show nameP (⟨(repL 200 109).toArray⟩ : ByteArray).data.toList (blabs 16) = some (textT (repL 200 109) (blabs 16)) from nameP_valid blabs_valid, hT]
        rfl)
      have HM1 := Lib.hid (show Calls Try.prog 24 #[.string ⟨#[109]⟩, .int .i64 200] wr.drew fun e w' => e = .returned (.string ⟨(repL 200 109).toArray⟩) ∧ wr.drew = w' from more_any 109 200 wr.drew (by omega))
      clear hT
      go_wp2
      go_region_with (first | (go_at_call 24; refine (Hid.out HM1).mono ?_; rintro e w3 ⟨rfl, rfl⟩) | (go_at_call 9; refine (Hid.out HN1).mono ?_; rintro e w3 ⟨rfl, hb3⟩; have HB3 := Lib.hid hb3; clear hb3))
      all_goals
        -- 'm' with all of them
        have HN2 := Lib.hid (name_long (some ⟨g, 0, none⟩) 17 cap ⟨#[109]⟩ w3 (by omega) (by omega))
        go_wp2_with fail
        refine (Hid.out HN2).mono ?_
        rintro e w4 ⟨rfl, hb4⟩
        have HB4 := Lib.hid (chain HB3.out hb4)
        -- 201 bytes
        have HM2 := Lib.hid (more_any 109 201 w4 (by omega))
        have HN3 := Lib.hid (name_any none 0 ⟨(repL 201 109).toArray⟩ [] w4 (by rw [Lib.size_eq]; show (repL 201 109).length ≤ _; rw [repL_len]; omega) (by simp) (by intro x hx; cases hx) (.inl rfl))
        change Hid (Calls Try.prog 9 _ w4 (NamePost (nameP (repL 201 109) []) w4)) at HN3
        rw [b_201] at HN3
        clear hb4
        go_wp2_with fail
        refine (Hid.out HM2).mono ?_
        rintro e w4' ⟨rfl, rfl⟩
        go_wp2_with fail
        refine (Hid.out HN3).mono ?_
        rintro e w5 ⟨rfl, hb5⟩
        have HB5 := Lib.hid (chain HB4.out hb5)
        -- a value of 1025 bytes
        have HM3 := Lib.hid (more_any 120 1025 w5 (by omega))
        have HN4 := Lib.hid (name_any (some ⟨w5.heap.size, 0, none⟩) 1 ⟨#[109]⟩ [([97], repL 1025 120)] (w5.alloc (.cells #[.string ⟨#[97]⟩, .string ⟨(repL 1025 120).toArray⟩] 45)) (by decide) (by simp) (small_one (by simp) (by rw [repL_len]; omega)) ((LReads.lone ([97], repL 1025 120) _ rfl).more (by simp)))
        change Hid (Calls Try.prog 9 _ _ (NamePost (nameP [109] [([97], repL 1025 120)]) _)) at HN4
        rw [b_1025] at HN4
        clear hb5
        go_wp2_with fail
        refine (Hid.out HM3).mono ?_
        rintro e w5' ⟨rfl, rfl⟩
        go_wp2_with fail
        refine (Hid.out HN4).mono ?_
        rintro e w6 ⟨rfl, hb6⟩
        have HB6 := Lib.hid (chain HB5.out ((below_alloc (Nat.le_refl _) _).trans (hb6.mono (by simp))))
        -- a name of 201 bytes
        have HM4 := Lib.hid (more_any 97 201 w6 (by omega))
        have HN5 := Lib.hid (name_any (some ⟨w6.heap.size, 0, none⟩) 1 ⟨#[109]⟩ [(repL 201 97, [])] (w6.alloc (.cells #[.string ⟨(repL 201 97).toArray⟩, .string ⟨#[]⟩] 45)) (by decide) (by simp) (small_one (by rw [repL_len]; omega) (by simp)) ((LReads.lone (repL 201 97, []) _ rfl).more (by simp)))
        change Hid (Calls Try.prog 9 _ _ (NamePost (nameP [109] [(repL 201 97, [])]) _)) at HN5
        rw [b_201a] at HN5
        clear hb6
        go_wp2_with fail
        refine (Hid.out HM4).mono ?_
        rintro e w6' ⟨rfl, rfl⟩
        go_wp2_with fail
        refine (Hid.out HN5).mono ?_
        rintro e w7 ⟨rfl, hb7⟩
        have HB7 := Lib.hid (chain HB6.out ((below_alloc (Nat.le_refl _) _).trans (hb7.mono (by simp))))
        -- a name of 200 bytes
        have HM5 := Lib.hid (more_any 97 200 w7 (by omega))
        have HN6 := Lib.hid (name_any (some ⟨w7.heap.size, 0, none⟩) 1 ⟨#[109]⟩ [(repL 200 97, [])] (w7.alloc (.cells #[.string ⟨(repL 200 97).toArray⟩, .string ⟨#[]⟩] 45)) (by decide) (by simp) (small_one (by rw [repL_len]; omega) (by simp)) ((LReads.lone (repL 200 97, []) _ rfl).more (by simp)))
        change Hid (Calls Try.prog 9 _ _ (NamePost (nameP [109] [(repL 200 97, [])]) _)) at HN6
        obtain ⟨t200, ht200⟩ := b_200a
        rw [ht200] at HN6
        clear hb7 ht200
        go_wp2_with fail
        refine (Hid.out HM5).mono ?_
        rintro e w7' ⟨rfl, rfl⟩
        go_wp2_with fail
        refine (Hid.out HN6).mono ?_
        rintro e w8 ⟨rfl, hb8⟩
        have HB8 := Lib.hid (chain HB7.out ((below_alloc (Nat.le_refl _) _).trans (hb8.mono (by simp))))
        -- one more than may be
        obtain ⟨b16, o16, e16, hlt16, c16⟩ := HRD.out.at (by rw [blabs_len]; omega)
        cases e16
        obtain ⟨z, hz⟩ : ∃ z : Lbl, z = lblK 16 := ⟨_, rfl⟩
        obtain ⟨y, hy⟩ : ∃ y : Lbl, y = lblK 3 := ⟨_, rfl⟩
        have x16 := c16 16 (lblK 16) rfl
        have x3 := c16 3 (lblK 3) rfl
        rw [← hz] at x16
        rw [← hy] at x3
        have hzs : smallL [z] := by intro x hx; rw [List.mem_singleton] at hx; subst hx; rw [hz]; exact blabs_small 17 _ (by rw [blabs_succ]; simp)
        have hys : smallL [y] := by intro x hx; rw [List.mem_singleton] at hx; subst hx; rw [hy]; exact blabs_small 4 _ (by rw [blabs_succ]; simp)
        have hwz : ∀ x : Lbl, withP (parseP T.data.toList) [x] = none := fun x => by
          rw [HPT.out]
          exact nameP_long (by rw [List.length_append, blabs_len]; simp)
        have y16a : w8.cell? ⟨g, 32, none⟩ = some (.string ⟨z.1.toArray⟩) := (HB8.out.cell (p := ⟨g, 0 + 16 * 2, none⟩) hlt16).trans x16.1
        have y16b : w8.cell? ⟨g, 33, none⟩ = some (.string ⟨z.2.toArray⟩) := (HB8.out.cell (p := ⟨g, 0 + 16 * 2 + 1, none⟩) hlt16).trans x16.2
        have HW1 := Lib.hid (with_any (some ⟨w8.heap.size, 0, none⟩) 1 T [z] m (w8.alloc (.cells #[.string ⟨z.1.toArray⟩, .string ⟨z.2.toArray⟩] 45)) HTS.out (((HM.out.below HB.out (Nat.le_refl _)).below HB8.out (Nat.le_refl _)).alloc _) (by simp) hzs ((LReads.lone z _ rfl).more (by simp)))
        rw [hwz] at HW1
        have en : nameE none = 5 := rfl
        have es : ∀ t, nameE (some t) = 0 := fun _ => rfl
        have HX3 := Lib.hid x3
        have HYS := Lib.hid hys
        have HWZ := Lib.hid hwz
        have HLT16 := Lib.hid hlt16
        clear hb8 hz hy x16 x3 hzs hys hwz c16 hlt16
        go_wp2_with fail
        refine (Hid.out HW1).mono ?_
        rintro e w9 ⟨rfl, hb9⟩
        have HB9 := Lib.hid (chain HB8.out ((below_alloc (Nat.le_refl _) _).trans (hb9.mono (by simp))))
        have y3a : w9.cell? ⟨g, 6, none⟩ = some (.string ⟨y.1.toArray⟩) := (HB9.out.cell (p := ⟨g, 0 + 3 * 2, none⟩) HLT16.out).trans HX3.out.1
        have y3b : w9.cell? ⟨g, 7, none⟩ = some (.string ⟨y.2.toArray⟩) := (HB9.out.cell (p := ⟨g, 0 + 3 * 2 + 1, none⟩) HLT16.out).trans HX3.out.2
        have HW2 := Lib.hid (with_any (some ⟨w9.heap.size, 0, none⟩) 1 T [y] m (w9.alloc (.cells #[.string ⟨y.1.toArray⟩, .string ⟨y.2.toArray⟩] 45)) HTS.out (((HM.out.below HB.out (Nat.le_refl _)).below HB9.out (Nat.le_refl _)).alloc _) (by simp) HYS.out ((LReads.lone y _ rfl).more (by simp)))
        rw [HWZ.out] at HW2
        clear hb9
        go_wp2_with fail
        refine (Hid.out HW2).mono ?_
        rintro e w10 ⟨rfl, hb10⟩
        have HB10 := Lib.hid (chain HB9.out ((below_alloc (Nat.le_refl _) _).trans (hb10.mono (by simp))))
        have HMY := Lib.hid (may_any T m w10 HTS.out ((HM.out.below HB.out (Nat.le_refl _)).below HB10.out (Nat.le_refl _)))
        rw [HPT.out] at HMY
        clear hb10
        go_wp2_with fail
        refine (Hid.out HMY).mono ?_
        rintro e w11 ⟨rfl, hb11⟩
        have HB11 := Lib.hid (HB.out.trans ((chain HB10.out hb11).mono hBr))
        have HKN := Lib.hid (known_yes w w11 HB11.out)
        clear hb11
        go_wp2_with fail
        refine (Hid.out HKN).mono ?_
        rintro e w12 ⟨rfl, hb12⟩
        go_wp2
        go_ret
        exact ⟨rfl, hb12⟩
end Go.Proofs.Ytlbnlgmgfghpoaa
