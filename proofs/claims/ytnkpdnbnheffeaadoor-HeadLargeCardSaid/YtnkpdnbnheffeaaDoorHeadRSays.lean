/- The document's Says. -/
import Derived.Test.YtnkpdnbnheffeaaDoorHeadRVals
import Derived.Test.YtnkpdnbnheffeaaDoorHeadRRead
import Derived.Test.YtnkpdnbnheffeaaDoorHeadRTrim
import Derived.Test.YtnkpdnbnheffeaaDoorHeadSmall
namespace Go.Proofs.YtnkpdnbnheffeaaDoor
open Go.RowKit

def saysW (wd v : List UInt8) : Bool := (wordsL v).any (· == wd)
def saysL (wd : List UInt8) (vs : List (List UInt8)) : Bool := vs.any (saysW wd)
theorem cut_none {a : List UInt8} {c : UInt8} (h : c ∉ a) : Lib.cut a [c] = (a, [], false) := by
  cases hm : (Lib.cut a [c]).2.2 with
  | true =>
    have := (cut_parts (l := a) (a := (Lib.cut a [c]).1) (r := (Lib.cut a [c]).2.1) (c := c) (by rw [← hm])).1
    exact absurd (by rw [this]; simp) h
  | false =>
    unfold Lib.cut at hm ⊢
    split
    · rename_i h0
      rw [if_pos h0] at hm
      cases hm
    · rfl
theorem says_comma {wd a r : List UInt8} (h : 44 ∉ a) : saysW wd (a ++ 44 :: r) = ((smallL (trimL a) == wd) || saysW wd r) := by
  unfold saysW
  rw [wordsL_cut, cut_make h, if_pos rfl, List.any_cons]
theorem says_end {wd a : List UInt8} (h : 44 ∉ a) : saysW wd a = (smallL (trimL a) == wd) := by
  unfold saysW
  rw [wordsL_cut, cut_none h, if_neg (by simp), List.any_cons, List.any_nil, Bool.or_false]
theorem saysL_at {wd : List UInt8} {vs : List (List UInt8)} {k : Nat} {x : List UInt8} (h : vs[k]? = some x) : saysL wd (vs.take (k + 1)) = (saysL wd (vs.take k) || saysW wd x) := by
  unfold saysL
  rw [List.take_add_one, h, List.any_append]
  simp
theorem saysL_yes {wd : List UInt8} {vs : List (List UInt8)} {k : Nat} {x : List UInt8} (h : vs[k]? = some x) (hx : saysW wd x = true) : saysL wd vs = true := by
  unfold saysL
  rw [List.any_eq_true]
  exact ⟨x, List.mem_of_getElem? h, hx⟩
/-- What is left of a text: the words behind `f`. -/
structure Left (wd x : List UInt8) (f k : Nat) : Prop where
  le : f ≤ k
  none : 44 ∉ (x.take k).drop f
  all : saysW wd x = saysW wd (x.drop f)
theorem left_start (wd x : List UInt8) : Left wd x 0 0 := ⟨Nat.le_refl _, by simp, by simp⟩
theorem left_next {wd x : List UInt8} {f k : Nat} {c : UInt8} (h : Left wd x f k) (hc : x[k]? = some c) (h44 : c ≠ 44) : Left wd x f (k + 1) := by
  refine ⟨Nat.le_succ_of_le h.le, ?_, h.all⟩
  have hk := (List.getElem?_eq_some_iff.1 hc).1
  rw [List.take_add_one, hc, List.drop_append_of_le_length (by rw [List.length_take]; have := h.le; omega), List.mem_append]
  rintro (h1 | h1)
  · exact h.none h1
  · simp at h1
    exact h44 h1.symm
theorem left_split {x : List UInt8} {f k : Nat} {c : UInt8} (hf : f ≤ k) (hc : x[k]? = some c) : x.drop f = (x.take k).drop f ++ c :: x.drop (k + 1) := by
  have hk := (List.getElem?_eq_some_iff.1 hc).1
  have h1 : x = x.take k ++ x.drop k := (List.take_append_drop k x).symm
  conv => lhs; rw [h1]
  rw [List.drop_append_of_le_length (by rw [List.length_take]; omega), List.drop_eq_getElem_cons hk, (List.getElem?_eq_some_iff.1 hc).2]
theorem left_comma {wd x : List UInt8} {f k : Nat} (h : Left wd x f k) (hc : x[k]? = some 44) : saysW wd x = ((smallL (trimL ((x.take k).drop f)) == wd) || saysW wd (x.drop (k + 1))) := by
  rw [h.all, left_split h.le hc, says_comma h.none]
theorem left_go {wd x : List UInt8} {f k : Nat} (h : Left wd x f k) (hc : x[k]? = some 44) (hn : (smallL (trimL ((x.take k).drop f)) == wd) = false) : Left wd x (k + 1) (k + 1) := by
  refine ⟨Nat.le_refl _, ?_, ?_⟩
  · rw [List.drop_eq_nil_of_le (by rw [List.length_take]; omega)]
    simp
  · rw [left_comma h hc, hn, Bool.false_or]
theorem left_end {wd x : List UInt8} {f : Nat} (h : Left wd x f x.length) : saysW wd x = (smallL (trimL ((x.take x.length).drop f)) == wd) := by
  rw [h.all]
  have := h.none
  rw [List.take_length] at this ⊢
  exact says_end this
theorem saysL_flat (wd : List UInt8) (vs : List (List UInt8)) : saysL wd vs = (vs.map wordsL).flatten.any (· == wd) := by
  unfold saysL saysW
  rw [List.any_flatten, List.any_map]
  rfl
theorem fold_says (l : List (List UInt8)) : ∀ b : Bool, (l.foldl stepW (false, b)).2 = (l.any (· == tClose) || (b && !l.any (· == tKeep))) := by
  induction l with
  | nil => intro b; simp
  | cons x l ih =>
    intro b
    rw [List.foldl_cons, List.any_cons, List.any_cons]
    by_cases h1 : x = tClose
    · have e : stepW (false, b) x = (true, true) := by unfold stepW; rw [if_neg (by simp), if_pos h1]
      rw [e, over_stays, show (x == tClose) = true by simpa using h1]
      rfl
    · have n1 : (x == tClose) = false := by simpa using h1
      by_cases h2 : x = tKeep
      · have e : stepW (false, b) x = (false, false) := by unfold stepW; rw [if_neg (by simp), if_neg h1, if_pos h2]
        rw [e, ih, n1, show (x == tKeep) = true by simpa using h2]
        simp
      · rw [stepW_no h1 h2, ih, n1, show (x == tKeep) = false by simpa using h2]
        simp
theorem closes_says (vs : List (List UInt8)) (old : Bool) : closesL vs old = (saysL tClose vs || (old && !saysL tKeep vs)) := by
  unfold closesL
  rw [fold_says, saysL_flat, saysL_flat]
theorem ext_mid {S : ByteArray} (f j : Nat) : S.extract f j = ⟨((S.data.toList.take j).drop f).toArray⟩ := ba_eq (by rw [ByteArray.data_extract]; simp [List.drop_take])
set_option maxRecDepth 100000 in
set_option maxHeartbeats 1000000 in
theorem rsays_any {w : World} {A : Option Addr} {c : Nat} {ls : List (List UInt8)} (wd : List UInt8) (h : sK.Reads w w.heap.size A ls) (hc : ls.length ≤ c) (hl : ls.length ≤ 64) (hz : ∀ x ∈ ls, x.length ≤ 1000000) :
    Calls Tryd.prog 26 #[.slice A ls.length c, .string ⟨wd.toArray⟩] w fun e w' => e = .returned (.bool (saysL wd ls)) ∧ Below w.heap.size w w' := by
  have HRD := Lib.hid h
  obtain ⟨n, hn⟩ : ∃ n, n = ls.length := ⟨_, rfl⟩
  rw [← hn] at hc hl ⊢
  have HN := Lib.hid hn
  have HZ := Lib.hid hz
  clear h hn hz
  go_enter Tryd.func26, Tryd.ntmps26
  go_wp2
  go_loopw [5] (fun i wr => ∃ k : Nat, k ≤ n ∧ i = .int .i64 k ∧ Hid (saysL wd (ls.take k) = false) ∧ Hid (Below w.heap.size w wr)) (fun i _ => n - (intOf i).toNat)
  case atStart => exact ⟨0, Nat.zero_le _, rfl, Lib.hid rfl, Lib.hid (Below.refl _ _)⟩
  case round =>
    obtain ⟨k, hk, rfl, HK, HB⟩ := hrel
    by_cases hlt : k < n
    · obtain ⟨x, hx⟩ : ∃ x, ls[k]? = some x := ⟨_, List.getElem?_eq_getElem (by rw [← HN.out]; exact hlt)⟩
      obtain ⟨g, off, hA, -, hxk⟩ := sK_at (HRD.out.below HB.out) hx
      subst hA
      have hlt' : (k : Int) < (n : Int) := by omega
      have HXZ := Lib.hid (HZ.out x (List.mem_of_getElem? hx))
      have HSN := Lib.hid (saysL_at (wd := wd) hx)
      have HSY := Lib.hid (fun h1 => saysL_yes (wd := wd) hx h1)
      obtain ⟨S, hS⟩ : ∃ S : ByteArray, S = ⟨x.toArray⟩ := ⟨_, rfl⟩
      have hSl : S.data.toList = x := by rw [hS]
      have HSC : Hid (∀ W, Hid (Below w.heap.size w W) → W.cell? ⟨g, off + k, none⟩ = some (.string S)) := Lib.hid (fun W hb => by
        obtain ⟨g2, off2, hA2, -, hxk2⟩ := sK_at (HRD.out.below hb.out) hx
        obtain ⟨rfl, rfl⟩ : g = g2 ∧ off = off2 := by injection hA2 with h; injection h with h1 h2; exact ⟨h1, h2⟩
        rw [hS]; exact hxk2)
      rw [← hS] at hxk
      have HSL := Lib.hid hSl
      have HSS := Lib.hid (show S.size = x.length by rw [Lib.size_eq, hSl])
      have hSb : S.size ≤ 1000000 := by rw [HSS.out]; exact HXZ.out
      have HX := Lib.hid hx
      clear hS hSl hx
      go_wp2_with fail
      go_loopw [6, 7] (fun fv jv wq => ∃ f j : Nat, f ≤ j ∧ j ≤ S.size + 1 ∧ fv = .int .i64 f ∧ jv = .int .i64 j ∧ Hid (j ≤ S.size → Left wd x f j) ∧ Hid (S.size < j → saysW wd x = false) ∧ Hid (Below w.heap.size w wq)) (fun _ jv _ => S.size + 1 - (intOf jv).toNat)
      case atStart => exact ⟨0, 0, Nat.le_refl _, Nat.zero_le _, rfl, rfl, Lib.hid (fun _ => left_start wd x), Lib.hid (fun h => by omega), HB⟩
      case round =>
        obtain ⟨f, j, hfj0, hj, rfl, rfl, HLE, HOV, HBQ⟩ := hrel
        have hcell := HSC.out _ HBQ
        by_cases hjl : j ≤ S.size
        · have HLF := Lib.hid (HLE.out hjl)
          have hjl' : (j : Int) ≤ (S.size : Int) := by omega
          by_cases hje : j = S.size
          · have hji : (j : Int) = (S.size : Int) := by omega
            have hpe := ext_mid (S := S) f j
            rw [HSL.out] at hpe
            have HPZ := Lib.hid (show ((x.take j).drop f).length ≤ 1000000 by rw [List.length_drop, List.length_take]; have := HXZ.out; omega)
            have HWT := Lib.hid (fun hb : (smallL (trimL ((x.take j).drop f)) == wd) = true => show saysW wd x = true by rw [hje, HSS.out] at hb HLF; rw [left_end HLF.out]; exact hb)
            have HWF := Lib.hid (fun hb : (smallL (trimL ((x.take j).drop f)) == wd) = false => show Hid (j + 1 ≤ S.size → Left wd x (j + 1) (j + 1)) ∧ Hid (S.size < j + 1 → saysW wd x = false) from ⟨Lib.hid (fun h => by omega), Lib.hid (fun _ => by rw [hje, HSS.out] at hb HLF; rw [left_end HLF.out]; exact hb)⟩)
            generalize (x.take j).drop f = a at hpe HPZ HWF HWT
            have HTR : Hid (∀ W, Calls Tryd.prog 45 #[.string ⟨a.toArray⟩] W fun e w' => e = .returned (.string ⟨(trimL a).toArray⟩) ∧ W = w') := Lib.hid (fun W => rtrim_any ⟨a.toArray⟩ W (by rw [Lib.size_eq]; exact HPZ.out))
            have HSM : Hid (∀ W, Hid (Below w.heap.size w W) → Calls Tryd.prog 25 #[.string ⟨(trimL a).toArray⟩] W fun e w' => e = .returned (.string ⟨(smallL (trimL a)).toArray⟩) ∧ Below w.heap.size w w') := Lib.hid (fun W hq => (rsmall_any ⟨(trimL a).toArray⟩ W (by rw [Lib.size_eq]; have := HPZ.out; have := trimL_len a; show (trimL a).length ≤ _; omega)).mono (by rintro e w' ⟨rfl, hb⟩; exact ⟨rfl, hq.out.trans (hb.mono hq.out.size)⟩))
            have hfj : (f : Int) ≤ (j : Int) := by omega
            have hjs : (j : Int) ≤ (S.size : Int) := by omega
            subst hje
            clear hji
            generalize smallL (trimL a) = T at HSM HWF HWT
            by_cases hTw : T = wd
            · have bq : (T == wd) = true := by simpa using hTw
              have HR := Lib.hid (HSY.out (HWT.out bq))
              rw [hTw] at HSM
              clear hTw bq HWF HWT
              go_wp2_with (first | (go_at_call 45; refine (HTR.out _).mono ?_; rintro e w1 ⟨rfl, rfl⟩) | (go_at_call 25; refine (HSM.out _ HBQ).mono ?_; rintro e w1 ⟨rfl, hb1⟩; have HB1 := Lib.hid hb1; clear hb1))
              go_ret
              exact ⟨ret_bool' HR.out.symm, HB1.out⟩
            · have bq : (T == wd) = false := by simpa using hTw
              have HNX := Lib.hid (HWF.out bq)
              clear hTw HWF HWT
              go_wp2_with (first | (go_at_call 45; refine (HTR.out _).mono ?_; rintro e w1 ⟨rfl, rfl⟩) | (go_at_call 25; refine (HSM.out _ HBQ).mono ?_; rintro e w1 ⟨rfl, hb1⟩; have HB1 := Lib.hid hb1; clear hb1))
              go_round
              case rel => exact ⟨S.size + 1, S.size + 1, by omega, by omega, by go_num, by go_num, HNX.out.1, HNX.out.2, HB1⟩
              case measure => simp [intOf] <;> omega
          · have hjlt : j < S.size := by omega
            obtain ⟨ch, hc1, hcl⟩ := data_at S j hjlt
            rw [HSL.out] at hcl
            have hjlt' : (j : Int) < (S.size : Int) := by omega
            have hji : ((j : Int) == (S.size : Int)) = false := by simp; omega
            by_cases h44 : ch = 44
            · subst h44
              have h44' := hcl
              clear hcl
              have hpe := ext_mid (S := S) f j
              rw [HSL.out] at hpe
              have HPZ := Lib.hid (show ((x.take j).drop f).length ≤ 1000000 by rw [List.length_drop, List.length_take]; have := HXZ.out; omega)
              have HWT := Lib.hid (fun hb : (smallL (trimL ((x.take j).drop f)) == wd) = true => show saysW wd x = true by rw [left_comma HLF.out h44', hb]; rfl)
              have HWF := Lib.hid (fun hb : (smallL (trimL ((x.take j).drop f)) == wd) = false => show Hid (j + 1 ≤ S.size → Left wd x (j + 1) (j + 1)) ∧ Hid (S.size < j + 1 → saysW wd x = false) from ⟨Lib.hid (fun _ => left_go HLF.out h44' hb), Lib.hid (fun h => by omega)⟩)
              generalize (x.take j).drop f = a at hpe HPZ HWF HWT
              have HTR : Hid (∀ W, Calls Tryd.prog 45 #[.string ⟨a.toArray⟩] W fun e w' => e = .returned (.string ⟨(trimL a).toArray⟩) ∧ W = w') := Lib.hid (fun W => rtrim_any ⟨a.toArray⟩ W (by rw [Lib.size_eq]; exact HPZ.out))
              have HSM : Hid (∀ W, Hid (Below w.heap.size w W) → Calls Tryd.prog 25 #[.string ⟨(trimL a).toArray⟩] W fun e w' => e = .returned (.string ⟨(smallL (trimL a)).toArray⟩) ∧ Below w.heap.size w w') := Lib.hid (fun W hq => (rsmall_any ⟨(trimL a).toArray⟩ W (by rw [Lib.size_eq]; have := HPZ.out; have := trimL_len a; show (trimL a).length ≤ _; omega)).mono (by rintro e w' ⟨rfl, hb⟩; exact ⟨rfl, hq.out.trans (hb.mono hq.out.size)⟩))
              have hfj : (f : Int) ≤ (j : Int) := by omega
              have hjs : (j : Int) ≤ (S.size : Int) := by omega
              clear h44'
              generalize smallL (trimL a) = T at HSM HWF HWT
              by_cases hTw : T = wd
              · have bq : (T == wd) = true := by simpa using hTw
                have HR := Lib.hid (HSY.out (HWT.out bq))
                rw [hTw] at HSM
                clear hTw bq HWF HWT
                go_wp2_with (first | (go_at_call 45; refine (HTR.out _).mono ?_; rintro e w1 ⟨rfl, rfl⟩) | (go_at_call 25; refine (HSM.out _ HBQ).mono ?_; rintro e w1 ⟨rfl, hb1⟩; have HB1 := Lib.hid hb1; clear hb1))
                go_ret
                exact ⟨ret_bool' HR.out.symm, HB1.out⟩
              · have bq : (T == wd) = false := by simpa using hTw
                have HNX := Lib.hid (HWF.out bq)
                clear hTw HWF HWT
                go_wp2_with (first | (go_at_call 45; refine (HTR.out _).mono ?_; rintro e w1 ⟨rfl, rfl⟩) | (go_at_call 25; refine (HSM.out _ HBQ).mono ?_; rintro e w1 ⟨rfl, hb1⟩; have HB1 := Lib.hid hb1; clear hb1))
                go_round
                case rel => exact ⟨j + 1, j + 1, by omega, by omega, by go_num, by go_num, HNX.out.1, HNX.out.2, HB1⟩
                case measure => simp [intOf] <;> omega
            · have HNX := Lib.hid (left_next HLF.out hcl h44)
              have g1 : ((ch.toNat : Int) == 44) = false := by
                rw [beq_eq_false_iff_ne]
                intro h
                exact h44 (UInt8.toNat_inj.1 (show ch.toNat = 44 by omega))
              clear h44 hcl
              go_wp2_with fail
              go_round
              case rel => exact ⟨f, j + 1, by omega, by omega, rfl, by go_num, Lib.hid (fun _ => HNX.out), Lib.hid (fun h => by omega), HBQ⟩
              case measure => simp [intOf] <;> omega
        · have hjg : decide ((j : Int) ≤ (S.size : Int)) = false := by simp; omega
          have HNO := Lib.hid (HOV.out (by omega))
          go_wp2_with fail
          go_round
          case rel => exact ⟨k + 1, by omega, by go_num, Lib.hid (by rw [HSN.out, HK.out, HNO.out]; rfl), HBQ⟩
          case measure => simp [intOf] <;> omega
    · have hge : decide ((k : Int) < (n : Int)) = false := by simp; omega
      have HR := Lib.hid (show saysL wd ls = false by rw [← HK.out, List.take_of_length_le (by rw [← HN.out]; omega)])
      go_wp2_with fail
      go_ret
      exact ⟨ret_bool' HR.out.symm, HB.out⟩
end Go.Proofs.YtnkpdnbnheffeaaDoor
