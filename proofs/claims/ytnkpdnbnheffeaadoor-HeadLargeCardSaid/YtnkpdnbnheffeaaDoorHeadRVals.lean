/- The document's Values and Length. -/
import Derived.Test.YtnkpdnbnheffeaaDoorHeadRRead
import Derived.Test.YtnkpdnbnheffeaaDoorHeadTell
import Derived.Test.YtnkpdnbnheffeaaDoorHeadRMay
namespace Go.Proofs.YtnkpdnbnheffeaaDoor
open Go.RowKit

set_option maxRecDepth 100000 in
set_option maxHeartbeats 1000000 in
theorem rvalues_any (nm : List UInt8) {w : World} {A : Option Addr} {cap : Nat} {fs : List Fld} (h : fK.Reads w w.heap.size A fs) (hcap : fs.length ≤ cap) (hfs : fs.length ≤ 64) :
    Calls Tryd.prog 24 #[.slice A fs.length cap, .string ⟨nm.toArray⟩] w fun e w' => (∃ v', e = .returned v' ∧ sK.Own w.heap.size w' v' (valuesL nm fs)) ∧ Below w.heap.size w w' := by
  have HRD := Lib.hid h
  obtain ⟨n, hn⟩ : ∃ n, n = fs.length := ⟨_, rfl⟩
  rw [← hn] at hcap hfs ⊢
  have HN := Lib.hid hn
  clear h hn
  go_enter Tryd.func24, Tryd.ntmps24
  go_wp2
  go_loopw [5, 6] (fun vs i wr => ∃ (k : Nat) (vv : Value), vv = vs ∧ k ≤ n ∧ i = .int .i64 k ∧ Hid (sK.Own w.heap.size wr vv (valuesL nm (fs.take k))) ∧ Hid (Below w.heap.size w wr)) (fun _ i _ => n - (intOf i).toNat)
  case atStart => exact ⟨0, _, rfl, Nat.zero_le _, rfl, Lib.hid (EK.Own.nil _ _ (Nat.zero_le _)), Lib.hid (Below.refl _ _)⟩
  case round =>
    obtain ⟨k, vv, rfl, hk, rfl, HO, HB⟩ := hrel
    by_cases hlt : k < n
    · have hkl : k < fs.length := by rw [← HN.out]; exact hlt
      obtain ⟨x, hx⟩ : ∃ x, fs[k]? = some x := ⟨_, List.getElem?_eq_getElem hkl⟩
      have HSN := Lib.hid (valuesL_snoc (nm := nm) hx)
      obtain ⟨g, off, hA, hg, hx0, hx1⟩ := fK_at (HRD.out.below HB.out) hx
      subst hA
      have hlt' : (k : Int) < (n : Int) := by omega
      have HLEN := Lib.hid (show (valuesL nm (fs.take k)).length ≤ 64 by have := valuesL_len nm (fs.take k); rw [List.length_take] at this; omega)
      clear hx hkl hg
      by_cases hxe : x.1 = nm
      · rw [if_pos hxe] at HSN
        have bq : (x.1 == nm) = true := by simpa using hxe
        rw [hxe] at hx0
        have HRL := Lib.hid (EK.Reads.lone sOk (W := wr) (p := wr.heap.size) x.2 #[.string ⟨x.2.toArray⟩] 9 rfl rfl)
        have HOA := Lib.hid (HO.out.alloc (.cells #[.string ⟨x.2.toArray⟩] 9))
        have HBA := Lib.hid (HB.out.alloc HB.out.size (.cells #[.string ⟨x.2.toArray⟩] 9))
        have HLE := Lib.hid (show (valuesL nm (fs.take k)).length + [x.2].length ≤ 100000 by have := HLEN.out; simp; omega)
        clear hxe
        go_wp2_with (at_builtin; refine EK.wpList_append (K := sK) sOk rfl (.tmp 20) (.tmp 26) rfl w.heap.size vv _ rfl HOA.out _ _ [x.2] 1 1 rfl rfl HRL.out (by simp) HLE.out HBA.out.size ?_; intro v5 w5 hown5 ht5 hf5; have HO5 := Lib.hid hown5; have HB5 := Lib.hid (HBA.out.trans (ht5.below (fun i hi => (HOA.out.foot i hi).1) HBA.out.size)); clear hown5 ht5 hf5)
        go_round
        case rel => exact ⟨k + 1, v5, rfl, by omega, by go_num, Lib.hid (by rw [HSN.out]; exact HO5.out), HB5⟩
        case measure => simp [intOf] <;> omega
      · rw [if_neg hxe, List.append_nil] at HSN
        have bq : (x.1 == nm) = false := by simpa using hxe
        go_wp2_with fail
        go_round
        case rel => exact ⟨k + 1, vv, rfl, by omega, by go_num, Lib.hid (by rw [HSN.out]; exact HO.out), HB⟩
        case measure => simp [intOf] <;> omega
    · have hge : decide ((k : Int) < (n : Int)) = false := by simp; omega
      have HE := Lib.hid (show valuesL nm (fs.take k) = valuesL nm fs by rw [List.take_of_length_le (by rw [← HN.out]; omega)])
      go_wp2
      go_ret
      exact ⟨⟨_, rfl, HE.out ▸ HO.out⟩, HB.out⟩
def LgV (ls : List (List UInt8)) : Value := if agreeL ls = true then .tuple #[.int .i64 (if 0 < ls.length then (numL (ls.headD []) : Int) else -1), .bool true] else .tuple #[.int .i64 0, .bool false]
def eqK (a : List UInt8) (ls : List (List UInt8)) : Bool := ls.all (· == a)
theorem eqK_snoc {a : List UInt8} {ls : List (List UInt8)} {k : Nat} {x : List UInt8} (h : ls[k]? = some x) : eqK a (ls.take (k + 1)) = (eqK a (ls.take k) && (x == a)) := by
  unfold eqK
  rw [List.take_add_one, h]
  simp
theorem agree_split {ls : List (List UInt8)} {a : List UInt8} (h0 : ls[0]? = some a) : agreeL ls = (eqK a ls && isNum 1 15 a) := by
  have hd : ls.headD [] = a := by cases ls with | nil => cases h0 | cons x l => simpa using h0
  unfold agreeL eqK
  rw [hd, Bool.eq_iff_iff, Bool.and_eq_true, List.all_eq_true, List.all_eq_true]
  constructor
  · intro h
    refine ⟨fun x hx => ?_, ?_⟩
    · have := h x hx
      rw [Bool.and_eq_true] at this
      exact this.1
    · have := h a (List.mem_of_getElem? h0)
      rw [Bool.and_eq_true] at this
      exact this.2
  · rintro ⟨h1, h2⟩ x hx
    have hxa := h1 x hx
    rw [beq_iff_eq] at hxa
    rw [Bool.and_eq_true, hxa]
    exact ⟨by simp, h2⟩
set_option maxRecDepth 100000 in
set_option maxHeartbeats 1000000 in
theorem rlength_any {w : World} {A : Option Addr} {c : Nat} {ls : List (List UInt8)} (h : sK.Reads w w.heap.size A ls) (hc : ls.length ≤ c) (hl : ls.length ≤ 64) (hz : ∀ x ∈ ls, x.length ≤ 1000000) :
    Calls Tryd.prog 23 #[.slice A ls.length c] w fun e w' => e = .returned (LgV ls) ∧ Below w.heap.size w w' := by
  by_cases h0 : ls.length = 0
  · obtain rfl : ls = [] := List.eq_nil_of_length_eq_zero h0
    have HL := Lib.hid (show LgV [] = .tuple #[.int .i64 (-1), .bool true] by rfl)
    show Calls Tryd.prog _ #[.slice A 0 c] w _
    clear h hc hl hz h0
    go_enter Tryd.func23, Tryd.ntmps23
    go_wp2
    go_ret2
    exact ⟨by rw [HL.out]; rfl, Below.refl _ _⟩
  · obtain ⟨a, ha⟩ : ∃ a, ls[0]? = some a := ⟨_, List.getElem?_eq_getElem (by omega)⟩
    have HRD := Lib.hid h
    have HAS := Lib.hid (agree_split ha)
    have hd : ls.headD [] = a := by cases ls with | nil => cases ha | cons x l => simpa using ha
    have h0' : 0 < ls.length := by omega
    have HLV := Lib.hid (show LgV ls = if agreeL ls = true then .tuple #[.int .i64 (numL a : Int), .bool true] else .tuple #[.int .i64 0, .bool false] by unfold LgV; rw [if_pos h0', hd])
    have HAZ := Lib.hid (hz a (List.mem_of_getElem? ha))
    have HHA := Lib.hid ha
    obtain ⟨n, hn⟩ : ∃ n, n = ls.length := ⟨_, rfl⟩
    rw [← hn] at hc hl h0 ⊢
    have HN := Lib.hid hn
    clear h0'
    have h0i : (0 : Int) < (n : Int) := by omega
    have h0e : ((n : Int) == 0) = false := by simp; omega
    have h0n : (n == 0) = false := by simp; omega
    clear h hn hz ha hd
    go_enter Tryd.func23, Tryd.ntmps23
    go_wp2_with fail
    go_loopw [5] (fun i wr => ∃ k : Nat, k ≤ n ∧ i = .int .i64 k ∧ Hid (eqK a (ls.take k) = true) ∧ Hid (Below w.heap.size w wr)) (fun i _ => n - (intOf i).toNat)
    case atStart => exact ⟨0, Nat.zero_le _, rfl, Lib.hid rfl, Lib.hid (Below.refl _ _)⟩
    case round =>
      obtain ⟨k, hk, rfl, HK, HB⟩ := hrel
      obtain ⟨g, off, hA, -, hx0⟩ := sK_at (HRD.out.below HB.out) HHA.out
      subst hA
      rw [Nat.add_zero] at hx0
      by_cases hlt : k < n
      · obtain ⟨x, hx⟩ : ∃ x, ls[k]? = some x := ⟨_, List.getElem?_eq_getElem (by rw [← HN.out]; exact hlt)⟩
        obtain ⟨g2, off2, hA2, -, hxk⟩ := sK_at (HRD.out.below HB.out) hx
        obtain ⟨rfl, rfl⟩ : g = g2 ∧ off = off2 := by injection hA2 with h; injection h with h1 h2; exact ⟨h1, h2⟩
        have HSN := Lib.hid (eqK_snoc (a := a) hx)
        have hlt' : (k : Int) < (n : Int) := by omega
        have HNF := Lib.hid (fun (hne : (x == a) = false) => show agreeL ls = false by
          rw [HAS.out, Bool.and_eq_false_iff]
          left
          unfold eqK
          rw [List.all_eq_false]
          exact ⟨x, List.mem_of_getElem? hx, by simp [hne]⟩)
        by_cases hxa : x = a
        · have bq : (x == a) = true := by simpa using hxa
          rw [hxa] at hxk HSN
          clear hxa hx hA2 HNF bq
          go_wp2
          go_region
          go_wp2
          go_round
          case rel => exact ⟨k + 1, by omega, by go_num, Lib.hid (by rw [HSN.out, HK.out]; simp), Lib.hid HB.out.drew⟩
          case measure => simp [intOf] <;> omega
        · have bq : (x == a) = false := by simpa using hxa
          have HR := Lib.hid (HNF.out bq)
          clear hxa hx hA2 HNF
          go_wp2
          go_region
          go_wp2
          go_ret2
          exact ⟨by rw [HLV.out, HR.out]; rfl, HB.out.drew⟩
      · have hge : decide ((k : Int) < (n : Int)) = false := by simp; omega
        have HE := Lib.hid (show eqK a ls = true by rw [← HK.out, List.take_of_length_le (by rw [← HN.out]; omega)])
        clear HK hk
        rw [HE.out, Bool.true_and] at HAS
        clear hl hc HN HRD HE HHA
        obtain ⟨S, hS⟩ : ∃ S : ByteArray, S = ⟨a.toArray⟩ := ⟨_, rfl⟩
        have hSl : S.data.toList = a := by rw [hS]
        rw [← hS] at hx0
        have HSL := Lib.hid hSl
        have HSZ := Lib.hid (show S.size = a.length by rw [Lib.size_eq, hSl])
        have hSb : S.size ≤ 1000000 := by rw [HSZ.out]; exact HAZ.out
        clear hS hSl
        by_cases hsz : S.size = 0
        · have hSe : S = ByteArray.empty := by simpa using hsz
          have HR := Lib.hid (show agreeL ls = false by rw [HAS.out]; unfold isNum; rw [← HSZ.out, hsz]; rfl)
          clear HSL HSZ hSb hsz HAS
          subst hSe
          go_wp2
          go_ret2
          exact ⟨by rw [HLV.out, HR.out]; rfl, HB.out⟩
        · have hSe : ¬ S = ByteArray.empty := by intro h; exact hsz (by rw [h]; rfl)
          have hs0 : ((S.size : Int) == 0) = false := by simp; omega
          by_cases hs15 : 15 < S.size
          · have hs1 : (15 : Int) < (S.size : Int) := by omega
            have HR := Lib.hid (show agreeL ls = false by rw [HAS.out]; unfold isNum; rw [← HSZ.out, decide_eq_false (by omega : ¬ S.size ≤ 15)]; simp)
            clear HAS
            go_wp2
            go_ret2
            exact ⟨by rw [HLV.out, HR.out]; rfl, HB.out⟩
          · have hs1 : (S.size : Int) ≤ 15 := by omega
            have HIN := Lib.hid (show isNum 0 15 a = a.all digB by unfold isNum; rw [← HSZ.out, decide_eq_true (by omega : S.size ≤ 15)]; simp)
            have HDG := Lib.hid (show agreeL ls = a.all digB by rw [HAS.out]; unfold isNum; rw [← HSZ.out, decide_eq_true (by omega : 1 ≤ S.size), decide_eq_true (by omega : S.size ≤ 15)]; simp)
            clear HAS
            have hs2 : S.size ≤ 15 := by omega
            have HDA := Lib.hid (fun c W => digit_any c W)
            go_wp2
            clear hsz hSe hs0 hs15 HAZ hge hlt
            go_loopw [4, 6] (fun nn i wr2 => ∃ k m : Nat, k ≤ S.size ∧ i = .int .i64 k ∧ nn = .int .i64 m ∧ m < 10 ^ k ∧ Hid (m = numL (a.take k)) ∧ Hid ((a.take k).all digB = true) ∧ wr2 = wr) (fun _ i _ => S.size - (intOf i).toNat)
            case atStart => exact ⟨0, 0, Nat.zero_le _, rfl, rfl, by decide, Lib.hid rfl, Lib.hid rfl, rfl⟩
            case round =>
              obtain ⟨k, m, hk, rfl, rfl, hm, HM, HD, rfl⟩ := hrel
              by_cases hlt : k < S.size
              · obtain ⟨ch, hc, hcl⟩ := data_at S k hlt
                rw [HSL.out] at hcl
                have hlt' : (k : Int) < (S.size : Int) := by omega
                have HT := Lib.hid (numL_take hcl)
                have HTA := Lib.hid (show (a.take (k + 1)).all digB = digB ch by rw [List.take_add_one, hcl, List.all_append, HD.out]; simp)
                have hmb : m ≤ 100000000000000 := by
                  have h2 : 10 ^ k ≤ 10 ^ 14 := Nat.pow_le_pow_right (by decide) (by omega)
                  have h3 : (10 : Nat) ^ 14 = 100000000000000 := by decide
                  omega
                have HNF := Lib.hid (fun (hne : digB ch = false) => show agreeL ls = false by
                  rw [HDG.out, List.all_eq_false]
                  exact ⟨ch, List.mem_of_getElem? hcl, by simp [hne]⟩)
                clear hcl
                cases hdg : digB ch with
                | true =>
                  have hd : 48 ≤ ch.toNat ∧ ch.toNat ≤ 57 := by unfold digB at hdg; rwa [decide_eq_true_eq] at hdg
                  have HDC := Lib.hid (HDA.out ch)
                  rw [hdg] at HDC HTA
                  obtain ⟨q, hq'⟩ : ∃ q : Int, q = (ch.toNat : Int) := ⟨_, rfl⟩
                  have HQ := Lib.hid hq'
                  have HP := Lib.hid (show 10 * m + (ch.toNat - 48) < 10 ^ (k + 1) by rw [Nat.pow_succ]; omega)
                  have hq0 : 48 ≤ q := by omega
                  have hq : q ≤ 57 := by omega
                  have hcn : (ch.toNat : Int) = q := hq'.symm
                  clear hq' hd hdg HNF HDA hm
                  rw [hcn] at HDC
                  go_wp2_with (go_at_call 44; refine (HDC.out _).mono ?_; rintro e w1 ⟨rfl, rfl⟩)
                  go_round
                  case rel => exact ⟨k + 1, 10 * m + (ch.toNat - 48), by omega, by go_num, by have := HQ.out; go_num, HP.out, Lib.hid (by rw [HT.out, HM.out]), HTA, trivial⟩
                  case measure => simp [intOf] <;> omega
                | false =>
                  have HR := Lib.hid (HNF.out hdg)
                  have HDC := Lib.hid (HDA.out ch)
                  rw [hdg] at HDC
                  clear hdg HNF HDA HTA
                  go_wp2_with (go_at_call 44; refine (HDC.out _).mono ?_; rintro e w1 ⟨rfl, rfl⟩)
                  go_ret2
                  exact ⟨by rw [HLV.out, HR.out]; rfl, HB.out⟩
              · have hge : decide ((k : Int) < (S.size : Int)) = false := by simp; omega
                have hkl : a.take k = a := List.take_of_length_le (by rw [← HSZ.out]; omega)
                have HE := Lib.hid (show m = numL a by rw [HM.out, hkl])
                have HR := Lib.hid (show agreeL ls = true by rw [HDG.out, ← HD.out, hkl])
                clear hkl
                go_wp2
                go_ret2
                exact ⟨by rw [HLV.out, HR.out, HE.out]; rfl, HB.out⟩
end Go.Proofs.YtnkpdnbnheffeaaDoor
