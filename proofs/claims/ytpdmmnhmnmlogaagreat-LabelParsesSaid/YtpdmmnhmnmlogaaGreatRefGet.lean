/- The document's With and Get. -/
import Derived.Test.YtpdmmnhmnmlogaaGreatRefParse3
import Derived.Test.YtpdmmnhmnmlogaaGreatLabGet
namespace Go.Proofs.YtpdmmnhmnmlogaaGreat
open Go.RowKit

set_option maxRecDepth 100000 in
set_option maxHeartbeats 4000000 in
theorem rwith_any (A : Option Addr) (cap : Nat) (s : ByteArray) (l : List Lbl) (w : World) (hs : s.size ≤ 3000) (hl : l.length ≤ 100) (hsm : smallL l) (hr : LReads w w.heap.size A l) :
    Calls Tryz.prog 11 #[.string s, .slice A l.length cap] w (NamePost (withP (parseP s.data.toList) l) w) := by
  have HP := Lib.hid (rparse_any s w hs)
  have HSM := Lib.hid hsm
  have HR := Lib.hid hr
  have HPS := Lib.hid (fun mm ls (h : parseP s.data.toList = some (mm, ls)) => parseP_small h)
  obtain ⟨o, ho⟩ : ∃ o, o = parseP s.data.toList := ⟨_, rfl⟩
  rw [← ho] at HP HPS ⊢
  clear hsm hr ho
  go_enter Tryz.func11, Tryz.ntmps11
  go_wp2_with fail
  refine (Hid.out HP).mono ?_
  rintro e w1 ⟨h, hb⟩
  have HB := Lib.hid hb
  rcases h with ⟨mm, ls, v, rfl, rfl, hown⟩ | ⟨rfl, rfl⟩
  · obtain ⟨p1, p2, p3⟩ := HPS.out mm ls rfl
    have hB : w.heap.size ≤ w1.heap.size := HB.out.size
    have HOWN := Lib.hid hown
    obtain ⟨A1, c1, rfl, hrd, _, _⟩ := hown.reads
    have HRD := Lib.hid hrd
    have HS := Lib.hid (show smallL (ls ++ l) from fun x hx => by
      rcases List.mem_append.1 hx with h | h
      · exact p3 x h
      · exact HSM.out x h)
    have HMS := Lib.hid (show (⟨mm.toArray⟩ : ByteArray).size ≤ 1000000 by rw [Lib.size_eq]; show mm.length ≤ _; omega)
    have HLEN := Lib.hid (show (ls ++ l).length ≤ 116 by rw [List.length_append]; omega)
    have HL1 := Lib.hid (show ([] : List Lbl).length + ls.length ≤ 100000 by simp; omega)
    have HL2 := Lib.hid (show ([] ++ ls).length + l.length ≤ 100000 by simp; omega)
    have HW := Lib.hid (show withP (some (mm, ls)) l = nameP mm (ls ++ l) from rfl)
    have HR1 := Lib.hid (HR.out.below hb)
    clear hb hown hrd p2 p3
    go_wp2_with (at_builtin; first | (refine wpList_append_lblsA rfl (.const (.slice none 0 0)) (.tmp 19) rfl w1.heap.size (.slice none 0 0) [] rfl (World.ownsRow_nil _ _ _ _) w1.heap.size A1 ls c1 rfl HRD.out HL1.out (Nat.le_refl _) ?_; intro v2 w2 hown2 hb2; have HO2 := Lib.hid hown2; have HB2 := Lib.hid hb2; have hB2 : w1.heap.size ≤ w2.heap.size := HB2.out.size; clear hown2 hb2) | (refine wpList_append_lblsA rfl (.tmp 20) (.tmp 21) rfl w1.heap.size v2 ([] ++ ls) rfl HO2.out w.heap.size A l cap rfl (HR1.out.keep (fun p hp => HB2.out.cell (Nat.lt_of_lt_of_le hp hB))) HL2.out hB2 ?_; intro v3 w3 hown3 hb3; have HO3 := Lib.hid hown3; have HB3 := Lib.hid (HB2.out.trans hb3); clear hown3 hb3))
    have HO4 := Lib.hid (show OwnedL w1.heap.size w3 v3 (ls ++ l) by simpa using HO3.out)
    generalize ls ++ l = L at HO4 HS HLEN HW
    obtain ⟨A3, c3, rfl, hrd3, _, _⟩ := HO4.out.reads
    have HN := Lib.hid (rname_any A3 c3 ⟨mm.toArray⟩ L w3 HMS.out (by have := HLEN.out; omega) HS.out hrd3)
    change Hid (Calls Tryz.prog 21 _ w3 (NamePost (nameP mm L) w3)) at HN
    have HB4 := Lib.hid (HB.out.trans (HB3.out.mono hB))
    clear hrd3
    refine (Hid.out HN).mono ?_
    rintro e w4 ⟨rfl, hb4⟩
    have HB5 := Lib.hid (HB4.out.trans (hb4.mono HB4.out.size))
    clear hb4
    go_wp2
    go_ret2
    rw [HW.out]
    exact ⟨rfl, HB5.out⟩
  · clear hb
    go_wp2
    go_ret2
    exact ⟨rfl, HB.out⟩
set_option maxRecDepth 100000 in
set_option maxHeartbeats 4000000 in
theorem rget_any (s n : ByteArray) (w : World) (hs : s.size ≤ 3000) :
    Calls Tryz.prog 15 #[.string s, .string n] w (GetPost (getP (parseP s.data.toList) n.data.toList) w) := by
  have HP := Lib.hid (rparse_any s w hs)
  have HLL := Lib.hid (fun mm ls (h : parseP s.data.toList = some (mm, ls)) => (parseP_small h).1)
  generalize parseP s.data.toList = o at HP HLL ⊢
  go_enter Tryz.func15, Tryz.ntmps15
  go_wp2_with fail
  refine (Hid.out HP).mono ?_
  rintro e w1 ⟨h, hb⟩
  have HB := Lib.hid hb
  rcases h with ⟨mm, l, v, rfl, rfl, hown⟩ | ⟨rfl, rfl⟩
  · have hl := HLL.out mm l rfl
    obtain ⟨A, cap, rfl, hrd, _, _⟩ := hown.reads
    have HRD := Lib.hid hrd
    clear hown hrd hb
    go_wp2
    go_loopw [9] (fun i wr => ∃ k : Nat, k ≤ l.length ∧ i = .int .i64 k ∧ Hid (∀ j y, j < k → l[j]? = some y → y.1 ≠ n.data.toList) ∧ w1 = wr) (fun i _ => l.length - (intOf i).toNat)
    case atStart => exact ⟨0, Nat.zero_le _, rfl, Lib.hid (fun j y h => by omega), rfl⟩
    case round =>
      obtain ⟨k, hk, rfl, HNE, rfl⟩ := hrel
      by_cases hlt : k < l.length
      · obtain ⟨x, hx⟩ : ∃ x, l[k]? = some x := ⟨_, List.getElem?_eq_getElem hlt⟩
        obtain ⟨b, off, rfl, hb, hc⟩ := HRD.out.at (by omega)
        have hc1 := (hc k x hx).1
        have hc2 := (hc k x hx).2
        unfold strV at hc1 hc2
        have hlt' : (k : Int) < (l.length : Int) := by omega
        have hk0 : (0 : Int) ≤ (k : Int) := by omega
        by_cases he : x.1 = n.data.toList
        · have HE := Lib.hid (show getP (some (mm, l)) n.data.toList = some x.2 from getL_at hx HNE.out he)
          obtain rfl : n = ⟨x.1.toArray⟩ := ba_eq he.symm
          clear hc hx he
          go_wp2
          go_ret2
          rw [show getP (some (mm, l)) x.1 = some x.2 from HE.out]
          exact ⟨rfl, HB.out⟩
        · have he1 : ((⟨x.1.toArray⟩ : ByteArray).toList == n.toList) = false := by
            rw [toList_eq, Lib.toList_data]
            simpa using he
          have he2 : (x.1 == n.toList) = false := by
            rw [Lib.toList_data]
            simpa using he
          have HNE1 := Lib.hid (show ∀ j y, j < k + 1 → l[j]? = some y → y.1 ≠ n.data.toList from fun j y h1 h2 => by
            rcases Nat.lt_or_ge j k with h | h
            · exact HNE.out j y h h2
            · obtain rfl : j = k := by omega
              rw [hx] at h2
              cases h2
              exact he)
          clear hc hx he
          go_wp2
          go_roundw
          case rel => exact ⟨k + 1, by omega, by go_num, HNE1, trivial⟩
          case measure => simp [intOf] <;> omega
      · have hge : decide ((k : Int) < (l.length : Int)) = false := by simp; omega
        have HE := Lib.hid (show getP (some (mm, l)) n.data.toList = none from (getL_none (fun j y h => HNE.out j y (by have := (List.getElem?_eq_some_iff.1 h).1; omega) h)))
        go_wp2
        go_ret2
        rw [HE.out]
        exact ⟨rfl, HB.out⟩
  · clear hb
    go_wp2
    refine wp_loop_rounds 1 ?_
    rw [rounds_succ]
    go_wp2
    go_ret2
    exact ⟨rfl, HB.out⟩
end Go.Proofs.YtpdmmnhmnmlogaaGreat
