/- The program's Get: a label's value, if there is one. -/
import Derived.Test.YtpdmmnhmnmlogaaGreatLabParse
import Derived.Test.YtpdmmnhmnmlogaaGreatLabName
import Derived.Test.YtpdmmnhmnmlogaaGreatRefMem
namespace Go.Proofs.YtpdmmnhmnmlogaaGreat
open Go.RowKit

def getL (n : List UInt8) : List Lbl → Option (List UInt8)
  | [] => none
  | x :: l => if x.1 = n then some x.2 else getL n l
def getP (o : Option (List UInt8 × List Lbl)) (n : List UInt8) : Option (List UInt8) :=
  match o with
  | none => none
  | some (_, l) => getL n l
theorem getL_at {n : List UInt8} : ∀ {l : List Lbl} {k : Nat} {x : Lbl}, l[k]? = some x → (∀ (j : Nat) (y : Lbl), j < k → l[j]? = some y → y.1 ≠ n) → x.1 = n → getL n l = some x.2
  | y :: l, 0, x, h, _, hx => by
    simp at h
    subst h
    unfold getL
    rw [if_pos hx]
  | y :: l, k + 1, x, h, hn, hx => by
    unfold getL
    rw [if_neg (hn 0 y (Nat.succ_pos _) rfl)]
    exact getL_at (by simpa using h) (fun j z hj hz => hn (j + 1) z (by omega) (by simpa using hz)) hx
theorem getL_none {n : List UInt8} : ∀ {l : List Lbl}, (∀ (j : Nat) (y : Lbl), l[j]? = some y → y.1 ≠ n) → getL n l = none
  | [], _ => rfl
  | y :: l, hn => by
    unfold getL
    rw [if_neg (hn 0 y rfl)]
    exact getL_none (fun j z hz => hn (j + 1) z (by simpa using hz))
def GetPost (o : Option (List UInt8)) (w : World) (e : Ending) (w' : World) : Prop := e = .returned (.tuple #[.string ⟨(nameS o).toArray⟩, .bool o.isSome]) ∧ Below w.heap.size w w'
set_option maxRecDepth 100000 in
set_option maxHeartbeats 4000000 in
theorem get_any (s n : ByteArray) (m : Int) (w : World) (hs : s.size ≤ 100000) (hm : ML m w) :
    Calls Tryz.prog 14 #[.string s, .string n] w (GetPost (getP (parseP s.data.toList) n.data.toList) w) := by
  have HP := Lib.hid (parse_any s m w hs hm)
  have HLL := Lib.hid (fun mm ls (h : parseP s.data.toList = some (mm, ls)) => (show ls.length ≤ 16 by
    have hv := (parseP_sound h).1
    unfold validB at hv
    rw [Bool.and_eq_true, decide_eq_true_eq] at hv
    exact hv.2))
  generalize parseP s.data.toList = o at HP HLL ⊢
  clear hm
  go_enter Tryz.func14, Tryz.ntmps14
  go_wp2_with fail
  refine (Hid.out HP).mono ?_
  rintro e w1 ⟨h, hb⟩
  have HB := Lib.hid hb
  rcases h with ⟨mm, l, v, rfl, rfl, hown⟩ | ⟨rfl, rfl⟩
  · have hl := HLL.out mm l rfl
    obtain ⟨A, cap, rfl, hrd, _, _⟩ := hown.reads
    have HRD := Lib.hid hrd
    clear hown hrd hb
    go_wp2
    go_loopw [19] (fun i wr => ∃ k : Nat, k ≤ l.length ∧ i = .int .i64 k ∧ Hid (∀ j y, j < k → l[j]? = some y → y.1 ≠ n.data.toList) ∧ Hid (Below w1.heap.size w1 wr) ∧ w1.heap.size ≤ wr.heap.size) (fun i _ => l.length - (intOf i).toNat)
    case atStart => exact ⟨0, Nat.zero_le _, rfl, Lib.hid (fun j y h => by omega), Lib.hid (Below.refl _ _), Nat.le_refl _⟩
    case round =>
      obtain ⟨k, hk, rfl, HNE, HBR, hBr⟩ := hrel
      by_cases hlt : k < l.length
      · obtain ⟨x, hx⟩ : ∃ x, l[k]? = some x := ⟨_, List.getElem?_eq_getElem hlt⟩
        obtain ⟨b, off, rfl, hb, hc⟩ := HRD.out.at (by omega)
        have hc1 := (HBR.out.cell (p := ⟨b, off + k * 2, none⟩) hb).trans (hc k x hx).1
        have hc2 := (HBR.out.cell (p := ⟨b, off + k * 2 + 1, none⟩) hb).trans (hc k x hx).2
        unfold strV at hc1 hc2
        have hlt' : (k : Int) < (l.length : Int) := by omega
        have hk0 : (0 : Int) ≤ (k : Int) := by omega
        have HBA := Lib.hid (fun (o1 o2 : Obj) => (show Below w1.heap.size w1 ((wr.alloc o1)) from HBR.out.alloc hBr _))
        by_cases he : x.1 = n.data.toList
        · have HE := Lib.hid (show getP (some (mm, l)) n.data.toList = some x.2 from getL_at hx HNE.out he)
          obtain rfl : n = ⟨x.1.toArray⟩ := ba_eq he.symm
          clear hc hx he
          go_wp2
          go_ret2
          rw [show getP (some (mm, l)) x.1 = some x.2 from HE.out]
          exact ⟨rfl, HB.out.trans ((by first | exact (HBR.out.alloc hBr _) | exact (HBR.out.alloc hBr _).setCell hBr _ : Below w1.heap.size w1 _).mono HB.out.size)⟩
        · have he1 : ((⟨x.1.toArray⟩ : ByteArray).toList == n.toList) = false := by
            rw [toList_eq, Lib.toList_data]
            simpa using he
          have he2 : (x.1 == n.toList) = false := by
            rw [Lib.toList_data]
            simpa using he
          have HNE1 := Lib.hid (show ∀ j y, j < k + 1 → l[j]? = some y → y.1 ≠ n.data.toList from fun j y h1 h2 => by
            rcases Nat.lt_or_ge j k with h | h
            · exact HNE.out j y h h2
            · obtain rfl : j = k := by omega
              rw [hx] at h2
              cases h2
              exact he)
          clear hc hx he
          go_wp2
          go_roundw
          case rel => exact ⟨k + 1, by omega, by go_num, HNE1, Lib.hid (by first | exact (HBR.out.alloc hBr _) | exact (HBR.out.alloc hBr _).setCell hBr _), by simp; omega⟩
          case measure => simp [intOf] <;> omega
      · have hge : decide ((k : Int) < (l.length : Int)) = false := by simp; omega
        have HE := Lib.hid (show getP (some (mm, l)) n.data.toList = none from (getL_none (fun j y h => HNE.out j y (by have := (List.getElem?_eq_some_iff.1 h).1; omega) h)))
        go_wp2
        go_ret2
        rw [HE.out]
        exact ⟨rfl, HB.out.trans (HBR.out.mono HB.out.size)⟩
  · clear hb
    go_wp2
    refine wp_loop_rounds 1 ?_
    rw [rounds_succ]
    go_wp2
    go_ret2
    exact ⟨rfl, HB.out⟩
end Go.Proofs.YtpdmmnhmnmlogaaGreat
