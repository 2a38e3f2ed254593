/- A slice of texts, and whether a text is one of them (slices.Contains). -/
import Derived.Test.YtpdmmnhmnmlogaaGreatRefMem
namespace Go.Proofs.YtpdmmnhmnmlogaaGreat
open Go.RowKit

def SReads (w : World) (B : Nat) (A : Option Addr) (l : List (List UInt8)) : Prop :=
  l = [] ∨ ∃ b off, A = some ⟨b, off, none⟩ ∧ b < B ∧ ∀ j s, l[j]? = some s → w.cell? ⟨b, off + j, none⟩ = some (strV s)
theorem SReads.keep {w w' : World} {B : Nat} {A : Option Addr} {l : List (List UInt8)} (h : SReads w B A l) (hk : ∀ p : Addr, p.block < B → w'.cell? p = w.cell? p) : SReads w' B A l := by
  rcases h with h | ⟨b, off, h1, h2, h3⟩
  · exact .inl h
  · exact .inr ⟨b, off, h1, h2, fun j s hj => (hk ⟨b, off + j, none⟩ h2).trans (h3 j s hj)⟩
theorem SReads.below {w w' : World} {B : Nat} {A : Option Addr} {l : List (List UInt8)} (h : SReads w B A l) (hb : Below B w w') : SReads w' B A l := h.keep fun _ hp => hb.cell hp
theorem SReads.more {w : World} {B B' : Nat} {A : Option Addr} {l : List (List UInt8)} (h : SReads w B A l) (hB : B ≤ B') : SReads w B' A l := by
  rcases h with h | ⟨b, off, h1, h2, h3⟩
  · exact .inl h
  · exact .inr ⟨b, off, h1, Nat.lt_of_lt_of_le h2 hB, h3⟩
theorem SReads.at {w : World} {B : Nat} {A : Option Addr} {l : List (List UInt8)} (h : SReads w B A l) (hl : 0 < l.length) : ∃ b off, A = some ⟨b, off, none⟩ ∧ b < B ∧ ∀ j s, l[j]? = some s → w.cell? ⟨b, off + j, none⟩ = some (strV s) := by
  rcases h with rfl | h
  · simp at hl
  · exact h

/-- Where a text first stands, or -1. -/
def IdxP (x : List UInt8) (l : List (List UInt8)) (i : Int) : Prop := (x ∈ l ∧ 0 ≤ i ∧ i ≤ 1000) ∨ (x ∉ l ∧ i = -1)
set_option maxRecDepth 100000 in
set_option maxHeartbeats 4000000 in
theorem index_str (A : Option Addr) (cap : Nat) (l : List (List UInt8)) (x : ByteArray) (w : World) (hl : l.length ≤ 1000) (hr : SReads w w.heap.size A l) :
    Calls Tryz.prog 40 #[.slice A l.length cap, .string x] w fun e w' => (∃ i, e = .returned (.int .i64 i) ∧ IdxP x.data.toList l i) ∧ w = w' := by
  have HR := Lib.hid hr
  clear hr
  go_enter Tryz.func40, Tryz.ntmps40
  go_wp2
  go_loopw [8] (fun i wr => ∃ k : Nat, k ≤ l.length ∧ i = .int .i64 k ∧ Hid (∀ (j : Nat) (y : List UInt8), j < k → l[j]? = some y → y ≠ x.data.toList) ∧ wr = w) (fun i _ => l.length - (intOf i).toNat)
  case atStart => exact ⟨0, Nat.zero_le _, rfl, Lib.hid (fun j y h => by omega), rfl⟩
  case round =>
    obtain ⟨k, hk, rfl, HNE, rfl⟩ := hrel
    by_cases hlt : k < l.length
    · obtain ⟨y, hy⟩ : ∃ y, l[k]? = some y := ⟨_, List.getElem?_eq_getElem hlt⟩
      obtain ⟨b, off, rfl, hb, hc⟩ := HR.out.at (by omega)
      have hc1 := hc k y hy
      unfold strV at hc1
      have hlt' : (k : Int) < (l.length : Int) := by omega
      have hk0 : (0 : Int) ≤ (k : Int) := by omega
      by_cases he : y = x.data.toList
      · have HM := Lib.hid (show y ∈ l from List.mem_of_getElem? hy)
        obtain rfl : x = ⟨y.toArray⟩ := ba_eq he.symm
        clear hc hy he
        go_wp2
        go_ret
        exact ⟨⟨_, rfl, .inl ⟨HM.out, by omega, by omega⟩⟩, rfl⟩
      · have he1 : (x.toList == (⟨y.toArray⟩ : ByteArray).toList) = false := by
          rw [toList_eq, Lib.toList_data]
          simpa using fun h : x.data.toList = y => he h.symm
        have he2 : (x.toList == y) = false := by
          rw [Lib.toList_data]
          simpa using fun h : x.data.toList = y => he h.symm
        have HNE1 := Lib.hid (show ∀ (j : Nat) (z : List UInt8), j < k + 1 → l[j]? = some z → z ≠ x.data.toList from fun j z h1 h2 => by
          rcases Nat.lt_or_ge j k with h | h
          · exact HNE.out j z h h2
          · obtain rfl : j = k := by omega
            rw [hy] at h2
            cases h2
            exact he)
        clear hc hy he
        go_wp2
        go_roundw
        case rel => exact ⟨k + 1, by omega, by go_num, HNE1, trivial⟩
        case measure => simp [intOf] <;> omega
    · have hge : decide ((k : Int) < (l.length : Int)) = false := by simp; omega
      have HN := Lib.hid (show x.data.toList ∉ l from fun hm => by
        obtain ⟨j, hj⟩ := List.getElem?_of_mem hm
        exact HNE.out j _ (by have := (List.getElem?_eq_some_iff.1 hj).1; omega) hj rfl)
      go_wp2
      go_ret
      exact ⟨⟨_, rfl, .inr ⟨HN.out, rfl⟩⟩, rfl⟩
theorem contains_str (A : Option Addr) (cap : Nat) (l : List (List UInt8)) (x : ByteArray) (w : World) (hl : l.length ≤ 1000) (hr : SReads w w.heap.size A l) :
    Calls Tryz.prog 26 #[.slice A l.length cap, .string x] w fun e w' => e = .returned (.bool (decide (x.data.toList ∈ l))) ∧ w = w' := by
  have HI := Lib.hid (index_str A cap l x w hl hr)
  clear hr
  go_enter Tryz.func26, Tryz.ntmps26
  go_wp2_with fail
  refine (Hid.out HI).mono ?_
  rintro e w' ⟨⟨i, rfl, h⟩, rfl⟩
  rcases h with ⟨hm, h0, h1⟩ | ⟨hm, rfl⟩
  · have hd := decide_eq_true hm
    have HD := Lib.hid hd
    clear hm hd
    go_wp2
    go_ret
    exact ⟨ret_bool' HD.out.symm, rfl⟩
  · have hd := decide_eq_false hm
    have HD := Lib.hid hd
    clear hm hd
    go_wp2
    go_ret
    exact ⟨ret_bool' HD.out.symm, rfl⟩
end Go.Proofs.YtpdmmnhmnmlogaaGreat
