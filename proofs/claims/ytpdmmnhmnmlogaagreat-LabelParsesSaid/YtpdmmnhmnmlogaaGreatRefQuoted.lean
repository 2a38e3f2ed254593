/- The document's quoted: where the closing quote stands. -/
import Derived.Test.YtpdmmnhmnmlogaaGreatRefEsc
import Derived.Test.YtpdmmnhmnmlogaaGreatRefMem
namespace Go.Proofs.YtpdmmnhmnmlogaaGreat
open Go.RowKit

/-- Where the first quote stands before which no backslash does. -/
def qix : List UInt8 → Option Nat
  | [] => none
  | [c] => if c = 34 then some 0 else none
  | c :: d :: r => if c = 92 then (qix r).map (· + 2) else if c = 34 then some 0 else (qix (d :: r)).map (· + 1)
def qixI (l : List UInt8) (p : Nat) : Int := match qix l with
  | none => -1
  | some k => ((p + k : Nat) : Int)
theorem qixI_end (p : Nat) : qixI [] p = -1 := rfl
theorem qixI_quote (l : List UInt8) (p : Nat) : qixI (34 :: l) p = p := by
  cases l <;> simp [qixI, qix]
theorem qixI_slash (l : List UInt8) (p : Nat) : qixI (92 :: l) p = qixI (l.drop 1) (p + 2) := by
  cases l with
  | nil => simp [qixI, qix]
  | cons d r =>
    simp only [qixI, qix, if_true, List.drop_succ_cons, List.drop_zero]
    cases qix r with
    | none => rfl
    | some k => simp; omega
theorem qixI_else {c : UInt8} {l : List UInt8} (p : Nat) (h1 : c ≠ 92) (h2 : c ≠ 34) : qixI (c :: l) p = qixI l (p + 1) := by
  cases l with
  | nil => simp [qixI, qix, h2]
  | cons d r =>
    simp only [qixI, qix, if_neg h1, if_neg h2]
    cases qix (d :: r) with
    | none => rfl
    | some k => simp; omega
theorem qix_esc (r : List UInt8) : ∀ v : List UInt8, qix (escL v ++ 34 :: r) = some (escL v).length
  | [] => by cases r <;> simp [escL, qix]
  | c :: v => by
    have ih := qix_esc r v
    have e : escL (c :: v) = escL [c] ++ escL v := by simp [escL]
    rw [e, List.append_assoc]
    by_cases h10 : c = 10
    · subst h10
      simp [escL, esc1, qix, ih] at *
      try omega
    by_cases h92 : c = 92
    · subst h92
      simp [escL, esc1, qix, ih] at *
      try omega
    by_cases h34 : c = 34
    · subst h34
      simp [escL, esc1, qix, ih] at *
      try omega
    have e1 : escL [c] = [c] := by simp [escL, esc1, h10, h92, h34]
    rw [e1]
    cases hq : escL v ++ 34 :: r with
    | nil => simp at hq
    | cons d q =>
      rw [hq] at ih
      simp [qix, h92, h34, ih]
set_option maxRecDepth 100000 in
set_option maxHeartbeats 4000000 in
theorem quoted_any (s : ByteArray) (w : World) (hs : s.size ≤ 100000) :
    Calls Tryz.prog 19 #[.string s] w fun e w' => e = .returned (.int .i64 (qixI (s.data.toList.drop 1) 1)) ∧ w = w' := by
  obtain ⟨R, hR⟩ : ∃ R, R = qixI (s.data.toList.drop 1) 1 := ⟨_, rfl⟩
  rw [← hR]
  have HQ := Lib.hid hR
  clear hR
  go_enter Tryz.func19, Tryz.ntmps19
  go_wp2
  go_loopw [3] (fun i wr => ∃ p : Nat, 1 ≤ p ∧ p ≤ s.size + 2 ∧ i = .int .i64 p ∧ Hid (R = qixI (s.data.toList.drop p) p) ∧ wr = w) (fun i _ => s.size + 2 - (intOf i).toNat)
  case atStart => exact ⟨1, by omega, by omega, rfl, HQ, rfl⟩
  case round =>
    obtain ⟨p, hp1, hp, rfl, HI, rfl⟩ := hrel
    by_cases hlt : p < s.size
    · obtain ⟨c, hc, hcl⟩ := data_at s p hlt
      have hlt' : (p : Int) < (s.size : Int) := by omega
      have hp0 : (0 : Int) ≤ (p : Int) := by omega
      have hdr : s.data.toList.drop p = c :: s.data.toList.drop (p + 1) := by
        obtain ⟨hj, he⟩ := List.getElem?_eq_some_iff.1 hcl
        rw [List.drop_eq_getElem_cons hj, he]
      by_cases h92 : c = 92
      · subst h92
        have HN := Lib.hid (show R = qixI (s.data.toList.drop (p + 2)) (p + 2) by
          rw [HI.out, hdr, qixI_slash, List.drop_drop])
        clear hcl hdr
        go_wp2
        go_roundw
        case rel => exact ⟨p + 2, by omega, by omega, by go_num, HN, trivial⟩
        case measure => simp [intOf] <;> omega
      have n92 : ((c.toNat : Int) == 92) = false := byte_ne h92
      by_cases h34 : c = 34
      · subst h34
        have HN := Lib.hid (show R = (p : Int) by rw [HI.out, hdr, qixI_quote])
        clear hcl hdr
        go_wp2
        go_ret
        exact ⟨by rw [HN.out]; rfl, rfl⟩
      have n34 : ((c.toNat : Int) == 34) = false := byte_ne h34
      have HN := Lib.hid (show R = qixI (s.data.toList.drop (p + 1)) (p + 1) by rw [HI.out, hdr, qixI_else p h92 h34])
      clear hcl hdr h92 h34
      go_wp2
      go_roundw
      case rel => exact ⟨p + 1, by omega, by omega, by go_num, HN, trivial⟩
      case measure => simp [intOf] <;> omega
    · have hge : decide ((p : Int) < (s.size : Int)) = false := by simp; omega
      have HN := Lib.hid (show R = -1 by rw [HI.out, List.drop_eq_nil_of_le (by rw [← Lib.size_eq]; omega), qixI_end])
      go_wp2
      go_ret
      exact ⟨by rw [HN.out]; rfl, rfl⟩
end Go.Proofs.YtpdmmnhmnmlogaaGreat
