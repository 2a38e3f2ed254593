/- What the document's net tells of one: its state, how much is left, what was sent; must. -/
import Derived.Test.YtlelemjmknbnaaaDocMem
import Derived.IntWalk
import Derived.Test.YtlelemjmknbnaaaBuf
namespace Go.Proofs.Ytlelemjmknbnaaa
open Go.RowKit

theorem rise_inj : ∀ {rs : List Rc}, rs.Pairwise (fun x y => x.id < y.id) → ∀ {r s : Rc}, r ∈ rs → s ∈ rs → r.id = s.id → r = s
  | [], _, _, _, h, _, _ => by cases h
  | x :: rs, hp, r, s, hr, hs, he => by
    rw [List.pairwise_cons] at hp
    rcases List.mem_cons.1 hr with h1 | h1 <;> rcases List.mem_cons.1 hs with h2 | h2
    · rw [h1, h2]
    · have := hp.1 s h2
      rw [h1] at he
      omega
    · have := hp.1 r h1
      rw [h2] at he
      omega
    · exact rise_inj hp.2 h1 h2 he
theorem getR_at {rs : List Rc} (hp : rs.Pairwise fun x y => x.id < y.id) {i : Nat} {r : Rc} {k : Int} (hi : rs[i]? = some r) (hk : (r.id : Int) = k) : getR rs k = some r := by
  unfold getR
  cases h : rs.find? fun r => decide ((r.id : Int) = k) with
  | none =>
    have := List.find?_eq_none.1 h r (List.mem_of_getElem? hi)
    simp [hk] at this
  | some s =>
    have h1 := List.find?_some h
    have h2 := List.mem_of_find?_eq_some h
    rw [decide_eq_true_eq] at h1
    rw [rise_inj hp (List.mem_of_getElem? hi) h2 (by omega)]
theorem getR_none {rs : List Rc} {k : Int} (h : ∀ r ∈ rs, (r.id : Int) ≠ k) : getR rs k = none := by
  unfold getR
  rw [List.find?_eq_none]
  intro r hr
  simpa using h r hr
def stR (o : Option Rc) : Int := match o with | some r => r.st | none => 0
def outR (o : Option Rc) : List UInt8 := match o with | some r => r.out | none => []
def leftR (o : Option Rc) : Nat := match o with | some r => r.inn.length - r.at_ | none => 0
def codeR (o : Option Rc) (s : Int) : Int := match o with | some r => if r.st = s then 0 else 7 | none => 8

set_option maxRecDepth 100000 in
set_option maxHeartbeats 2000000 in
theorem rstate_any {B : Nat} {w : World} {rn : Nat} {v : Value} {most : Int} {N : Nat} {rs : List Rc} (h : RefAt B w rn v most N rs) (hl : rs.length ≤ 1000) (k : Int) :
    Calls Try.prog 39 #[.pointer (some ⟨rn, 0, none⟩), .int .i64 k] w fun e w' => e = .returned (.int .i64 (stR (getR rs k))) ∧ w = w' := by
  obtain ⟨c0, _, _, _⟩ := h.cells
  have HOF := Lib.hid (of_any h hl k)
  obtain ⟨A, c, rfl, hc⟩ := h.form
  have HC := Lib.hid hc
  have HR := Lib.hid h.rise
  clear h hc
  go_enter Try.func39, Try.ntmps39
  go_wp2_with fail
  refine HOF.out.mono ?_
  rintro e w1 ⟨⟨i, r, hi, hk, rfl⟩ | ⟨hno, rfl⟩, rfl⟩
  · have HG := Lib.hid (getR_at HR.out hi hk)
    have hlt : (i : Int) < (rs.length : Int) := by have := (List.getElem?_eq_some_iff.1 hi).1; omega
    have hi0 : (0 : Int) ≤ (i : Int) := by omega
    have hi1 : decide ((i : Int) < 0) = false := by simp
    obtain ⟨g, rfl, _, _, _, ⟨_, _, hc2, _⟩, _⟩ := HC.out i r hi
    clear hi hk
    go_wp2
    go_ret
    exact ⟨by rw [HG.out]; rfl, rfl⟩
  · have HG := Lib.hid (getR_none hno)
    clear hno
    go_wp2
    go_ret
    exact ⟨by rw [HG.out]; rfl, rfl⟩
set_option maxRecDepth 100000 in
set_option maxHeartbeats 2000000 in
theorem must_any {B : Nat} {w : World} {rn : Nat} {v : Value} {most : Int} {N : Nat} {rs : List Rc} (h : RefAt B w rn v most N rs) (hl : rs.length ≤ 1000) (k s : Int) :
    Calls Try.prog 49 #[.pointer (some ⟨rn, 0, none⟩), .int .i64 k, .int .i64 s] w fun e w' => e = .returned (.int .i64 (codeR (getR rs k) s)) ∧ w = w' := by
  obtain ⟨c0, _, _, _⟩ := h.cells
  have HOF := Lib.hid (of_any h hl k)
  obtain ⟨A, c, rfl, hc⟩ := h.form
  have HC := Lib.hid hc
  have HR := Lib.hid h.rise
  clear h hc
  go_enter Try.func49, Try.ntmps49
  go_wp2_with fail
  refine HOF.out.mono ?_
  rintro e w1 ⟨⟨i, r, hi, hk, rfl⟩ | ⟨hno, rfl⟩, rfl⟩
  · have HG := Lib.hid (getR_at HR.out hi hk)
    have hlt : (i : Int) < (rs.length : Int) := by have := (List.getElem?_eq_some_iff.1 hi).1; omega
    have hi0 : (0 : Int) ≤ (i : Int) := by omega
    have hi1 : decide ((i : Int) < 0) = false := by simp
    obtain ⟨g, rfl, _, _, _, ⟨_, _, hc2, _⟩, _⟩ := HC.out i r hi
    clear hi hk
    by_cases hs : r.st = s
    · have he : (r.st == s) = true := by rw [hs]; exact beq_self_eq_true _
      have HS := Lib.hid (show codeR (some r) s = 0 from if_pos hs)
      generalize r.st = ss at hc2 he
      clear hs
      go_wp2
      go_ret
      exact ⟨by rw [HG.out, HS.out]; rfl, rfl⟩
    · have he : (r.st == s) = false := beq_eq_false_iff_ne.2 hs
      have HS := Lib.hid (show codeR (some r) s = 7 from if_neg hs)
      generalize r.st = ss at hc2 he
      clear hs
      go_wp2
      go_ret
      exact ⟨by rw [HG.out, HS.out]; rfl, rfl⟩
  · have HG := Lib.hid (getR_none hno)
    clear hno
    go_wp2
    go_ret
    exact ⟨by rw [HG.out]; rfl, rfl⟩
set_option maxRecDepth 100000 in
set_option maxHeartbeats 2000000 in
theorem rleft_any {B : Nat} {w : World} {rn : Nat} {v : Value} {most : Int} {N : Nat} {rs : List Rc} (h : RefAt B w rn v most N rs) (hl : rs.length ≤ 1000) (hb : ∀ r ∈ rs, r.inn.length ≤ 1000000) (k : Int) :
    Calls Try.prog 41 #[.pointer (some ⟨rn, 0, none⟩), .int .i64 k] w fun e w' => e = .returned (.int .i64 (leftR (getR rs k) : Int)) ∧ ∃ q, w' = w.drewN q := by
  obtain ⟨c0, _, _, _⟩ := h.cells
  have HOF := Lib.hid (of_any h hl k)
  obtain ⟨A, c, rfl, hc⟩ := h.form
  have HC := Lib.hid hc
  have HR := Lib.hid h.rise
  have HA := Lib.hid h.ats
  have HB := Lib.hid hb
  clear h hc hb
  go_enter Try.func41, Try.ntmps41
  go_wp2_with fail
  refine HOF.out.mono ?_
  rintro e w1 ⟨⟨i, r, hi, hk, rfl⟩ | ⟨hno, rfl⟩, rfl⟩
  · have HG := Lib.hid (getR_at HR.out hi hk)
    have hlt : (i : Int) < (rs.length : Int) := by have := (List.getElem?_eq_some_iff.1 hi).1; omega
    have hi0 : (0 : Int) ≤ (i : Int) := by omega
    have hi1 : decide ((i : Int) < 0) = false := by simp
    obtain ⟨g, rfl, _, _, _, ⟨_, _, _, hc3, hc4, _⟩, _⟩ := HC.out i r hi
    have h1 := HA.out r (List.mem_of_getElem? hi)
    have h2 := HB.out r (List.mem_of_getElem? hi)
    have e1 : wrap64 ((r.inn.length : Int) - (r.at_ : Int)) = ((r.inn.length - r.at_ : Nat) : Int) := by
      rw [show ((r.inn.length - r.at_ : Nat) : Int) = (r.inn.length : Int) - (r.at_ : Int) by omega]
      exact IntWalk.wrap64_in _ (by omega)
    have HE := Lib.hid e1
    clear hi hk h1 h2 e1
    go_wp2
    go_quiet (fail)
    go_wp2
    go_ret
    exact ⟨by rw [HG.out]; exact congrArg (fun z => Ending.returned (.int .i64 z)) HE.out, _, rfl⟩
  · have HG := Lib.hid (getR_none hno)
    clear hno
    go_wp2
    go_ret
    exact ⟨by rw [HG.out]; rfl, 0, rfl⟩
set_option maxRecDepth 100000 in
set_option maxHeartbeats 2000000 in
theorem rsent_any {B : Nat} {w : World} {rn : Nat} {v : Value} {most : Int} {N : Nat} {rs : List Rc} (h : RefAt B w rn v most N rs) (hl : rs.length ≤ 1000) (hb : ∀ r ∈ rs, r.out.length ≤ 1000000) (k : Int) :
    Calls Try.prog 42 #[.pointer (some ⟨rn, 0, none⟩), .int .i64 k] w fun e w' => (∃ A c, e = .returned (.slice A (outR (getR rs k)).length c) ∧ BReads w' w'.heap.size A (outR (getR rs k))) ∧ Below w.heap.size w w' := by
  obtain ⟨c0, _, _, _⟩ := h.cells
  have HOF := Lib.hid (of_any h hl k)
  obtain ⟨A, c, rfl, hc⟩ := h.form
  have HC := Lib.hid hc
  have HR := Lib.hid h.rise
  clear h hc
  go_enter Try.func42, Try.ntmps42
  go_wp2_with fail
  refine HOF.out.mono ?_
  rintro e w1 ⟨⟨i, r, hi, hk, rfl⟩ | ⟨hno, rfl⟩, rfl⟩
  · have HG := Lib.hid (getR_at HR.out hi hk)
    have hlt : (i : Int) < (rs.length : Int) := by have := (List.getElem?_eq_some_iff.1 hi).1; omega
    have hi0 : (0 : Int) ≤ (i : Int) := by omega
    have hi1 : decide ((i : Int) < 0) = false := by simp
    obtain ⟨g, rfl, _, _, _, ⟨_, _, _, _, _, hc5⟩, _⟩ := HC.out i r hi
    obtain ⟨v2, w2, hrun, hbuf, hbel⟩ := conv_bytes w ⟨r.out.toArray⟩ (by have := hb r (List.mem_of_getElem? hi); show r.out.length ≤ maxLen; unfold maxLen; omega)
    obtain ⟨g2, cap2, rfl, h1, h2, h3, h4, h5, _⟩ := hbuf
    have HB2 := Lib.hid hbel
    have HD := Lib.hid (show BReads w2 w2.heap.size (some ⟨g2, 0, none⟩) r.out from .inr ⟨g2, 0, rfl, h2, fun j c hj => by rw [Nat.zero_add]; exact h5 j c hj⟩)
    clear hi hk hb h1 h2 h3 h4 h5 hbel
    go_wp2
    go_ret
    rw [HG.out]
    exact ⟨⟨_, _, rfl, HD.out⟩, HB2.out⟩
  · have HG := Lib.hid (getR_none hno)
    clear hno
    go_wp2
    go_ret
    rw [HG.out]
    exact ⟨⟨none, 0, rfl, BReads.nil _ _ _⟩, Below.refl _ _⟩
end Go.Proofs.Ytlelemjmknbnaaa
