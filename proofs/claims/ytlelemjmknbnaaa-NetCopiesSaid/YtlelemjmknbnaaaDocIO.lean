/- The document's Reset, Arrive, Send and Read. -/
import Derived.Test.YtlelemjmknbnaaaDocTurn
namespace Go.Proofs.Ytlelemjmknbnaaa
open Go.RowKit

theorem RefAt.place {B : Nat} {w : World} {rn : Nat} {v : Value} {most : Int} {N : Nat} {R1 R2 : List Rc} {r : Rc} (h : RefAt B w rn v most N (R1 ++ r :: R2)) : ∃ g c, v = .slice (some ⟨g, 0, none⟩) (R1 ++ r :: R2).length c ∧ w.cell? ⟨rn, 0, none⟩ = some v ∧ ownB v = [g] ∧
    (w.cell? ⟨g, R1.length * 6 + 2, none⟩ = some (.int .i64 r.st) ∧ w.cell? ⟨g, R1.length * 6 + 3, none⟩ = some (.string ⟨r.inn.toArray⟩) ∧ w.cell? ⟨g, R1.length * 6 + 4, none⟩ = some (.int .i64 (r.at_ : Int)) ∧ w.cell? ⟨g, R1.length * 6 + 5, none⟩ = some (.string ⟨r.out.toArray⟩)) ∧
    (∀ i, w.frozen? ⟨g, i, none⟩ = false) ∧ (R1.length : Int) < ((R1 ++ r :: R2).length : Int) := by
  have hc0 := h.cells.1
  obtain ⟨A, c, rfl, hc⟩ := h.form
  obtain ⟨g, rfl, ho, _, _, ⟨_, _, c2, c3, c4, c5⟩, hf⟩ := hc R1.length r (by simp)
  exact ⟨g, c, rfl, hc0, ho, ⟨c2, c3, c4, c5⟩, hf, by simp; omega⟩
def code23 (o : Option Rc) : Int := match o with | some r => if r.st = 2 ∨ r.st = 3 then 0 else 7 | none => 8
set_option maxRecDepth 100000 in
set_option maxHeartbeats 2000000 in
theorem rreset_no {B : Nat} {w : World} {rn : Nat} {v : Value} {most : Int} {N : Nat} {rs : List Rc} (h : RefAt B w rn v most N rs) (hl : rs.length ≤ 1000) (k : Int) (hz : code23 (getR rs k) ≠ 0) :
    Calls Try.prog 24 #[.pointer (some ⟨rn, 0, none⟩), .int .i64 k] w fun e w' => e = .returned (.int .i64 (code23 (getR rs k))) ∧ w = w' := by
  have HST := Lib.hid (rstate_any h hl k)
  obtain ⟨c, hc, hcc, hs, hc2⟩ : ∃ c : Int, code23 (getR rs k) = c ∧ (c == 0) = false ∧ (stR (getR rs k) == 3) = false ∧ codeR (getR rs k) 2 = c := by
    cases hg : getR rs k with
    | none => exact ⟨8, rfl, rfl, rfl, rfl⟩
    | some r =>
      rw [hg] at hz
      by_cases h1 : r.st = 2 ∨ r.st = 3
      · exact absurd (if_pos h1) hz
      · refine ⟨7, if_neg h1, rfl, beq_eq_false_iff_ne.2 (fun h2 => h1 (.inr h2)), if_neg (fun h2 => h1 (.inl h2))⟩
  have ht := rturn_no h hl k 2 5 (by rw [hc2]; exact beq_eq_false_iff_ne.1 hcc)
  rw [hc2] at ht
  have HT := Lib.hid ht
  rw [hc]
  generalize stR (getR rs k) = ss at HST hs
  clear h hz hc hc2 ht
  go_enter Try.func24, Try.ntmps24
  go_wp2_with fail
  refine HST.out.mono ?_
  rintro e w1 ⟨rfl, rfl⟩
  go_wp2_with fail
  refine HT.out.mono ?_
  rintro e w1 ⟨rfl, rfl⟩
  go_wp2
  go_ret
  exact ⟨rfl, rfl⟩
theorem RefAt.atEnd {B : Nat} {w : World} {rn g n c : Nat} {most : Int} {N : Nat} {R1 R2 : List Rc} {r : Rc} (h : RefAt B w rn (.slice (some ⟨g, 0, none⟩) n c) most N (R1 ++ r :: R2)) :
    RefAt B (w.setCell ⟨g, R1.length * 6 + 4, none⟩ (.int .i64 (r.inn.length : Int))) rn (.slice (some ⟨g, 0, none⟩) n c) most N (R1 ++ { r with at_ := r.inn.length } :: R2) ∧ Turns [g] w (w.setCell ⟨g, R1.length * 6 + 4, none⟩ (.int .i64 (r.inn.length : Int))) :=
  h.put (i := 4) (u := .int .i64 (r.inn.length : Int)) (r' := { r with at_ := r.inn.length }) (by omega) rfl rfl (Nat.le_refl _)
set_option maxRecDepth 100000 in
set_option maxHeartbeats 2000000 in
theorem rreset_ok {B : Nat} {w : World} {rn : Nat} {v : Value} {most : Int} {N : Nat} {R1 R2 : List Rc} {r : Rc} (h : RefAt B w rn v most N (R1 ++ r :: R2)) (hl : (R1 ++ r :: R2).length ≤ 1000) (hz : r.st = 2 ∨ r.st = 3) :
    Calls Try.prog 24 #[.pointer (some ⟨rn, 0, none⟩), .int .i64 (r.id : Int)] w (DTurn B w rn v most N R1 R2 r { r with st := 5, at_ := r.inn.length }) := by
  have hst := rstate_any h hl (r.id : Int)
  rw [getR_self h.rise] at hst
  change Calls _ _ _ _ fun e w' => e = .returned (.int .i64 r.st) ∧ w = w' at hst
  have HST := Lib.hid hst
  have HT := Lib.hid (rturn_ok h hl 5)
  have HL := Lib.hid (show (R1 ++ { r with st := 5 } :: R2).length ≤ 1000 by simpa using hl)
  obtain ⟨g0, c0, hv, _⟩ := h.place
  have hb : (r.st == 3) = decide (r.st = 3) := by rfl
  clear h hst
  by_cases h3 : r.st = 3
  all_goals
    have h3' : (r.st == 3) = decide (r.st = 3) := rfl
    first
    | rw [decide_eq_true h3] at h3'
    | rw [decide_eq_false h3] at h3'
    have hx : r.st = 3 ∨ r.st = 2 := hz.symm
    first
    | rw [show r.st = 3 from h3] at HT
    | rw [show r.st = 2 from hz.resolve_right h3] at HT
    generalize r.st = ss at HST h3'
    clear hb hz hx h3
    go_enter Try.func24, Try.ntmps24
    go_wp2_with fail
    refine HST.out.mono ?_
    rintro e w1 ⟨rfl, rfl⟩
    go_wp2_with fail
    refine HT.out.mono ?_
    rintro e w1 ⟨rfl, hn, ht⟩
    have HOF := Lib.hid (of_at hn HL.out)
    have HT1 := Lib.hid ht
    obtain ⟨g, c, hv1, d0, ho, ⟨_, d3, d4, _⟩, hf, hlt⟩ := hn.place
    subst hv1
    have HP : Hid (∀ W, Turns [] w1 W → RefAt B (W.setCell ⟨g, R1.length * 6 + 4, none⟩ (.int .i64 (r.inn.length : Int))) rn (.slice (some ⟨g, 0, none⟩) (R1 ++ { r with st := 5 } :: R2).length c) most N (R1 ++ { r with st := 5, at_ := r.inn.length } :: R2) ∧ Turns [g] w (W.setCell ⟨g, R1.length * 6 + 4, none⟩ (.int .i64 (r.inn.length : Int)))) := Lib.hid (fun W htw => by
      have := (hn.kept htw (by simp) (by simp)).atEnd
      exact ⟨this.1, by rw [ho] at ht; exact ht.trans ((htw.mono (G := [g]) (by simp)).trans this.2 (fun i hi => .inl hi)) (fun i hi => .inl hi)⟩)
    have hf4 := hf (R1.length * 6 + 4)
    have HOB := Lib.hid ho
    have hi0 : (0 : Int) ≤ (R1.length : Int) := by omega
    obtain ⟨NN, hNN⟩ : ∃ NN, NN = (R1 ++ { r with st := 5 } :: R2).length := ⟨_, rfl⟩
    rw [← hNN] at d0 hlt
    have HNN := Lib.hid hNN
    clear hn ht hf ho hv hNN
    go_wp2_with fail
    refine HOF.out.mono ?_
    rintro e w2 ⟨rfl, rfl⟩
    go_wp2_with fail
    go_region
    all_goals
      have HQ := Lib.hid (HP.out w1.drew (Turns.refl _ _).drew)
      go_wp2
      go_ret
      exact ⟨rfl, HQ.out.1, by rw [HOB.out]; exact HQ.out.2⟩
theorem texT_add (a b : List UInt8) : (⟨a.toArray⟩ : ByteArray) ++ ⟨b.toArray⟩ = ⟨(a ++ b).toArray⟩ := by
  apply ByteArray.ext
  show (ByteArray.append _ _).data = _
  simp
set_option maxRecDepth 100000 in
set_option maxHeartbeats 2000000 in
theorem rarrive_ok {B : Nat} {w : World} {rn : Nat} {v : Value} {most : Int} {N : Nat} {R1 R2 : List Rc} {r : Rc} (h : RefAt B w rn v most N (R1 ++ r :: R2)) (hl : (R1 ++ r :: R2).length ≤ 1000) (hz : r.st = 2) (Bx : Nat) (A : Option Addr) (l : List UInt8) (cb : Nat) (hr : BReads w Bx A l) (hBx : Bx ≤ w.heap.size) (hlen : r.inn.length + l.length ≤ 1000000) :
    Calls Try.prog 26 #[.pointer (some ⟨rn, 0, none⟩), .int .i64 (r.id : Int), .slice A l.length cb] w (DTurn B w rn v most N R1 R2 r { r with inn := r.inn ++ l }) := by
  have hm := must_any h hl (r.id : Int) 2
  rw [getR_self h.rise, show codeR (some r) 2 = 0 from if_pos hz] at hm
  have HM := Lib.hid hm
  have HOF := Lib.hid (of_at h hl)
  obtain ⟨g, c, rfl, d0, ho, ⟨_, d3, _, _⟩, hf, hlt⟩ := h.place
  have HP : Hid (∀ W, Turns [] w W → RefAt B (W.setCell ⟨g, R1.length * 6 + 3, none⟩ (.string ⟨(r.inn ++ l).toArray⟩)) rn (.slice (some ⟨g, 0, none⟩) (R1 ++ r :: R2).length c) most N (R1 ++ { r with inn := r.inn ++ l } :: R2) ∧ Turns [g] w (W.setCell ⟨g, R1.length * 6 + 3, none⟩ (.string ⟨(r.inn ++ l).toArray⟩))) := Lib.hid (fun W htw => by
    have := (h.kept htw (by simp) (by simp)).put (i := 3) (u := .string ⟨(r.inn ++ l).toArray⟩) (r' := { r with inn := r.inn ++ l }) (by omega) rfl rfl (by have := h.ats r (by simp); simp; omega)
    exact ⟨this.1, (htw.mono (G := [g]) (by simp)).trans this.2 (fun i hi => .inl hi)⟩)
  have hcv : ∀ W, Turns [] w W → (convert 30 9 (.slice A l.length cb)).run Try.prog W = .ok (.string ⟨l.toArray⟩) W := fun W htw =>
    run_bytes_text W 9 30 Try.underlying30 Try.underlying9 (B := Bx) cb (hr.below (htw.below (by simp) hBx))
  have hc1 := hcv w (Turns.refl _ _)
  have hc2 := hcv w.drew (Turns.refl _ _).drew
  have z1 : ¬ (9223372036854775807 < (⟨r.inn.toArray⟩ : ByteArray).size + (⟨l.toArray⟩ : ByteArray).size) := by
    show ¬ (9223372036854775807 < r.inn.length + l.length)
    omega
  have HTA := Lib.hid (texT_add r.inn l)
  have hf3 := hf (R1.length * 6 + 3)
  have HOB := Lib.hid ho
  have hi0 : (0 : Int) ≤ (R1.length : Int) := by omega
  obtain ⟨NN, hNN⟩ : ∃ NN, NN = (R1 ++ r :: R2).length := ⟨_, rfl⟩
  rw [← hNN] at d0 hlt
  have HNN := Lib.hid hNN
  obtain ⟨LL, hLL⟩ : ∃ LL, LL = l.length := ⟨_, rfl⟩
  rw [← hLL] at hc1 hc2 ⊢
  clear h hm hf ho hNN hLL hcv hr hlen
  go_enter Try.func26, Try.ntmps26
  go_wp2_with fail
  refine HM.out.mono ?_
  rintro e w1 ⟨rfl, rfl⟩
  go_wp2_with fail
  refine HOF.out.mono ?_
  rintro e w2 ⟨rfl, rfl⟩
  go_wp2_with fail
  go_region
  all_goals
    have HQ := Lib.hid (HP.out w.drew (Turns.refl _ _).drew)
    rw [← HTA.out] at HQ
    go_wp2
    go_ret
    exact ⟨rfl, HQ.out.1, by rw [HOB.out]; exact HQ.out.2⟩
set_option maxRecDepth 100000 in
set_option maxHeartbeats 2000000 in
theorem rsend_ok {B : Nat} {w : World} {rn : Nat} {v : Value} {most : Int} {N : Nat} {R1 R2 : List Rc} {r : Rc} (h : RefAt B w rn v most N (R1 ++ r :: R2)) (hl : (R1 ++ r :: R2).length ≤ 1000) (hz : r.st = 2) (Bx : Nat) (A : Option Addr) (l : List UInt8) (cb : Nat) (hr : BReads w Bx A l) (hBx : Bx ≤ w.heap.size) (hlen : r.out.length + l.length ≤ 1000000) :
    Calls Try.prog 28 #[.pointer (some ⟨rn, 0, none⟩), .int .i64 (r.id : Int), .slice A l.length cb] w (DTurn B w rn v most N R1 R2 r { r with out := r.out ++ l }) := by
  have hm := must_any h hl (r.id : Int) 2
  rw [getR_self h.rise, show codeR (some r) 2 = 0 from if_pos hz] at hm
  have HM := Lib.hid hm
  have HOF := Lib.hid (of_at h hl)
  obtain ⟨g, c, rfl, d0, ho, ⟨_, _, _, d3⟩, hf, hlt⟩ := h.place
  have HP : Hid (∀ W, Turns [] w W → RefAt B (W.setCell ⟨g, R1.length * 6 + 5, none⟩ (.string ⟨(r.out ++ l).toArray⟩)) rn (.slice (some ⟨g, 0, none⟩) (R1 ++ r :: R2).length c) most N (R1 ++ { r with out := r.out ++ l } :: R2) ∧ Turns [g] w (W.setCell ⟨g, R1.length * 6 + 5, none⟩ (.string ⟨(r.out ++ l).toArray⟩))) := Lib.hid (fun W htw => by
    have := (h.kept htw (by simp) (by simp)).put (i := 5) (u := .string ⟨(r.out ++ l).toArray⟩) (r' := { r with out := r.out ++ l }) (by omega) rfl rfl (h.ats r (by simp))
    exact ⟨this.1, (htw.mono (G := [g]) (by simp)).trans this.2 (fun i hi => .inl hi)⟩)
  have hcv : ∀ W, Turns [] w W → (convert 30 9 (.slice A l.length cb)).run Try.prog W = .ok (.string ⟨l.toArray⟩) W := fun W htw =>
    run_bytes_text W 9 30 Try.underlying30 Try.underlying9 (B := Bx) cb (hr.below (htw.below (by simp) hBx))
  have hc1 := hcv w (Turns.refl _ _)
  have hc2 := hcv w.drew (Turns.refl _ _).drew
  have z1 : ¬ (9223372036854775807 < (⟨r.out.toArray⟩ : ByteArray).size + (⟨l.toArray⟩ : ByteArray).size) := by
    show ¬ (9223372036854775807 < r.out.length + l.length)
    omega
  have HTA := Lib.hid (texT_add r.out l)
  have hf3 := hf (R1.length * 6 + 5)
  have HOB := Lib.hid ho
  have hi0 : (0 : Int) ≤ (R1.length : Int) := by omega
  obtain ⟨NN, hNN⟩ : ∃ NN, NN = (R1 ++ r :: R2).length := ⟨_, rfl⟩
  rw [← hNN] at d0 hlt
  have HNN := Lib.hid hNN
  obtain ⟨LL, hLL⟩ : ∃ LL, LL = l.length := ⟨_, rfl⟩
  rw [← hLL] at hc1 hc2 ⊢
  clear h hm hf ho hNN hLL hcv hr hlen
  go_enter Try.func28, Try.ntmps28
  go_wp2_with fail
  refine HM.out.mono ?_
  rintro e w1 ⟨rfl, rfl⟩
  go_wp2_with fail
  refine HOF.out.mono ?_
  rintro e w2 ⟨rfl, rfl⟩
  go_wp2_with fail
  go_region
  all_goals
    have HQ := Lib.hid (HP.out w.drew (Turns.refl _ _).drew)
    rw [← HTA.out] at HQ
    go_wp2
    go_ret
    exact ⟨rfl, HQ.out.1, by rw [HOB.out]; exact HQ.out.2⟩
set_option maxRecDepth 100000 in
set_option maxHeartbeats 1000000 in
theorem rarrive_no {B : Nat} {w : World} {rn : Nat} {v : Value} {most : Int} {N : Nat} {rs : List Rc} (h : RefAt B w rn v most N rs) (hl : rs.length ≤ 1000) (k : Int) (hz : codeR (getR rs k) 2 ≠ 0) (bv : Value) :
    Calls Try.prog 26 #[.pointer (some ⟨rn, 0, none⟩), .int .i64 k, bv] w fun e w' => e = .returned (.int .i64 (codeR (getR rs k) 2)) ∧ w = w' := by
  have HM := Lib.hid (must_any h hl k 2)
  generalize codeR (getR rs k) 2 = cc at HM hz ⊢
  have hc : (cc == 0) = false := beq_eq_false_iff_ne.2 hz
  clear h hz
  go_enter Try.func26, Try.ntmps26
  go_wp2_with fail
  refine HM.out.mono ?_
  rintro e w1 ⟨rfl, rfl⟩
  go_wp2
  go_ret
  exact ⟨rfl, rfl⟩
set_option maxRecDepth 100000 in
set_option maxHeartbeats 1000000 in
theorem rsend_no {B : Nat} {w : World} {rn : Nat} {v : Value} {most : Int} {N : Nat} {rs : List Rc} (h : RefAt B w rn v most N rs) (hl : rs.length ≤ 1000) (k : Int) (hz : codeR (getR rs k) 2 ≠ 0) (bv : Value) :
    Calls Try.prog 28 #[.pointer (some ⟨rn, 0, none⟩), .int .i64 k, bv] w fun e w' => e = .returned (.int .i64 (codeR (getR rs k) 2)) ∧ w = w' := by
  have HM := Lib.hid (must_any h hl k 2)
  generalize codeR (getR rs k) 2 = cc at HM hz ⊢
  have hc : (cc == 0) = false := beq_eq_false_iff_ne.2 hz
  clear h hz
  go_enter Try.func28, Try.ntmps28
  go_wp2_with fail
  refine HM.out.mono ?_
  rintro e w1 ⟨rfl, rfl⟩
  go_wp2
  go_ret
  exact ⟨rfl, rfl⟩
theorem extract_drop (l : List UInt8) (a : Nat) : ByteArray.extract ⟨l.toArray⟩ a l.length = ⟨(l.drop a).toArray⟩ := by
  apply ByteArray.ext
  rw [ByteArray.data_extract]
  simp
  exact List.take_of_length_le (by simp)
def innR (o : Option Rc) : List UInt8 := match o with | some r => r.inn.drop r.at_ | none => []
set_option maxRecDepth 100000 in
set_option maxHeartbeats 1000000 in
theorem rread_no {B : Nat} {w : World} {rn : Nat} {v : Value} {most : Int} {N : Nat} {rs : List Rc} (h : RefAt B w rn v most N rs) (hl : rs.length ≤ 1000) (k : Int) (hz : getR rs k = none) :
    Calls Try.prog 29 #[.pointer (some ⟨rn, 0, none⟩), .int .i64 k] w fun e w' => e = .returned (.slice none 0 0) ∧ w = w' := by
  have HOF := Lib.hid (of_any h hl k)
  have HR := Lib.hid h.rise
  have HZ := Lib.hid hz
  clear h hz
  go_enter Try.func29, Try.ntmps29
  go_wp2_with fail
  refine HOF.out.mono ?_
  rintro e w1 ⟨⟨i, r, hi, hk, rfl⟩ | ⟨hno, rfl⟩, rfl⟩
  · have := getR_at HR.out hi hk
    rw [HZ.out] at this
    cases this
  · clear hno
    go_wp2
    go_ret
    exact ⟨rfl, rfl⟩
set_option maxRecDepth 100000 in
set_option maxHeartbeats 2000000 in
theorem rread_ok {B : Nat} {w : World} {rn : Nat} {v : Value} {most : Int} {N : Nat} {R1 R2 : List Rc} {r : Rc} (h : RefAt B w rn v most N (R1 ++ r :: R2)) (hl : (R1 ++ r :: R2).length ≤ 1000) (hb : r.inn.length ≤ 1000000) :
    Calls Try.prog 29 #[.pointer (some ⟨rn, 0, none⟩), .int .i64 (r.id : Int)] w fun e w' => (∃ A c, e = .returned (.slice A (r.inn.drop r.at_).length c) ∧ BReads w' w'.heap.size A (r.inn.drop r.at_)) ∧ RefAt B w' rn v most N (R1 ++ { r with at_ := r.inn.length } :: R2) ∧ Turns (ownB v) w w' := by
  have HOF := Lib.hid (of_at h hl)
  have ha : r.at_ ≤ r.inn.length := h.ats r (by simp)
  have HEX := Lib.hid (extract_drop r.inn r.at_)
  have ha' : (r.at_ : Int) ≤ ((⟨r.inn.toArray⟩ : ByteArray).size : Int) := by
    show (r.at_ : Int) ≤ (r.inn.length : Int)
    omega
  obtain ⟨g, c, rfl, d0, ho, ⟨_, d3, d4, _⟩, hf, hlt⟩ := h.place
  have HP : Hid (∀ W, Turns [] w W → RefAt B (W.setCell ⟨g, R1.length * 6 + 4, none⟩ (.int .i64 (r.inn.length : Int))) rn (.slice (some ⟨g, 0, none⟩) (R1 ++ r :: R2).length c) most N (R1 ++ { r with at_ := r.inn.length } :: R2) ∧ Turns [g] w (W.setCell ⟨g, R1.length * 6 + 4, none⟩ (.int .i64 (r.inn.length : Int)))) := Lib.hid (fun W htw => by
    have := (h.kept htw (by simp) (by simp)).atEnd
    exact ⟨this.1, (htw.mono (G := [g]) (by simp)).trans this.2 (fun i hi => .inl hi)⟩)
  have hf4 := hf (R1.length * 6 + 4)
  have HOB := Lib.hid ho
  have hi0 : (0 : Int) ≤ (R1.length : Int) := by omega
  have hi1 : decide ((R1.length : Int) < 0) = false := by simp
  obtain ⟨NN, hNN⟩ : ∃ NN, NN = (R1 ++ r :: R2).length := ⟨_, rfl⟩
  rw [← hNN] at d0 hlt
  have HNN := Lib.hid hNN
  clear h hf ho hNN
  go_enter Try.func29, Try.ntmps29
  go_wp2_with fail
  refine HOF.out.mono ?_
  rintro e w2 ⟨rfl, rfl⟩
  go_wp2_with fail
  go_quiet (fail)
  go_wp2_with fail
  go_region
  all_goals
    have HQ := Lib.hid (HP.out (w.drewN (nq + 1)) ((Turns.refl [] w).drewN (nq + 1)))
    obtain ⟨v2, w2, hrun, hbuf, hbel⟩ := conv_bytes ((w.drewN (nq + 1)).setCell ⟨g, R1.length * 6 + 4, none⟩ (.int .i64 (r.inn.length : Int))) (ByteArray.extract ⟨r.inn.toArray⟩ r.at_ r.inn.length) (by rw [HEX.out]; show (r.inn.drop r.at_).length ≤ maxLen; rw [List.length_drop]; unfold maxLen; omega)
    rw [show (ByteArray.extract ⟨r.inn.toArray⟩ r.at_ r.inn.length).data.toList = r.inn.drop r.at_ by rw [HEX.out]] at hbuf
    obtain ⟨g2, cap2, rfl, h1, h2, h3, h4, h5, _⟩ := hbuf
    have HB2 := Lib.hid hbel
    have HD := Lib.hid (show BReads w2 w2.heap.size (some ⟨g2, 0, none⟩) (r.inn.drop r.at_) from .inr ⟨g2, 0, rfl, h2, fun j c hj => by rw [Nat.zero_add]; exact h5 j c hj⟩)
    obtain ⟨LL, hLL⟩ : ∃ LL, LL = (r.inn.drop r.at_).length := ⟨_, rfl⟩
    rw [← hLL] at hrun
    have HLL := Lib.hid hLL
    clear hLL h1 h2 h3 h4 h5 hbel
    go_wp2_with fail
    go_ret
    refine ⟨⟨some ⟨g2, 0, none⟩, cap2, by rw [← HLL.out]; rfl, HD.out⟩, HQ.out.1.kept (Turns.of_below HB2.out (Nat.le_refl _)) (by simp) (by simp), ?_⟩
    rw [HOB.out]
    exact HQ.out.2.trans (Turns.of_below HB2.out (Nat.le_refl _)) (by simp)
end Go.Proofs.Ytlelemjmknbnaaa
