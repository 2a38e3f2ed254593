/- The program's Parse and Fields. -/
import Derived.Test.YtlelemjmknbnaaaGreatDoorHeadTell
namespace Go.Proofs.YtlelemjmknbnaaaGreatDoor
open Go.RowKit

def smallFs (fs : List Fld) : Prop := ∀ f ∈ fs, f.1.length ≤ 1000000 ∧ f.2.length ≤ 1000000
theorem fieldL_small {s : List UInt8} {f : Fld} (hs : s.length ≤ 1000000) (h : fieldL s = some f) : f.1.length ≤ 1000000 ∧ f.2.length ≤ 1000000 := by
  unfold fieldL at h
  split at h
  · cases h
    have h1 := cut_len (s := s) (sep := [58])
    have h2 := trimL_len (Lib.cut s [58]).2.1
    have h3 := smallL_len (Lib.cut s [58]).1
    exact ⟨by simp only []; omega, by simp only []; omega⟩
  · cases h
theorem laterL_small {fs fs' : List Fld} {s : List UInt8} (hs : s.length ≤ 1000000) (hf : smallFs fs ∧ fs.length ≤ 64) (h : laterL fs s = some fs') : smallFs fs' ∧ fs'.length ≤ 64 := by
  refine ⟨?_, laterL_len hf.2 h⟩
  unfold laterL at h
  split at h
  · cases h
  · rename_i f hfe
    split at h
    · cases h
    · cases h
      intro x hx
      rcases List.mem_append.1 hx with hx | hx
      · exact hf.1 x hx
      · rw [List.mem_singleton] at hx
        subst hx
        exact fieldL_small hs hfe
theorem rowsN_small : ∀ (k : Nat) {s : List UInt8} {fs fs' : List Fld} {r : Nat}, s.length ≤ 1000000 → (smallFs fs ∧ fs.length ≤ 64) → rowsN k s fs = .whole fs' r → (smallFs fs' ∧ fs'.length ≤ 64) ∧ r + 2 ≤ s.length
  | 0, _, _, _, _, _, _, h => by cases h
  | k + 1, s, fs, fs', r, hs, hf, h => by
    rw [rowsN] at h
    split at h
    · rename_i he
      split at h
      · cases h
        exact ⟨hf, cutR_lt he⟩
      · split at h
        · cases h
        · rename_i fs1 hl
          have h1 := cutR_lt he
          have h2 := cutL_len s
          have := rowsN_small k (by omega) (laterL_small (by omega) hf hl) h
          exact ⟨this.1, by omega⟩
    · cases h
theorem partL_no {old : Bool} {st : Nat} {fs : List Fld} {n : Nat} (k : Nat) : partL k ≠ .whole old st fs n := by
  unfold partL
  split <;> simp
theorem partL_err {e k : Nat} (h : partL k = .err e) : e = 13 := by
  unfold partL at h
  split at h
  · cases h; rfl
  · cases h
theorem readL_err {l : List UInt8} {e : Nat} (h : readL l = .err e) : e = 9 ∨ e = 10 ∨ e = 13 := by
  unfold readL readB at h
  split at h
  · split at h
    · cases h; exact .inl rfl
    · rename_i o2 st2 hf
      cases hr : rowsN (l.take 8192).length (cutR (l.take 8192)) [] with
      | part => rw [hr] at h; exact .inr (.inr (partL_err h))
      | bad => rw [hr] at h; cases h; exact .inr (.inl rfl)
      | whole fs1 r => rw [hr] at h; cases h
  · exact .inr (.inr (partL_err h))
theorem tell_err {old : Bool} {st : Nat} {fs : List Fld} {e : Nat} (h : tellL old st fs = .inr e) : e = 11 ∨ e = 12 := by
  unfold tellL at h
  simp only [] at h
  split at h
  · cases h; exact .inl rfl
  · split at h
    · cases h; exact .inr rfl
    · cases h
theorem readL_small {l : List UInt8} {old : Bool} {st : Nat} {fs : List Fld} {n : Nat} (h : readL l = .whole old st fs n) : (smallFs fs ∧ fs.length ≤ 64) ∧ 0 < n := by
  unfold readL readB at h
  have hb : (l.take 8192).length ≤ 8192 := by rw [List.length_take]; omega
  split at h
  · rename_i he
    split at h
    · cases h
    · rename_i o2 st2 hf
      have hlt := cutR_lt he
      cases hr : rowsN (l.take 8192).length (cutR (l.take 8192)) [] with
      | part => rw [hr] at h; exact absurd h (partL_no _)
      | bad => rw [hr] at h; cases h
      | whole fs1 r =>
        rw [hr] at h
        have h2 := rowsN_small _ (by omega) ⟨(fun x hx => by cases hx), (by simp)⟩ hr
        cases h
        exact ⟨h2.1, by omega⟩
  · exact absurd h (partL_no _)
def PsV (r : Ps) : Value := match r with
  | .err e => .tuple #[zeroH, .int .i64 0, .int .i64 (e : Int)]
  | .part => .tuple #[zeroH, .int .i64 0, .int .i64 0]
  | .whole h n => .tuple #[HdV h, .int .i64 (n : Int), .int .i64 0]
set_option maxRecDepth 100000 in
set_option maxHeartbeats 500000 in
theorem parse_any {w : World} {A : Option Addr} {c : Nat} {l : List UInt8} (hr : BReads w w.heap.size A l) (hc : l.length ≤ c) (hn : A = none → c = 0) (hl : l.length ≤ 1000000) (hm : MX w) :
    Calls Tryz.prog 25 #[.slice A l.length c] w fun e w' => e = .returned (PsV (parseL l)) ∧ Below w.heap.size w w' := by
  have HQ0 := Lib.hid (rq_made w)
  have hs0 : (w.alloc (.cells #[.int .i64 0, .int .i64 0, .bool false, .bool false] 35)).heap.size = w.heap.size + 1 := by simp
  have HRD := Lib.hid (read_any (w := w.alloc (.cells #[.int .i64 0, .int .i64 0, .bool false, .bool false] 35)) ((hr.below HQ0.out.below).more (by omega)) hc hn hl (hm.grown HQ0.out.below))
  have HMX := Lib.hid hm
  obtain ⟨PL, hPL⟩ : ∃ PL, PL = parseR (readL l) := ⟨_, rfl⟩
  have HPL := Lib.hid hPL
  have HSMF : Hid (∀ old st fs n, readL l = .whole old st fs n → (smallFs fs ∧ fs.length ≤ 64) ∧ 0 < n) := Lib.hid (fun old st fs n h => readL_small h)
  show Calls _ _ _ _ fun e w' => e = .returned (PsV (parseR (readL l))) ∧ _
  rw [← hPL]
  obtain ⟨n, hnn⟩ : ∃ n, n = l.length := ⟨_, rfl⟩
  rw [← hnn] at HRD ⊢
  clear hPL hr hc hn hl hm hs0 hnn
  unfold ReadPost at HRD
  cases hrd : readL l with
  | err e0 =>
    rw [hrd] at HRD HPL
    have HR := Lib.hid (show PL = .err e0 from HPL.out)
    have he := readL_err hrd
    clear hrd HSMF HPL
    go_enter Tryz.func25, Tryz.ntmps25
    go_wp2_with fail
    refine (Hid.out HRD).mono ?_
    rintro e w1 ⟨rfl, hb1⟩
    have HQ1 := Lib.hid (HQ0.out.next hb1)
    have HQ2 := Lib.hid (HQ1.out.next (below_alloc (Nat.le_refl _) (.cells #[.bool false, .int .i64 0, .slice none 0 0, .int .i64 0] 70)))
    clear hb1 HRD
    obtain ⟨q0, q1, q2, q3, qf⟩ := HQ2.out.cells
    have f0 := qf 0
    have f1 := qf 1
    have f2 := qf 2
    have f3 := qf 3
    clear qf
    obtain ⟨e0', e1, e2, e3⟩ := set4_cells HQ2.out.head (.int .i64 0) (.int .i64 0) (.bool false) (.bool false)
    have HBB := Lib.hid (HQ2.out.below.trans (set4_below (B := w.heap.size) _ (Nat.le_refl _) (.int .i64 0) (.int .i64 0) (.bool false) (.bool false)))
    unfold set4 at e0' e1 e2 e3 HBB
    unfold zeroV
    rcases he with rfl | rfl | rfl
    · go_wp2
      exact bodyPost_ret (v := .tuple #[zeroH, .int .i64 0, .int .i64 9]) (by simp [results, Tryz.f25, go_sem, e0', e1, e2, e3, zeroH]) rfl ⟨by rw [HR.out]; rfl, by first | exact HBB.out | exact HBB.out.drew⟩
    · go_wp2
      exact bodyPost_ret (v := .tuple #[zeroH, .int .i64 0, .int .i64 10]) (by simp [results, Tryz.f25, go_sem, e0', e1, e2, e3, zeroH]) rfl ⟨by rw [HR.out]; rfl, by first | exact HBB.out | exact HBB.out.drew⟩
    · go_wp2
      exact bodyPost_ret (v := .tuple #[zeroH, .int .i64 0, .int .i64 13]) (by simp [results, Tryz.f25, go_sem, e0', e1, e2, e3, zeroH]) rfl ⟨by rw [HR.out]; rfl, by first | exact HBB.out | exact HBB.out.drew⟩
  | part =>
    rw [hrd] at HRD HPL
    have HR := Lib.hid (show PL = .part from HPL.out)
    clear hrd HSMF HPL
    go_enter Tryz.func25, Tryz.ntmps25
    go_wp2_with fail
    refine (Hid.out HRD).mono ?_
    rintro e w1 ⟨rfl, hb1⟩
    have HQ1 := Lib.hid (HQ0.out.next hb1)
    have HQ2 := Lib.hid (HQ1.out.next (below_alloc (Nat.le_refl _) (.cells #[.bool false, .int .i64 0, .slice none 0 0, .int .i64 0] 70)))
    clear hb1 HRD
    obtain ⟨q0, q1, q2, q3, qf⟩ := HQ2.out.cells
    have f0 := qf 0
    have f1 := qf 1
    have f2 := qf 2
    have f3 := qf 3
    clear qf
    obtain ⟨e0', e1, e2, e3⟩ := set4_cells HQ2.out.head (.int .i64 0) (.int .i64 0) (.bool false) (.bool false)
    have HBB := Lib.hid (HQ2.out.below.trans (set4_below (B := w.heap.size) _ (Nat.le_refl _) (.int .i64 0) (.int .i64 0) (.bool false) (.bool false)))
    unfold set4 at e0' e1 e2 e3 HBB
    unfold zeroV
    go_wp2
    exact bodyPost_ret (v := .tuple #[zeroH, .int .i64 0, .int .i64 0]) (by simp [results, Tryz.f25, go_sem, e0', e1, e2, e3, zeroH]) rfl ⟨by rw [HR.out]; rfl, by first | exact HBB.out | exact HBB.out.drew⟩
  | whole old st fs m =>
    rw [hrd] at HRD HPL
    have HSF := Lib.hid (HSMF.out _ _ _ _ hrd)
    have HTE : Hid (∀ e, tellL old st fs = .inr e → e = 11 ∨ e = 12) := Lib.hid (fun e h => tell_err h)
    have HPT := Lib.hid (show PL = match tellL old st fs with | .inr e => .err e | .inl h => .whole h m from HPL.out)
    have hm0 : (0 : Int) < (m : Int) := by have := HSF.out.2; omega
    have hm1 : ((m : Int) == 0) = false := by simp; omega
    have hm2 : (m == 0) = false := by simp; omega
    clear hrd HSMF HPL
    go_enter Tryz.func25, Tryz.ntmps25
    go_wp2_with fail
    refine (Hid.out HRD).mono ?_
    rintro e w1 ⟨⟨v, rfl, hown⟩, hb1⟩
    obtain ⟨Av, cv, rfl, -, -, -⟩ := hown.reads
    have HQ1 := Lib.hid (HQ0.out.next hb1)
    have HQ2 := Lib.hid (HQ1.out.next (below_alloc (Nat.le_refl _) (.cells #[.bool old, .int .i64 (st : Int), .slice Av fs.length cv, .int .i64 (m : Int)] 70)))
    have hlin : Lin0 (w1.alloc (.cells #[.bool old, .int .i64 (st : Int), .slice Av fs.length cv, .int .i64 (m : Int)] 70)) w1.heap.size old st (.slice Av fs.length cv) fs m := ⟨heap_alloc_new w1 _, (hown.low (Nat.zero_le _)).alloc _⟩
    have HTL := Lib.hid (tell_any _ w1.heap.size old st m (.slice Av fs.length cv) fs hlin HSF.out.1.2 (fun f hf => (HSF.out.1.1 f hf).2) (mx_up HMX.out HQ2.out.below))
    have HLI := Lib.hid hlin
    clear hb1 HRD hown hlin
    cases htl : tellL old st fs with
    | inr e0 =>
      rw [htl] at HTL HPT
      have HR := Lib.hid (show PL = .err e0 from HPT.out)
      have he := HTE.out e0 htl
      clear htl HPT
      go_wp2_with fail
      refine (Hid.out HTL).mono ?_
      rintro e w3 ⟨rfl, hb3⟩
      have HQ3 := Lib.hid (HQ2.out.next hb3)
      have HQ4 := Lib.hid (HQ3.out.next (below_alloc (Nat.le_refl _) (.cells #[.int .i64 0, .int .i64 0, .bool false, .bool false] 35)))
      clear hb3 HTL
      obtain ⟨q0, q1, q2, q3, qf⟩ := HQ4.out.cells
      have f0 := qf 0
      have f1 := qf 1
      have f2 := qf 2
      have f3 := qf 3
      clear qf
      obtain ⟨e0', e1, e2, e3⟩ := set4_cells HQ4.out.head (.int .i64 0) (.int .i64 0) (.bool false) (.bool false)
      have HBB := Lib.hid (HQ4.out.below.trans (set4_below (B := w.heap.size) _ (Nat.le_refl _) (.int .i64 0) (.int .i64 0) (.bool false) (.bool false)))
      unfold set4 at e0' e1 e2 e3 HBB
      unfold TlP zeroH
      rcases he with rfl | rfl
      · go_wp2
        exact bodyPost_ret (v := .tuple #[zeroH, .int .i64 0, .int .i64 11]) (by simp [results, Tryz.f25, go_sem, e0', e1, e2, e3, zeroH]) rfl ⟨by rw [HR.out]; rfl, by first | exact HBB.out | exact HBB.out.drew⟩
      · go_wp2
        exact bodyPost_ret (v := .tuple #[zeroH, .int .i64 0, .int .i64 12]) (by simp [results, Tryz.f25, go_sem, e0', e1, e2, e3, zeroH]) rfl ⟨by rw [HR.out]; rfl, by first | exact HBB.out | exact HBB.out.drew⟩
    | inl hd =>
      rw [htl] at HTL HPT
      have HR := Lib.hid (show PL = .whole hd m from HPT.out)
      obtain ⟨ha, hb, hc, hd⟩ := hd
      clear htl HPT HTE
      go_wp2_with fail
      refine (Hid.out HTL).mono ?_
      rintro e w3 ⟨rfl, hb3⟩
      have HQ3 := Lib.hid (HQ2.out.next hb3)
      have HQ4 := Lib.hid (HQ3.out.next (below_alloc (Nat.le_refl _) (.cells #[.int .i64 (ha : Int), .int .i64 hb, .bool hc, .bool hd] 35)))
      have hl3 := ((HLI.out.below hb3).below (below_alloc (Nat.le_refl _) (.cells #[.int .i64 (ha : Int), .int .i64 hb, .bool hc, .bool hd] 35))).cells.2.2.2.1
      obtain ⟨q0, q1, q2, q3, qf⟩ := HQ4.out.cells
      have f0 := qf 0
      have f1 := qf 1
      have f2 := qf 2
      have f3 := qf 3
      obtain ⟨e0', e1, e2, e3⟩ := set4_cells HQ4.out.head (.int .i64 (ha : Int)) (.int .i64 hb) (.bool hc) (.bool hd)
      have HBB := Lib.hid (HQ4.out.below.trans (set4_below (B := w.heap.size) _ (Nat.le_refl _) (.int .i64 (ha : Int)) (.int .i64 hb) (.bool hc) (.bool hd)))
      have hl4 : (set4 (w3.alloc (.cells #[.int .i64 (ha : Int), .int .i64 hb, .bool hc, .bool hd] 35)) w.heap.size (.int .i64 (ha : Int)) (.int .i64 hb) (.bool hc) (.bool hd)).cell? ⟨w1.heap.size, 3, none⟩ = some (.int .i64 (m : Int)) :=
        (World.cell?_of_block (a := ⟨w1.heap.size, 3, none⟩) ((set4_turns _ _ _ _ _).block w1.heap.size (by have := World.block_lt_of_cell? _ _ hl3; simpa using this) (by have := HQ1.out.lt; rw [List.mem_singleton]; omega))).trans hl3
      unfold set4 at e0' e1 e2 e3 HBB hl4
      clear hb3 HTL HLI qf
      unfold TlP HdV
      go_wp2_with fail
      go_region
      all_goals
        go_wp2
        exact bodyPost_ret (v := .tuple #[.agg #[.int .i64 (ha : Int), .int .i64 hb, .bool hc, .bool hd], .int .i64 (m : Int), .int .i64 0]) (by simp [results, Tryz.f25, go_sem, e0', e1, e2, e3]) rfl ⟨by rw [HR.out]; rfl, by first | exact HBB.out | exact HBB.out.drew⟩
end Go.Proofs.YtlelemjmknbnaaaGreatDoor
