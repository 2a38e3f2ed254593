/- The program's later: a field's line. -/
import Derived.Test.YtlelemjmknbnaaaGreatDoorHeadMem
import Derived.Deep.RegionWith
namespace Go.Proofs.YtlelemjmknbnaaaGreatDoor
open Go.RowKit

def LPost (fs : List Fld) (s : List UInt8) (p : Nat) (old : Bool) (st sz : Nat) (w : World) (e : Ending) (w' : World) : Prop :=
  (e = .returned (.bool (laterL fs s).isSome) ∧ ∀ fs', laterL fs s = some fs' → ∃ v', Lin w' p old st v' fs' sz) ∧ Below p w w'
theorem fieldL_of {s a r : List UInt8} {is : Bool} (h1 : Lib.cut s [58] = (a, r, is)) : fieldL s = if is = true ∧ mayName a = true ∧ mayText r = true then some (smallL a, trimL r) else none := by
  unfold fieldL
  rw [h1]
theorem laterL_none {fs : List Fld} {s : List UInt8} (h : fieldL s = none) : laterL fs s = none := by unfold laterL; rw [h]
theorem laterL_full {fs : List Fld} {s : List UInt8} (h : fs.length = 64) : laterL fs s = none := by
  unfold laterL
  cases fieldL s with
  | none => rfl
  | some f => simp only [h, if_pos]
theorem laterL_some {fs : List Fld} {s : List UInt8} {f : Fld} (h : fieldL s = some f) (hl : fs.length ≠ 64) : laterL fs s = some (fs ++ [f]) := by
  unfold laterL
  rw [h]
  simp only [hl, if_false]
theorem Lin.setV {w : World} {p : Nat} {old : Bool} {st : Nat} {v v' : Value} {fs : List Fld} {sz : Nat} {w5 : World} (h : Lin w p old st v fs sz) {F : List Nat} (ht : Turns F w w5) (hp : p ∉ F) {fs' : List Fld} (ho : fK.Own (p + 1) w5 v' fs') : Lin (w5.setCell ⟨p, 2, none⟩ v') p old st v' fs' sz :=
  ⟨heap_setCell_same w5 p 2 _ _ _ ((ht.block p h.lt hp).trans h.head), ho.turns (Turns.setCell (F := [p]) _ _ _ (List.mem_singleton.2 rfl)) (by
    intro g hg hm
    have := (World.ownsRow.lt ho g hg).1
    rw [List.mem_singleton] at hm
    omega)⟩
theorem Turns.drew0 {w : World} {W : World} (h : Turns [] w W) : Turns [] w W.drew := ⟨h.os, h.tape, h.output, h.size, h.block⟩
theorem Turns.drawn0 (w : World) (k : Nat) : Turns [] w (w.drewN k) := ⟨rfl, rfl, rfl, Nat.le_refl _, fun _ _ _ => rfl⟩
theorem Turns.next0 {w W W' : World} (h : Turns [] w W) (hb : Below W.heap.size W W') : Turns [] w W' := h.trans (Turns.of_below hb (Nat.le_refl _)) (by simp)
theorem Turns.alloc0 {w W : World} (h : Turns [] w W) (o : Obj) : Turns [] w (W.alloc o) := h.trans (Turns.alloc (F := []) W o) (by simp)
theorem Turns.app0 {F : List Nat} {w W W' : World} {o : Obj} (h : Turns [] w W) (ht : Turns F (W.alloc o) W') : Turns F w W' :=
  (((h.mono (G := F) (by simp)).trans (Turns.alloc (F := F) W o) (fun i hi => .inl hi))).trans ht (fun i hi => .inl hi)
set_option maxRecDepth 100000 in
set_option maxHeartbeats 1000000 in
theorem later_any (s : ByteArray) (w : World) (p : Nat) (old : Bool) (st sz : Nat) (v : Value) (fs : List Fld) (hs : s.size ≤ 1000000) (hm : MX w) (h : Lin w p old st v fs sz) (hfs : fs.length ≤ 64) :
    Calls Tryz.prog 41 #[.pointer (some ⟨p, 0, none⟩), .string s] w (LPost fs s.data.toList p old st sz w) := by
  have HC1 := Lib.hid (cutS_any s ⟨#[58]⟩ w hs hm)
  have hl1 := cut_len (s := s.data.toList) (sep := [58])
  obtain ⟨⟨a, r, is⟩, h1⟩ : ∃ t, t = Lib.cut s.data.toList [58] := ⟨_, rfl⟩
  change Hid (Calls Tryz.prog 52 _ _ fun e w' => e = .returned (.tuple #[.string ⟨(Lib.cut s.data.toList [58]).1.toArray⟩, .string ⟨(Lib.cut s.data.toList [58]).2.1.toArray⟩, .bool (Lib.cut s.data.toList [58]).2.2]) ∧ ∃ n, w' = w.drewN n) at HC1
  rw [← h1] at HC1 hl1
  simp only [] at HC1 hl1
  rw [← Lib.size_eq] at hl1
  have HF := Lib.hid (fieldL_of h1.symm)
  have haz : (⟨a.toArray⟩ : ByteArray).size ≤ 1000000 := by rw [Lib.size_eq]; show a.length ≤ _; omega
  have hrz : (⟨r.toArray⟩ : ByteArray).size ≤ 1000000 := by rw [Lib.size_eq]; show r.length ≤ _; omega
  have HN : Hid (∀ W, Calls Tryz.prog 55 #[.string ⟨a.toArray⟩] W fun e w' => e = .returned (.bool (mayName a)) ∧ W = w') := Lib.hid fun W => mayName_any ⟨a.toArray⟩ W (by omega)
  have HT : Hid (∀ W, Calls Tryz.prog 54 #[.string ⟨r.toArray⟩] W fun e w' => e = .returned (.bool (mayText r)) ∧ W = w') := Lib.hid fun W => mayText_any ⟨r.toArray⟩ W (by omega)
  have HSM : Hid (∀ W, Calls Tryz.prog 44 #[.string ⟨a.toArray⟩] W fun e w' => e = .returned (.string ⟨(smallL a).toArray⟩) ∧ Below W.heap.size W w') := Lib.hid fun W => small_any ⟨a.toArray⟩ W haz
  have HTR : Hid (∀ W, Calls Tryz.prog 56 #[.string ⟨r.toArray⟩, .string ⟨#[32, 9]⟩] W fun e w' => e = .returned (.string ⟨(trimL r).toArray⟩) ∧ Below W.heap.size W w') := Lib.hid fun W => trim_any ⟨r.toArray⟩ W hrz
  have HL := Lib.hid h
  have hpw := h.lt
  have HCC : Hid (∀ (W : World) (F : List Nat), Turns F w W → p ∉ F → W.cell? ⟨p, 2, none⟩ = some v ∧ W.frozen? ⟨p, 2, none⟩ = false) := Lib.hid fun W F ht hp => by
    have hb := (ht.block p h.lt hp).trans h.head
    simp [World.cell?, World.frozen?, hb]
  obtain ⟨A, cap, rfl, -, -, -⟩ := h.own.reads
  have hlen : (fs.length : Int) ≤ 64 := by omega
  have hc2 := fun n => (HCC.out (w.drewN n) [] ((Turns.of_below (below_drewN w n) (Nat.le_refl _)).mono (by simp)) (by simp)).1
  have HPN : Hid (∀ (W : World), Turns [] w W → fK.Own (p + 1) W (.slice A fs.length cap) fs ∧ p + 1 ≤ W.heap.size) := Lib.hid fun W ht => ⟨h.own.turns ht (by simp), by have := ht.size; omega⟩
  have HPO := Lib.hid (show p ∉ ownB (.slice A fs.length cap) from fun hm => by have := (h.own.foot p hm).1; omega)
  have HFT := Lib.hid (show ∀ i ∈ ownB (.slice A fs.length cap), p ≤ i from fun i hi => by have := (h.own.foot i hi).1; omega)
  clear h h1 hl1 haz hrz hm hpw
  by_cases hg : is = true ∧ mayName a = true ∧ mayText r = true
  · obtain ⟨rfl, h3, h4⟩ := hg
    rw [h3] at HN
    rw [h4] at HT
    by_cases h64 : fs.length = 64
    · have HR := Lib.hid (laterL_full (s := s.data.toList) h64)
      have g1 : ((fs.length : Int) == 64) = true := by simp; omega
      have g2 : (fs.length == 64) = true := by simp; omega
      clear HF h3 h4 HSM HTR HPN
      go_enter Tryz.func41, Tryz.ntmps41
      go_wp2_with fail
      refine (Hid.out HC1).mono ?_
      rintro e w1 ⟨rfl, n, rfl⟩
      go_wp2_with (first | (go_at_call 55; refine (Hid.out HN _).mono ?_; rintro e w3 ⟨rfl, rfl⟩) | (refine (Hid.out HT _).mono ?_; rintro e w3 ⟨rfl, rfl⟩))
      go_ret
      exact ⟨⟨by rw [HR.out]; rfl, fun o h => by rw [HR.out] at h; cases h⟩, below_drewN w _⟩
    · have HR := Lib.hid (laterL_some (s := s.data.toList) (f := (smallL a, trimL r)) (by rw [HF.out, if_pos ⟨rfl, h3, h4⟩]) h64)
      have g1 : ((fs.length : Int) == 64) = false := by simp; omega
      have g2 : (fs.length == 64) = false := by simp; omega
      clear HF h3 h4
      go_enter Tryz.func41, Tryz.ntmps41
      go_wp2_with fail
      refine (Hid.out HC1).mono ?_
      rintro e w1 ⟨rfl, n, rfl⟩
      go_wp2_with (first | (go_at_call 55; refine (Hid.out HN _).mono ?_; rintro e w3 ⟨rfl, rfl⟩) | (refine (Hid.out HT _).mono ?_; rintro e w3 ⟨rfl, rfl⟩))
      have n1 := hc2 n
      have n2 : ∀ k, ((w.drewN k).drew).cell? ⟨p, 2, none⟩ = some (.slice A fs.length cap) := fun k => (HCC.out _ [] (Turns.drawn0 w k).drew0 (by simp)).1
      go_region_law (first | (refine EK.step_append fOk (by rfl) (.tmp 38) (.tmp 44) (by rfl) (p + 1) (.slice A fs.length cap) fs (by rfl) (by first | exact ((HPN.out _ HT4.out).1).alloc _ | exact ((HPN.out _ HT3.out).1).alloc _) _ _ [(smallL a, trimL r)] 1 1 (by rfl) (by rfl) (by first | exact EK.Reads.lone fOk (W := w4) (smallL a, trimL r) _ _ rfl rfl | exact EK.Reads.lone fOk (W := w3) (smallL a, trimL r) _ _ rfl rfl) (by simp) (by simp; omega) (by first | exact le_alloc (HPN.out _ HT4.out).2 _ | exact le_alloc (HPN.out _ HT3.out).2 _) ?_; intro v5 w5 hown5 ht5 hf5; have HO5 := Lib.hid hown5; have HT5 : Hid (Turns (ownB (.slice A fs.length cap)) w w5) := Lib.hid (by first | exact HT4.out.app0 ht5 | exact HT3.out.app0 ht5); obtain ⟨A5, c5, rfl, -, -, -⟩ := hown5.reads; have n5 := (HCC.out w5 _ HT5.out HPO.out).1; have f5 := (HCC.out w5 _ HT5.out HPO.out).2; clear hown5 ht5 hf5) | (go_simp; go_at_call 44; refine (HSM.out _).mono ?_; rintro e w3 ⟨rfl, hb3⟩; have HT3 : Hid (Turns [] w w3) := Lib.hid (by first | exact HT4.out.next0 hb3 | exact (Turns.drawn0 w _).next0 hb3 | exact (Turns.drawn0 w _).drew0.next0 hb3); have n3 := (HCC.out w3 [] HT3.out (by simp)).1; have m3 := fun o => (HCC.out (w3.alloc o) [] (HT3.out.alloc0 o) (by simp)).1; clear hb3) | (go_simp; go_at_call 56; refine (HTR.out _).mono ?_; rintro e w4 ⟨rfl, hb4⟩; have HT4 : Hid (Turns [] w w4) := Lib.hid (by first | exact HT3.out.next0 hb4 | exact (Turns.drawn0 w _).next0 hb4 | exact (Turns.drawn0 w _).drew0.next0 hb4); have n4 := (HCC.out w4 [] HT4.out (by simp)).1; have m4 := fun o => (HCC.out (w4.alloc o) [] (HT4.out.alloc0 o) (by simp)).1; clear hb4))
      all_goals
        go_wp2
        go_ret
        refine ⟨⟨by rw [HR.out]; rfl, fun o h => ?_⟩, ?_⟩
        · rw [HR.out] at h
          cases h
          have hO := HO5.out
          rw [List.length_append] at hO
          exact ⟨_, HL.out.setV HT5.out HPO.out hO⟩
        · have hB : p ≤ p := Nat.le_refl p
          exact (HT5.out.below HFT.out (Nat.le_of_lt HL.out.lt)).setCell hB _
  · have HR := Lib.hid (laterL_none (fs := fs) (s := s.data.toList) (by rw [HF.out, if_neg hg]))
    clear HF HSM HTR HPN
    generalize mayName a = nb at HN hg
    generalize mayText r = tb at HT hg
    cases is <;> cases nb <;> cases tb <;> simp only [and_self, not_true, Bool.false_eq_true, and_false, false_and, not_false_eq_true] at hg
    all_goals
      go_enter Tryz.func41, Tryz.ntmps41
      go_wp2_with fail
      refine (Hid.out HC1).mono ?_
      rintro e w1 ⟨rfl, n, rfl⟩
      go_wp2_with (first | (go_at_call 55; refine (Hid.out HN _).mono ?_; rintro e w3 ⟨rfl, rfl⟩) | (refine (Hid.out HT _).mono ?_; rintro e w3 ⟨rfl, rfl⟩))
      go_ret
      exact ⟨⟨by rw [HR.out]; rfl, fun o h => by rw [HR.out] at h; cases h⟩, below_drewN w _⟩
end Go.Proofs.YtlelemjmknbnaaaGreatDoor
