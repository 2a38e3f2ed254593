/- DeltaCopies, walked, where there are not few. -/
import Derived.Test.YtcjmieofmogeiaaDlPlaysW
namespace Go.Proofs.Ytcjmieofmogeiaa
open Go.RowKit

set_option maxRecDepth 100000 in
set_option maxHeartbeats 4000000 in
theorem deltaCopies_early1 (C : MeC) (most : Int) (A0 A1 A2 : Option Addr) (cap cap1 cap2 : Nat) (l a b' : List Pt) (w : World) (hl : l.length ≤ 9223372036854775807) (ha : a.length ≤ 9223372036854775807) (hb : b'.length ≤ 9223372036854775807) (hr : PReads w w.heap.size A0 l) (hra : PReads w w.heap.size A1 a) (hrb : PReads w w.heap.size A2 b') (hf : fewP l 10 = false) :
    Calls Try.prog 6 #[.int .i64 most, .slice A0 l.length cap, .slice A1 a.length cap1, .slice A2 b'.length cap2] w (FinD w) := by
  have HF := Lib.hid (fun X (ht : Turns [] w X) => fewD_any A0 cap 10 l X hl (by omega) (hr.lift ht))
  have HFA := Lib.hid (fun X (ht : Turns [] w X) => fewD_any A1 cap1 10 a X ha (by omega) (hra.lift ht))
  have HFB := Lib.hid (fun X (ht : Turns [] w X) => fewD_any A2 cap2 10 b' X hb (by omega) (hrb.lift ht))
  rw [hf] at HF
  have HK := Lib.hid (fun W => knownM_any C W)
  obtain ⟨NN, hNN⟩ : ∃ NN, NN = l.length := ⟨_, rfl⟩
  obtain ⟨NA, hNA⟩ : ∃ NN, NN = a.length := ⟨_, rfl⟩
  obtain ⟨NB, hNB⟩ : ∃ NN, NN = b'.length := ⟨_, rfl⟩
  rw [← hNN] at HF ⊢
  rw [← hNA] at HFA ⊢
  rw [← hNB] at HFB ⊢
  have HX := Lib.hid (Turns.refl [] w)
  clear hl ha hb hr hra hrb hf hNN hNA hNB
  go_enter Try.func6, Try.ntmps6
  go_wp2_with fail
  refine (HF.out _ HX.out).mono ?_
  rintro e x0 ⟨rfl, hb0⟩
  have HX := Lib.hid (HX.out.then (Turns.of_below hb0 (Nat.le_refl _)))
  clear hb0
  go_wp2_with fail
  refine (HK.out _).mono ?_
  rintro e w2 ⟨rfl, ht2⟩
  have HT := Lib.hid (HX.out.then ht2)
  clear ht2
  go_wp2
  go_ret
  exact ⟨rfl, HT.out⟩
set_option maxRecDepth 100000 in
set_option maxHeartbeats 4000000 in
theorem deltaCopies_early2 (C : MeC) (most : Int) (A0 A1 A2 : Option Addr) (cap cap1 cap2 : Nat) (l a b' : List Pt) (w : World) (hl : l.length ≤ 9223372036854775807) (ha : a.length ≤ 9223372036854775807) (hb : b'.length ≤ 9223372036854775807) (hr : PReads w w.heap.size A0 l) (hra : PReads w w.heap.size A1 a) (hrb : PReads w w.heap.size A2 b') (hf : fewP l 10 = true ∧ fewP a 10 = false) :
    Calls Try.prog 6 #[.int .i64 most, .slice A0 l.length cap, .slice A1 a.length cap1, .slice A2 b'.length cap2] w (FinD w) := by
  have HF := Lib.hid (fun X (ht : Turns [] w X) => fewD_any A0 cap 10 l X hl (by omega) (hr.lift ht))
  have HFA := Lib.hid (fun X (ht : Turns [] w X) => fewD_any A1 cap1 10 a X ha (by omega) (hra.lift ht))
  have HFB := Lib.hid (fun X (ht : Turns [] w X) => fewD_any A2 cap2 10 b' X hb (by omega) (hrb.lift ht))
  rw [hf.1] at HF
  rw [hf.2] at HFA
  have HK := Lib.hid (fun W => knownM_any C W)
  obtain ⟨NN, hNN⟩ : ∃ NN, NN = l.length := ⟨_, rfl⟩
  obtain ⟨NA, hNA⟩ : ∃ NN, NN = a.length := ⟨_, rfl⟩
  obtain ⟨NB, hNB⟩ : ∃ NN, NN = b'.length := ⟨_, rfl⟩
  rw [← hNN] at HF ⊢
  rw [← hNA] at HFA ⊢
  rw [← hNB] at HFB ⊢
  have HX := Lib.hid (Turns.refl [] w)
  clear hl ha hb hr hra hrb hf hNN hNA hNB
  go_enter Try.func6, Try.ntmps6
  go_wp2_with fail
  refine (HF.out _ HX.out).mono ?_
  rintro e x0 ⟨rfl, hb0⟩
  have HX := Lib.hid (HX.out.then (Turns.of_below hb0 (Nat.le_refl _)))
  clear hb0
  go_wp2_with fail
  refine (HFA.out _ HX.out).mono ?_
  rintro e x1 ⟨rfl, hb1⟩
  have HX := Lib.hid (HX.out.then (Turns.of_below hb1 (Nat.le_refl _)))
  clear hb1
  go_wp2_with fail
  refine (HK.out _).mono ?_
  rintro e w2 ⟨rfl, ht2⟩
  have HT := Lib.hid (HX.out.then ht2)
  clear ht2
  go_wp2
  go_ret
  exact ⟨rfl, HT.out⟩
set_option maxRecDepth 100000 in
set_option maxHeartbeats 4000000 in
theorem deltaCopies_early3 (C : MeC) (most : Int) (A0 A1 A2 : Option Addr) (cap cap1 cap2 : Nat) (l a b' : List Pt) (w : World) (hl : l.length ≤ 9223372036854775807) (ha : a.length ≤ 9223372036854775807) (hb : b'.length ≤ 9223372036854775807) (hr : PReads w w.heap.size A0 l) (hra : PReads w w.heap.size A1 a) (hrb : PReads w w.heap.size A2 b') (hf : fewP l 10 = true ∧ fewP a 10 = true ∧ fewP b' 10 = false) :
    Calls Try.prog 6 #[.int .i64 most, .slice A0 l.length cap, .slice A1 a.length cap1, .slice A2 b'.length cap2] w (FinD w) := by
  have HF := Lib.hid (fun X (ht : Turns [] w X) => fewD_any A0 cap 10 l X hl (by omega) (hr.lift ht))
  have HFA := Lib.hid (fun X (ht : Turns [] w X) => fewD_any A1 cap1 10 a X ha (by omega) (hra.lift ht))
  have HFB := Lib.hid (fun X (ht : Turns [] w X) => fewD_any A2 cap2 10 b' X hb (by omega) (hrb.lift ht))
  rw [hf.1] at HF
  rw [hf.2.1] at HFA
  rw [hf.2.2] at HFB
  have HK := Lib.hid (fun W => knownM_any C W)
  obtain ⟨NN, hNN⟩ : ∃ NN, NN = l.length := ⟨_, rfl⟩
  obtain ⟨NA, hNA⟩ : ∃ NN, NN = a.length := ⟨_, rfl⟩
  obtain ⟨NB, hNB⟩ : ∃ NN, NN = b'.length := ⟨_, rfl⟩
  rw [← hNN] at HF ⊢
  rw [← hNA] at HFA ⊢
  rw [← hNB] at HFB ⊢
  have HX := Lib.hid (Turns.refl [] w)
  clear hl ha hb hr hra hrb hf hNN hNA hNB
  go_enter Try.func6, Try.ntmps6
  go_wp2_with fail
  refine (HF.out _ HX.out).mono ?_
  rintro e x0 ⟨rfl, hb0⟩
  have HX := Lib.hid (HX.out.then (Turns.of_below hb0 (Nat.le_refl _)))
  clear hb0
  go_wp2_with fail
  refine (HFA.out _ HX.out).mono ?_
  rintro e x1 ⟨rfl, hb1⟩
  have HX := Lib.hid (HX.out.then (Turns.of_below hb1 (Nat.le_refl _)))
  clear hb1
  go_wp2_with fail
  refine (HFB.out _ HX.out).mono ?_
  rintro e x2 ⟨rfl, hb2⟩
  have HX := Lib.hid (HX.out.then (Turns.of_below hb2 (Nat.le_refl _)))
  clear hb2
  go_wp2_with fail
  refine (HK.out _).mono ?_
  rintro e w2 ⟨rfl, ht2⟩
  have HT := Lib.hid (HX.out.then ht2)
  clear ht2
  go_wp2
  go_ret
  exact ⟨rfl, HT.out⟩
end Go.Proofs.Ytcjmieofmogeiaa
