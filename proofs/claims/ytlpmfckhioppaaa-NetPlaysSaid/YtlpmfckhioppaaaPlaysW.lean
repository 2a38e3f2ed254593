/- NetPlays: the walk. -/
import Derived.Test.YtlpmfckhioppaaaSameB
import Derived.Test.YtlpmfckhioppaaaDoAny
import Derived.Test.YtlpmfckhioppaaaActs
import Derived.Test.YtlpmfckhioppaaaNetOne
import Derived.Test.YtlpmfckhioppaaaDocDial
import Derived.Deep.RegionLaw
import Derived.Lib.BufferRead
namespace Go.Proofs.Ytlpmfckhioppaaa
open Go.RowKit

theorem sumA_take_le (l : List Ac) (k : Nat) : sumA (l.take k) ≤ sumA l := by
  have h := sumA_append (l.take k) (l.drop k)
  rw [List.take_append_drop] at h
  omega
theorem sumA_mem : ∀ {l : List Ac} {a : Ac}, a ∈ l → a.b.length + a.host.size ≤ sumA l
  | x :: l, a, h => by
    unfold sumA
    rcases List.mem_cons.1 h with rfl | h
    · omega
    · have := sumA_mem h
      omega
theorem sumA_step {l : List Ac} {k : Nat} {a : Ac} (h : l[k]? = some a) : sumA (l.take (k + 1)) = sumA (l.take k) + (a.host.size + a.b.length) := by
  rw [List.take_add_one, h, sumA_append]
  simp [sumA]
  omega
/-- Both nets, behind k acts. -/
def Play (w W : World) (bn bm rn : Nat) (most : Int) (k t : Nat) : Prop := ∃ v N L rs, Two w.heap.size W bn bm rn v (max most 0) N L rs ∧ N ≤ k ∧ SmallR t rs
theorem Play.kept {w W W' : World} {bn bm rn : Nat} {most : Int} {k t : Nat} (h : Play w W bn bm rn most k t) (ht : Turns [] W W') : Play w W' bn bm rn most k t := by
  obtain ⟨v, N, L, rs, h1, h2, h3⟩ := h
  exact ⟨v, N, L, rs, h1.kept ht, h2, h3⟩
theorem Play.below {w W W' : World} {bn bm rn : Nat} {most : Int} {k t : Nat} (h : Play w W bn bm rn most k t) (hb : Below W.heap.size W W') : Play w W' bn bm rn most k t := h.kept (Turns.of_below hb (Nat.le_refl _))
theorem play_do {w W : World} {bn bm rn : Nat} {most : Int} {k t : Nat} (h : Play w W bn bm rn most k t) (hB : w.heap.size ≤ W.heap.size) (hk : k ≤ 60) (ht : t ≤ 3000) (a : Ac) (hid : (Lit.int .i64 a.id).wf = true) (hs : a.b.length + a.host.size ≤ 3000) (hr : BReads W w.heap.size a.A a.b) (hc : a.A = none → a.c = 0) :
    Calls Try.prog 12 #[.pointer (some ⟨bn, 0, none⟩), .pointer (some ⟨rn, 0, none⟩), .agg #[.int .i64 a.kind, .int .i64 a.id, .string a.host, .slice a.A a.b.length a.c]] W fun e w' =>
      e = .returned (.bool true) ∧ Play w w' bn bm rn most (k + 1) (t + (a.host.size + a.b.length)) ∧ Below w.heap.size W w' := by
  obtain ⟨v, N, L, rs, h1, h2, h3⟩ := h
  refine (do_any h1 hB (by omega) h3 (by omega) a.kind a.id hid a.host (by omega) a.A a.b a.c hr hc (by omega)).mono ?_
  rintro e w' ⟨rfl, ⟨v', N', L', rs', g1, g2, g3⟩, hb⟩
  exact ⟨rfl, ⟨v', N', L', rs', g1, by omega, g3⟩, hb⟩
theorem play_same {w W : World} {bn bm rn : Nat} {most : Int} {k t : Nat} (h : Play w W bn bm rn most k t) (hk : k ≤ 900) (ht : t ≤ 100000) (leave : Int) :
    Calls Try.prog 13 #[.pointer (some ⟨bn, 0, none⟩), .pointer (some ⟨rn, 0, none⟩), .int .i64 leave] W fun e w' => e = .returned (.bool true) ∧ Below W.heap.size W w' := by
  obtain ⟨v, N, L, rs, h1, h2, h3⟩ := h
  exact same_any h1 (by omega) h3 ht leave
theorem play_len {w W : World} {bn bm rn : Nat} {most : Int} {k t : Nat} (h : Play w W bn bm rn most k t) :
    ∃ n : Nat, (n : Int) ≤ max most 0 ∧ ∀ W', Turns [] W W' → Calls Try.prog 14 #[.pointer (some ⟨bn, 0, none⟩)] W' fun e w' => e = .returned (.int .i64 (n : Int)) ∧ w' = W' := by
  obtain ⟨v, N, L, rs, h1, h2, h3⟩ := h
  exact ⟨L.length, by rw [h1.link.len]; exact h1.room, fun W' hW => len_any (h1.kept hW).net⟩
theorem play_start {w w1 w2 w3 : World} {bn bm rn : Nat} {v : Value} {most : Int} (h1 : NetAt w.heap.size w2 bn bm (max most 0) 0 []) (ht : Turns [] w2 w3) (h2 : RefAt w.heap.size w3 rn v (max most 0) 0 []) : Play w w3 bn bm rn most 0 0 :=
  ⟨v, 0, [], [], ⟨h1.kept ht (by simp), h2, rfl, by simp; omega⟩, Nat.le_refl _, fun r hr => by cases hr⟩

namespace netPlays
def Fin (w : World) (e : Ending) (w' : World) : Prop := e = .returned (.bool true) ∧ Below w.heap.size w w'
set_option maxRecDepth 100000 in
set_option maxHeartbeats 4000000 in
theorem main (most leave : Int) (A0 : Option Addr) (cap : Nat) (l : List Ac) (w : World) (hl : l.length ≤ 9223372036854775807) (hh : hugeA l) (hr : AReads w w.heap.size A0 l) (hid : ∀ x ∈ l, (Lit.int .i64 x.id).wf = true) (hf : fewB l 60 = true) :
    Calls Try.prog 3 #[.int .i64 most, .slice A0 l.length cap, .int .i64 leave] w (Fin w) := by
  have HF := Lib.hid (few_any A0 cap 60 l w hl (Nat.le_refl _) hh hr)
  rw [hf] at HF
  have h60 : l.length ≤ 60 ∧ sumA l ≤ 3000 := by
    unfold fewB at hf
    simpa using hf
  have HLE := Lib.hid h60
  have HR := Lib.hid hr
  have HID := Lib.hid hid
  have HK := Lib.hid (fun W (hW : w.heap.size ≤ W.heap.size) => known_yes w.heap.size W hW)
  have HNW : Hid (∀ W, w.heap.size ≤ W.heap.size → Calls Try.prog 10 #[.int .i64 most] W fun e w' => ∃ bn bm, e = .returned (.pointer (some ⟨bn, 0, none⟩)) ∧ NetAt w.heap.size w' bn bm (max most 0) 0 [] ∧ Turns [] W w') := Lib.hid (fun W hW => (new_any w.heap.size most W hW).mono (fun e w' ⟨h1, h2, h3⟩ => ⟨_, _, h1, h2, h3⟩))
  have HRW : Hid (∀ W, w.heap.size ≤ W.heap.size → Calls Try.prog 11 #[.int .i64 most] W fun e w' => ∃ rn v, e = .returned (.pointer (some ⟨rn, 0, none⟩)) ∧ RefAt w.heap.size w' rn v (max most 0) 0 [] ∧ Turns [] W w') := Lib.hid (fun W hW => (rnew_any w.heap.size most W hW).mono (fun e w' ⟨h1, h2, h3⟩ => ⟨_, _, h1, h2, h3⟩))
  obtain ⟨NN, hNN⟩ : ∃ NN, NN = l.length := ⟨_, rfl⟩
  rw [← hNN] at HF ⊢
  have HNN := Lib.hid hNN
  clear hl hh hr hid hf h60 hNN
  go_enter Try.func3, Try.ntmps3
  go_wp2_with fail
  refine (Hid.out HF).mono ?_
  rintro e w1 ⟨rfl, hb1⟩
  have HB1 := Lib.hid hb1
  clear HF hb1
  go_wp2_with fail
  refine (HNW.out _ HB1.out.size).mono ?_
  rintro e w2 ⟨bn, bm, rfl, hn2, ht2⟩
  have HN2 := Lib.hid hn2
  have HB2 := Lib.hid (HB1.out.trans (ht2.below (by simp) HB1.out.size))
  clear HNW hn2 ht2
  go_wp2_with fail
  refine (HRW.out _ HB2.out.size).mono ?_
  rintro e w3 ⟨rn, v, rfl, hr3, ht3⟩
  have HP3 := Lib.hid (play_start (w1 := w) HN2.out ht3 hr3)
  have HB3 := Lib.hid (HB2.out.trans (ht3.below (by simp) HB2.out.size))
  clear HRW hr3 ht3 HN2
  go_wp2_with fail
  go_loopw [9] (fun iv wr => ∃ k : Nat, k ≤ NN ∧ iv = .int .i64 k ∧ Hid (Play w wr bn bm rn most k (sumA (l.take k))) ∧ Hid (Below w.heap.size w wr)) (fun iv _ => NN - (intOf iv).toNat)
  case atStart => exact ⟨0, Nat.zero_le _, rfl, HP3, HB3⟩
  case round =>
    clear HP3 HB3
    obtain ⟨k, hk, rfl, HP, HB⟩ := hrel
    have hn60 : (NN : Int) ≤ 60 := by have := HLE.out.1; have := HNN.out; omega
    by_cases hlt : k < NN
    · have hlt' : (k : Int) < (NN : Int) := by omega
      have hk0 : (0 : Int) ≤ (k : Int) := by omega
      obtain ⟨a, ha⟩ : ∃ a, l[k]? = some a := ⟨_, List.getElem?_eq_getElem (by have := HNN.out; omega)⟩
      rcases HR.out with h0 | ⟨g, off, rfl, hg, hc⟩
      · rw [h0] at ha
        simp at ha
      obtain ⟨⟨c0, c1, c2, c3⟩, hbr, hcn⟩ := hc k a ha
      have d0 : wr.cell? ⟨g, off + k * 4, none⟩ = some (.int .i64 a.kind) := (HB.out.cell (p := ⟨g, off + k * 4, none⟩) hg).trans c0
      have d1 : wr.cell? ⟨g, off + k * 4 + 1, none⟩ = some (.int .i64 a.id) := (HB.out.cell (p := ⟨g, off + k * 4 + 1, none⟩) hg).trans c1
      have d2 : wr.cell? ⟨g, off + k * 4 + 2, none⟩ = some (.string a.host) := (HB.out.cell (p := ⟨g, off + k * 4 + 2, none⟩) hg).trans c2
      have d3 : wr.cell? ⟨g, off + k * 4 + 3, none⟩ = some (.slice a.A a.b.length a.c) := (HB.out.cell (p := ⟨g, off + k * 4 + 3, none⟩) hg).trans c3
      have hst := sumA_step ha
      have hk60 : k + 1 ≤ 60 := by have := HLE.out.1; have := HNN.out; omega
      have hle1 := sumA_take_le l k
      have hle2 := sumA_take_le l (k + 1)
      have hle3 := HLE.out.2
      have hma := sumA_mem (List.mem_of_getElem? ha)
      have HDO := Lib.hid (fun W (hW : Turns [] wr W) => play_do (HP.out.kept hW) (Nat.le_trans HB.out.size hW.size) (by omega) (by omega) a (HID.out a (List.mem_of_getElem? ha)) (by omega) (hbr.below (HB.out.trans (hW.below (by simp) HB.out.size))) hcn)
      rw [← hst] at HDO
      have HSM := Lib.hid (fun W (h : Play w W bn bm rn most (k + 1) (sumA (l.take (k + 1)))) => play_same h (by omega) (by omega) leave)
      clear hst hle1 hle2 hle3 hma hbr hcn hc c0 c1 c2 c3 ha hg
      go_wp2_with fail
      refine (HDO.out _ (Turns.refl _ _)).mono ?_
      rintro e w4 ⟨rfl, hp4, hb4⟩
      have HP4 := Lib.hid hp4
      have HB4 := Lib.hid (HB.out.trans hb4)
      have HS4 := Lib.hid (HSM.out _ HP4.out)
      clear hp4 hb4 d0 d1 d2 d3 HDO HSM
      go_wp2_with fail
      refine (Hid.out HS4).mono ?_
      rintro e w5 ⟨rfl, hb5⟩
      have HP5 := Lib.hid (HP4.out.below hb5)
      have HB5 := Lib.hid (HB4.out.trans (hb5.mono HB4.out.size))
      obtain ⟨n5, hn5, hL5⟩ := play_len HP5.out
      have HL5 := Lib.hid (hL5 _ (Turns.refl _ _))
      clear hb5 hL5 HS4 HP4
      go_wp2_with fail
      refine (Hid.out HL5).mono ?_
      rintro e w6 ⟨rfl, rfl⟩
      have hn5' : decide (max most 0 < (n5 : Int)) = false := by rw [decide_eq_false_iff_not]; omega
      clear HL5
      go_wp2
      go_roundw
      case rel => exact ⟨k + 1, by omega, by go_num, HP5, HB5⟩
      case measure => simp [intOf] <;> omega
    · obtain rfl : k = NN := by omega
      have HSM := Lib.hid (play_same HP.out (by omega) (by have := sumA_take_le l k; have := HLE.out.2; omega) leave)
      clear hlt hk
      go_wp2_with fail
      refine (Hid.out HSM).mono ?_
      rintro e w4 ⟨rfl, hb4⟩
      have HB4 := Lib.hid (HB.out.trans (hb4.mono HB.out.size))
      have HK4 := Lib.hid (HK.out _ HB4.out.size)
      clear hb4 HSM
      go_wp2_with fail
      refine (Hid.out HK4).mono ?_
      rintro e w5 ⟨rfl, hb5⟩
      have HB5 := Lib.hid (HB4.out.trans hb5)
      clear hb5
      go_wp2
      go_ret
      exact ⟨rfl, HB5.out⟩
set_option maxRecDepth 100000 in
set_option maxHeartbeats 2000000 in
theorem early (most leave : Int) (A0 : Option Addr) (cap : Nat) (l : List Ac) (w : World) (hl : l.length ≤ 9223372036854775807) (hh : hugeA l) (hr : AReads w w.heap.size A0 l) (hf : fewB l 60 = false) :
    Calls Try.prog 3 #[.int .i64 most, .slice A0 l.length cap, .int .i64 leave] w (Fin w) := by
  have HF := Lib.hid (few_any A0 cap 60 l w hl (Nat.le_refl _) hh hr)
  rw [hf] at HF
  have HK := Lib.hid (fun W (hW : w.heap.size ≤ W.heap.size) => known_yes w.heap.size W hW)
  obtain ⟨NN, hNN⟩ : ∃ NN, NN = l.length := ⟨_, rfl⟩
  rw [← hNN] at HF ⊢
  clear hl hh hr hf hNN
  go_enter Try.func3, Try.ntmps3
  go_wp2_with fail
  refine (Hid.out HF).mono ?_
  rintro e w1 ⟨rfl, hb1⟩
  have HB1 := Lib.hid hb1
  have HK1 := Lib.hid (HK.out _ HB1.out.size)
  clear HF hb1
  go_wp2_with fail
  refine (Hid.out HK1).mono ?_
  rintro e w2 ⟨rfl, hb2⟩
  have HB2 := Lib.hid (HB1.out.trans hb2)
  clear hb2
  go_wp2
  go_ret
  exact ⟨rfl, HB2.out⟩
end netPlays
end Go.Proofs.Ytlpmfckhioppaaa
