/- Acts in memory, and whether there are few. -/
import Derived.Test.YtlelemjmknbnaaaNetAny
namespace Go.Proofs.Ytlelemjmknbnaaa
open Go.RowKit

structure Ac where
  kind : Int
  id : Int
  host : ByteArray
  A : Option Addr
  b : List UInt8
  c : Nat
def AReads (w : World) (Bd : Nat) (A0 : Option Addr) (l : List Ac) : Prop :=
  l = [] ∨ ∃ g off, A0 = some ⟨g, off, none⟩ ∧ g < Bd ∧ ∀ (j : Nat) (a : Ac), l[j]? = some a →
    (w.cell? ⟨g, off + j * 4, none⟩ = some (.int .i64 a.kind) ∧ w.cell? ⟨g, off + j * 4 + 1, none⟩ = some (.int .i64 a.id) ∧ w.cell? ⟨g, off + j * 4 + 2, none⟩ = some (.string a.host) ∧ w.cell? ⟨g, off + j * 4 + 3, none⟩ = some (.slice a.A a.b.length a.c)) ∧ BReads w Bd a.A a.b ∧ (a.A = none → a.c = 0)
def hugeA (l : List Ac) : Prop := ∀ a ∈ l, a.b.length ≤ 140737488355328 ∧ a.host.size ≤ 140737488355328
def sumA : List Ac → Nat
  | [] => 0
  | a :: l => (a.b.length + a.host.size) + sumA l
theorem sumA_append (l m : List Ac) : sumA (l ++ m) = sumA l + sumA m := by
  induction l with
  | nil => simp [sumA]
  | cons a l ih => simp only [List.cons_append, sumA, ih]; omega
theorem sumA_le {l : List Ac} (h : hugeA l) : sumA l ≤ l.length * 281474976710656 := by
  induction l with
  | nil => simp [sumA]
  | cons a l ih =>
    have h1 := h a (List.mem_cons_self ..)
    have h2 := ih (fun x hx => h x (List.mem_cons.2 (.inr hx)))
    simp only [sumA, List.length_cons, Nat.succ_mul]
    omega
theorem sumA_take {l : List Ac} (h : hugeA l) {k : Nat} (hk : k ≤ 61) : sumA (l.take k) ≤ 61 * 281474976710656 := by
  have h1 := sumA_le (l := l.take k) (fun x hx => h x (List.mem_of_mem_take hx))
  have h2 : (l.take k).length ≤ 61 := by rw [List.length_take]; omega
  exact Nat.le_trans h1 (Nat.mul_le_mul_right _ h2)
def fewB (l : List Ac) (most : Nat) : Bool := decide (l.length ≤ most) && decide (sumA l ≤ 3000)
set_option maxRecDepth 100000 in
set_option maxHeartbeats 2000000 in
theorem few_any (A0 : Option Addr) (cap most : Nat) (l : List Ac) (w : World) (hl : l.length ≤ 9223372036854775807) (hm : most ≤ 60) (hh : hugeA l) (hr : AReads w w.heap.size A0 l) :
    Calls Try.prog 4 #[.slice A0 l.length cap, .int .i64 (most : Int)] w fun e w' => e = .returned (.bool (fewB l most)) ∧ Below w.heap.size w w' := by
  have HR := Lib.hid hr
  have HH := Lib.hid hh
  have HM := Lib.hid hm
  have HL := Lib.hid hl
  obtain ⟨NN, hNN⟩ : ∃ NN, NN = l.length := ⟨_, rfl⟩
  rw [← hNN]
  have HNN := Lib.hid hNN
  have hn64 : (NN : Int) ≤ 9223372036854775807 := by omega
  clear hr hh hm hl hNN
  go_enter Try.func4, Try.ntmps4
  go_wp2
  go_loopw [5, 6] (fun s i wr => ∃ k : Nat, k ≤ NN ∧ k ≤ most + 1 ∧ i = .int .i64 k ∧ s = .int .i64 (sumA (l.take k) : Int) ∧ Hid (Below w.heap.size w wr)) (fun _ i _ => NN - (intOf i).toNat)
  case atStart => exact ⟨0, Nat.zero_le _, Nat.zero_le _, rfl, rfl, Lib.hid (Below.refl _ _)⟩
  case round =>
    obtain ⟨k, hk, hkm, rfl, rfl, HB⟩ := hrel
    obtain ⟨S, hS⟩ : ∃ S, S = sumA (l.take k) := ⟨_, rfl⟩
    have hSle : S ≤ 61 * 281474976710656 := by rw [hS]; exact sumA_take HH.out (by have := HM.out; omega)
    rw [← hS]
    by_cases hlt : k < NN
    · have hd1 : decide ((k : Int) < (NN : Int)) = true := by simp; omega
      by_cases hle : k ≤ most
      · have hd2 : decide ((k : Int) ≤ (most : Int)) = true := by simp; omega
        obtain ⟨a, ha⟩ : ∃ a, l[k]? = some a := ⟨_, List.getElem?_eq_getElem (by have := HNN.out; omega)⟩
        rcases HR.out with h0 | ⟨g, off, rfl, hg, hc⟩
        · rw [h0] at ha
          simp at ha
        · obtain ⟨⟨c0, c1, c2, c3⟩, _, _⟩ := hc k a ha
          have d2 : wr.cell? ⟨g, off + k * 4 + 2, none⟩ = some (.string a.host) := (HB.out.cell (p := ⟨g, off + k * 4 + 2, none⟩) hg).trans c2
          have d3 : wr.cell? ⟨g, off + k * 4 + 3, none⟩ = some (.slice a.A a.b.length a.c) := (HB.out.cell (p := ⟨g, off + k * 4 + 3, none⟩) hg).trans c3
          have hb := HH.out a (List.mem_of_getElem? ha)
          have hS2 : ((sumA (l.take (k + 1)) : Nat) : Int) = (S : Int) + (a.b.length : Int) + (a.host.size : Int) := by
            rw [List.take_add_one, ha, sumA_append, ← hS]
            simp [sumA]
            omega
          have e1 : IntKind.i64.wrap ((S : Int) + (a.b.length : Int)) = (S : Int) + (a.b.length : Int) := IntWalk.i64_in _ (by omega)
          have e2 : IntKind.i64.wrap ((S : Int) + (a.b.length : Int) + (a.host.size : Int)) = (S : Int) + (a.b.length : Int) + (a.host.size : Int) := IntWalk.i64_in _ (by omega)
          have hlt' : (k : Int) < (NN : Int) := by omega
          have hk0 : (0 : Int) ≤ (k : Int) := by omega
          have HS2 := Lib.hid hS2
          have HLE := Lib.hid hle
          have HLT := Lib.hid hlt
          clear hc c0 c1 c2 c3 ha hb hS hS2 hle
          go_wp2
          all_goals try (exfalso; have := HLE.out; omega)
          go_quiet (fail)
          go_wp2
          go_roundw
          case rel => exact ⟨k + 1, by have := HLT.out; omega, by have := HLE.out; omega, by go_num, by rw [HS2.out], Lib.hid (HB.out.trans (((Turns.refl [] wr).drewN nq).below (by simp) HB.out.size))⟩
          case measure => have := HLT.out; simp [intOf] <;> omega
      · have hd2 : decide ((k : Int) ≤ (most : Int)) = false := by simp; omega
        have HE := Lib.hid (show fewB l most = false by unfold fewB; rw [decide_eq_false (by have := HNN.out; omega)]; rfl)
        have hd3 : decide ((NN : Int) ≤ (most : Int)) = false := by simp; omega
        clear hS hSle
        go_wp2
        all_goals first
          | (exfalso; omega)
          | (go_ret; exact ⟨by rw [HE.out]; simp, HB.out⟩)
    · have hd1 : decide ((k : Int) < (NN : Int)) = false := by simp; omega
      obtain rfl : k = NN := by omega
      have hS3 : S = sumA l := by rw [hS, HNN.out, List.take_length]
      have HE := Lib.hid (show fewB l most = (decide (k ≤ most) && decide (S ≤ 3000)) by unfold fewB; rw [hS3, HNN.out])
      clear hS hS3 hSle
      by_cases hle : k ≤ most
      · have hd3 : decide ((k : Int) ≤ (most : Int)) = true := by simp; omega
        by_cases hs : S ≤ 3000
        · have hd4 : decide ((S : Int) ≤ 3000) = true := by simp; omega
          rw [decide_eq_true hle, decide_eq_true hs] at HE
          have HS1 := Lib.hid hs
          go_wp2
          all_goals first
            | (exfalso; omega)
            | (go_ret; exact ⟨by rw [HE.out]; simp [HS1.out], HB.out⟩)
        · have hd4 : decide ((S : Int) ≤ 3000) = false := by simp; omega
          rw [decide_eq_true hle, decide_eq_false hs] at HE
          have HS1 := Lib.hid hs
          go_wp2
          all_goals first
            | (exfalso; omega)
            | (go_ret; exact ⟨by rw [HE.out]; simp [HS1.out], HB.out⟩)
      · have hd3 : decide ((k : Int) ≤ (most : Int)) = false := by simp; omega
        rw [decide_eq_false hle] at HE
        go_wp2
        all_goals first
          | (exfalso; omega)
          | (go_ret; exact ⟨by rw [HE.out]; simp, HB.out⟩)
end Go.Proofs.Ytlelemjmknbnaaa
