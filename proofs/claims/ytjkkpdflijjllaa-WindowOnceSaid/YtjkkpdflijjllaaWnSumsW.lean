/- WindowSums, walked. -/
import Derived.Test.YtjkkpdflijjllaaWnPlaysW
namespace Go.Proofs.Ytjkkpdflijjllaa
open Go.RowKit

def i6K : EK Int := ⟨53, 2, 1, 8, .int .i64 0, fun n => [.int .i64 n]⟩
theorem i6Ok : i6K.Ok Try.prog := ⟨Try.underlying53, by kernel_rfl, rfl, by decide, by decide, fun _ => rfl, fun x u hu => by simp [i6K] at hu; rcases hu with rfl; rfl⟩
theorem ints_at {w : World} {A0 : Option Addr} {l : List Int} (hr : i6K.Reads w w.heap.size A0 l) {k : Nat} {a : Int} (ha : l[k]? = some a) : ∃ g off, A0 = some ⟨g, off, none⟩ ∧ ∀ W, Turns [] w W → W.cell? ⟨g, off + k, none⟩ = some (.int .i64 a) := by
  rcases hr with h | ⟨g, off, rfl, hg, hc⟩
  · rw [h] at ha
    simp at ha
  · have hf := fun j u hj => hc _ u (EK.flat_at i6Ok ha j u hj)
    have h0 := hf 0 _ rfl
    simp only [i6K, Nat.add_zero, Nat.mul_one] at h0
    exact ⟨g, off, rfl, fun W ht => (ht.cell hg (by simp) _).trans h0⟩
set_option maxRecDepth 100000 in
set_option maxHeartbeats 2000000 in
theorem winSums_many (C : WiC) (A0 : Option Addr) (cap n : Nat) (w : World) (hn : 20 < n) :
    Calls Try.prog 5 #[.slice A0 n cap] w (FinN w) := by
  have HK := Lib.hid (fun Y => knownN_any C Y)
  have d1 : decide ((20 : Int) < (n : Int)) = true := by simp; omega
  have d2 : decide (20 < n) = true := by simpa using hn
  clear hn
  go_enter Try.func5, Try.ntmps5
  go_wp2_with (go_at_call 10; refine (HK.out _).mono ?_; rintro e w3 ⟨rfl, t3⟩; have HT3 := Lib.hid t3; clear t3)
  go_ret
  exact ⟨rfl, HT3.out⟩
set_option maxRecDepth 100000 in
set_option maxHeartbeats 4000000 in
theorem winSums_main (C : WiC) (A0 : Option Addr) (cap : Nat) (l : List Int) (w : World) (hn : l.length ≤ 20) (hr : i6K.Reads w w.heap.size A0 l) (hok : ∀ x ∈ l, I64 x) :
    Calls Try.prog 5 #[.slice A0 l.length cap] w (FinN w) := by
  have hI : ∀ n : Int, -100 ≤ n → n ≤ 100 → I64 n := fun n h1 h2 => ⟨by omega, by omega⟩
  have HB := Lib.hid (beginN_any C (Turns.refl [] w) 5 0 2 (hI _ (by omega) (by omega)) (hI _ (by omega) (by omega)) (hI _ (by omega) (by omega)) (by rfl))
  have HS0 := Lib.hid (WsOk.new (len := 5) (lat := 0) (most := 2) (by rfl))
  have HK := Lib.hid (fun Y => knownN_any C Y)
  have HR := Lib.hid hr
  have HOK := Lib.hid (show ∀ x ∈ l, (⟨2, 0, ⟨#[97]⟩, 3, x, false⟩ : Ac).Ok from fun x hx => ⟨show (⟨#[97]⟩ : ByteArray).size ≤ 140737488355328 from by decide, hI 0 (by omega) (by omega), hI 3 (by omega) (by omega), hok x hx⟩)
  obtain ⟨NN, hNN⟩ : ∃ NN, NN = l.length := ⟨_, rfl⟩
  have HNN := Lib.hid hNN
  rw [← hNN] at hn ⊢
  have d1 : decide ((20 : Int) < (NN : Int)) = false := by simp; omega
  have d2 : decide (20 < NN) = false := by simpa using hn
  have hnn : (NN : Int) ≤ 20 := by omega
  clear hr hok hNN hI
  go_enter Try.func5, Try.ntmps5
  go_wp2_with fail
  refine HB.out.mono ?_
  rintro e w2 ⟨p, rv, rfl, h2⟩
  have HP := Lib.hid (show RunN C [] (.plain w) w2 p rv 0 from ⟨_, h2, HS0.out⟩)
  clear h2 HB
  go_wp2_with fail
  go_loopw [6] (fun iv wr => ∃ k : Nat, k ≤ NN ∧ iv = .int .i64 (k : Int) ∧ Hid (RunN C [] (.plain w) wr p rv k)) (fun iv _ => NN - (intOf iv).toNat)
  case atStart => exact ⟨0, Nat.zero_le _, rfl, HP⟩
  case round =>
    obtain ⟨k, hk, rfl, HX⟩ := hrel
    have hk0 : (0 : Int) ≤ (k : Int) := by omega
    by_cases hlt : k < NN
    · have hlt' : (k : Int) < (NN : Int) := by omega
      obtain ⟨a, ha⟩ : ∃ a, l[k]? = some a := ⟨_, List.getElem?_eq_getElem (by have := HNN.out; omega)⟩
      obtain ⟨g, off, rfl, hc⟩ := ints_at HR.out ha
      have x0 := hc wr HX.out.turns
      have HDO := Lib.hid (HX.out.do (by omega) _ (HOK.out a (List.mem_of_getElem? ha)))
      have HLT := Lib.hid hlt
      unfold Ac.val at HDO
      simp only at HDO
      clear ha hc
      go_wp2_with (go_at_call 12; refine HDO.out.mono ?_; rintro e w4 ⟨rfl, h4⟩; have H4 := Lib.hid h4; clear h4)
      exact ⟨⟨k + 1, HLT.out, by go_num, H4⟩, by have := HLT.out; simp [intOf]; omega⟩
    · have hge : decide ((k : Int) < (NN : Int)) = false := by simp; omega
      have HSM := Lib.hid (HX.out.same (by omega))
      have HT2 := Lib.hid HX.out.turns
      go_wp2_with (first | (go_at_call 13; refine HSM.out.mono ?_; rintro e w5 ⟨rfl, t5⟩; have HT5 := Lib.hid (HT2.out.then t5); clear t5) | (go_at_call 10; refine (HK.out _).mono ?_; rintro e w3 ⟨rfl, t3⟩; have HT3 := Lib.hid (HT5.out.then t3); clear t3))
      go_ret
      exact ⟨rfl, HT3.out⟩
end Go.Proofs.Ytjkkpdflijjllaa
