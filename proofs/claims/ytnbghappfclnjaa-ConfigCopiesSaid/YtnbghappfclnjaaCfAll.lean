/- Closures that are asked in turn: the program's all. -/
import Derived.Test.YtnbghappfclnjaaCfBox
namespace Go.Proofs.Ytnbghappfclnjaa
open Go.RowKit

theorem all_step {bs : List Bool} {k : Nat} {b : Bool} (h : bs[k]? = some b) : (bs.take (k + 1)).all id = ((bs.take k).all id && b) := by
  rw [List.take_add_one, h]
  simp
theorem all_no {bs : List Bool} {k : Nat} (h : bs[k]? = some false) : bs.all id = false := by
  cases hb : bs.all id with
  | false => rfl
  | true => exact (List.all_eq_true.1 hb false (List.mem_of_getElem? h)).symm
set_option maxRecDepth 100000 in
set_option maxHeartbeats 1000000 in
theorem all_any (F : List (Nat × Array Value)) (bs : List Bool) (g cap : Nat) (I : World → Prop) (hl : bs.length = F.length) (hsm : F.length ≤ 1000) (hcap : F.length ≤ cap)
    (hI : ∀ W, I W → ∀ i f, F[i]? = some f → W.cell? ⟨g, i, none⟩ = some (.func (.func f.1) #[] f.2))
    (hC : ∀ (i : Nat) f b, F[i]? = some f → bs[i]? = some b → ∀ W, I W → Calls Try.prog f.1 f.2 W fun e w' => e = .returned (.bool b) ∧ I w')
    (hE : ∀ f ∈ F, ∀ args w, (callFunc f.1 args).run Try.prog w = .ok (.enter f.1 args) w)
    (w : World) (hw : I w) :
    Calls Try.prog 31 #[.slice (some ⟨g, 0, none⟩) F.length cap] w fun e w' => e = .returned (.bool (bs.all id)) ∧ I w' := by
  have HI := Lib.hid hI
  have HC := Lib.hid hC
  have HE := Lib.hid hE
  have HW := Lib.hid hw
  obtain ⟨n, hn⟩ : ∃ n, n = F.length := ⟨_, rfl⟩
  rw [← hn] at hl hsm hcap ⊢
  have HN := Lib.hid hn
  have HL := Lib.hid hl
  clear hI hC hE hw hn hl
  go_enter Try.func31, Try.ntmps31
  go_wp2_with fail
  go_loopw [7] (fun i wr => ∃ k : Nat, k ≤ n ∧ i = .int .i64 k ∧ Hid (I wr) ∧ Hid ((bs.take k).all id = true)) (fun i _ => n - (intOf i).toNat)
  case atStart => exact ⟨0, Nat.zero_le _, rfl, HW, Lib.hid rfl⟩
  case round =>
    obtain ⟨k, hk, rfl, HQ, HB⟩ := hrel
    by_cases hlt : k < n
    · obtain ⟨f, hf⟩ : ∃ f, F[k]? = some f := ⟨_, List.getElem?_eq_getElem (by rw [← HN.out]; exact hlt)⟩
      obtain ⟨b, hb⟩ : ∃ b, bs[k]? = some b := ⟨_, List.getElem?_eq_getElem (by rw [HL.out]; exact hlt)⟩
      have hlt' : (k : Int) < (n : Int) := by omega
      have hc := HI.out wr HQ.out k f hf
      have HCC := Lib.hid (HC.out k f b hf hb)
      have he := HE.out f (List.mem_of_getElem? hf)
      obtain ⟨f, cs⟩ := f
      simp only at hc HCC he
      have HS := Lib.hid (all_step hb)
      have HF := Lib.hid (fun h : b = false => all_no (by rw [h] at hb; exact hb))
      clear hf hb
      go_wp2_with fail
      refine (HCC.out _ HQ.out).mono ?_
      rintro e w1 ⟨rfl, hq⟩
      have HQ1 := Lib.hid hq
      clear hq hc he
      cases b with
      | true =>
        have HB1 := Lib.hid (show (bs.take (k + 1)).all id = true by rw [HS.out, HB.out]; rfl)
        go_wp2_with fail
        go_roundw
        case rel => exact ⟨k + 1, by omega, by go_num, HQ1, HB1⟩
        case measure => simp [intOf] <;> omega
      | false =>
        have HB1 := Lib.hid (HF.out rfl)
        go_wp2_with fail
        go_ret
        exact ⟨by rw [HB1.out]; rfl, HQ1.out⟩
    · have hge : decide ((k : Int) < (n : Int)) = false := by simp; omega
      have HB1 := Lib.hid (show bs.all id = true by rw [← HB.out, List.take_of_length_le (by rw [HL.out]; omega)])
      go_wp2_with fail
      go_ret
      exact ⟨by rw [HB1.out]; rfl, HQ.out⟩
end Go.Proofs.Ytnbghappfclnjaa
