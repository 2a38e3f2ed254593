/- The document's store: New, Of, Copy. -/
import Derived.Test.YtadndefbdofodaaStMem
import Derived.Lib.Hide
namespace Go.Proofs.Ytadndefbdofodaa
open Go.RowKit

theorem wrapSt {i : Nat} (h : i ≤ 1000000) : wrap64 ((i : Int) + 1) = ((i + 1 : Nat) : Int) := by
  unfold wrap64
  omega
set_option maxRecDepth 100000 in
set_option maxHeartbeats 1000000 in
theorem rnewS_any (most : Int) (w : World) (hm : most ≤ 9223372036854775807) :
    Calls Try.prog 10 #[.int .i64 most] w fun e w' => e = .returned (.pointer (some ⟨w.heap.size, 0, none⟩)) ∧ RefS w.heap.size w' w.heap.size (.slice none 0 0) most.toNat [] ∧ Below w.heap.size w w' := by
  have HR : Hid (∀ x : Int, x = (most.toNat : Int) → RefS w.heap.size (w.alloc (.cells #[.slice none 0 0, .int .i64 x] 65)) w.heap.size (.slice none 0 0) most.toNat [] ∧ Below w.heap.size w (w.alloc (.cells #[.slice none 0 0, .int .i64 x] 65))) := Lib.hid (fun x hx => by
    subst hx
    exact ⟨⟨heap_alloc_new w _, EK.Own.nil _ _ (Nat.zero_le _), Nat.le_refl _, by simp [ownB, Value.ownBlock]⟩, (Below.refl _ _).alloc (Nat.le_refl _) _⟩)
  go_enter Try.func10, Try.ntmps10
  go_wp2
  all_goals
    go_ret
    exact ⟨rfl, HR.out _ (by omega)⟩
def ofI : Option Nat → Int
  | some i => i
  | none => -1
section
variable {B : Nat} {w : World} {rv : Nat} {v : Value} {most : Nat} {L : List One}
theorem RefS.at_ (h : RefS B w rv v most L) {i : Nat} {x : One} (hx : L[i]? = some x) : ∃ g c, v = .slice (some ⟨g, 0, none⟩) L.length c ∧ B ≤ g ∧ g < w.heap.size ∧ g ≠ rv ∧ ∀ j u, (One.cells x)[j]? = some u → w.cell? ⟨g, i * 7 + j, none⟩ = some u := by
  have hl : 0 < L.length := by have := (List.getElem?_eq_some_iff.1 hx).1; omega
  rcases h.own.form with ⟨_, e⟩ | ⟨g, cap, e, h1, h2, _, _⟩
  · rw [e] at hl; simp at hl
  · refine ⟨g, cap, e, h1, h2, fun e' => h.ne (by rw [e]; simp [ownB, Value.ownBlock, e']), fun j u hu => ?_⟩
    have h3 := h.own
    rw [e] at h3
    have := World.ownsRow.cells h3 (g := g) rfl (i * 7 + j) u (EK.flat_at oOk hx j u hu)
    rwa [add_plain', Nat.zero_add] at this
set_option maxRecDepth 100000 in
set_option maxHeartbeats 2000000 in
theorem rofS_any (h : RefS B w rv v most L) (hL : L.length ≤ 1000000) (n : ByteArray) :
    Calls Try.prog 24 #[.pointer (some ⟨rv, 0, none⟩), .string n] w fun e w' => e = .returned (.int .i64 (ofI (ofN n L))) ∧ w = w' := by
  obtain ⟨q0, q1, _⟩ := h.cells
  obtain ⟨A, c, hv, _, hlc, hcm⟩ := h.form
  rw [hv] at q0
  have H := Lib.hid h
  have HV := Lib.hid hv
  have hL2 : (L.length : Int) ≤ 1000000 := by omega
  clear h hlc hcm hv
  go_enter Try.func24, Try.ntmps24
  go_wp2
  go_loopw [5] (fun i wr => ∃ k : Nat, i = .int .i64 (k : Int) ∧ k ≤ L.length ∧ Hid (∀ j z, j < k → L[j]? = some z → ¬ z.name = n) ∧ w = wr) (fun i _ => L.length - (intOf i).toNat)
  case atStart => exact ⟨0, rfl, Nat.zero_le _, Lib.hid (fun j z hj => absurd hj (by omega)), rfl⟩
  case round =>
    obtain ⟨k, rfl, hk, HQ, rfl⟩ := hrel
    by_cases hlt : k < L.length
    · obtain ⟨x, hx⟩ : ∃ x, L[k]? = some x := ⟨_, List.getElem?_eq_getElem hlt⟩
      obtain ⟨g, c', e, _, _, _, hc⟩ := H.out.at_ hx
      rw [HV.out] at e
      injection e with e1 e2 e3
      subst e1 e3
      have d0 := hc 0 _ rfl
      simp only [Nat.add_zero] at d0
      have f2 : (k : Int) < (L.length : Int) := by omega
      have f3 : (0 : Int) ≤ (k : Int) := by omega
      have HX := Lib.hid hx
      clear hx hc
      cases he : eqN x.name n with
      | true =>
        have HF : Hid (ofN n L = some k) := Lib.hid (ofN_here HX.out (eqN_iff.1 he) HQ.out)
        unfold eqN at he
        go_wp2
        go_ret
        exact ⟨by rw [HF.out]; rfl, rfl⟩
      | false =>
        have HN : Hid (∀ j z, j < k + 1 → L[j]? = some z → ¬ z.name = n) := Lib.hid (fun j z hj hz => by
          rcases Nat.lt_or_ge j k with h1 | h1
          · exact HQ.out j z h1 hz
          · obtain rfl : j = k := by omega
            rw [HX.out] at hz
            cases hz
            intro e
            rw [eqN_iff.2 e] at he
            cases he)
        unfold eqN at he
        go_wp2
        go_roundw
        case rel => exact ⟨k + 1, by go_num, by omega, HN, by first | rfl | trivial⟩
        case measure => simp [intOf] <;> omega
    · have hge : decide ((k : Int) < (L.length : Int)) = false := by rw [decide_eq_false_iff_not]; omega
      have HF : Hid (ofN n L = none) := Lib.hid (ofN_lost fun y hy => by
        obtain ⟨j, hj, rfl⟩ := List.getElem_of_mem hy
        exact HQ.out j _ (by omega) (List.getElem?_eq_getElem hj))
      go_wp2
      go_ret
      exact ⟨by rw [HF.out]; rfl, rfl⟩
end
end Go.Proofs.Ytadndefbdofodaa
