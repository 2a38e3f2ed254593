/- End of a decoder that is there. -/
import Derived.Test.YtlelemjmknbnaaaGreatDoorBodyDk
namespace Go.Proofs.YtlelemjmknbnaaaGreatDoor
open Go.RowKit

/-- What is left when the connection ended. -/
def Dc.ended (d : Dc) : Dc := if d.over = true then d else if d.opn = true then { d with left := 0, nx := .none } else d.fail 15
set_option maxRecDepth 100000 in
set_option maxHeartbeats 2000000 in
theorem end_any {B : Nat} {w : World} {p : Nat} {d : Dc} {lv bv nv : Value} {K : List Nat} (h : DecR B w p d lv bv nv) (hn : NxV w nv d.nx K) (hk : ∀ g ∈ K, g ∉ foot p lv bv) :
    Calls Tryz.prog 18 #[.pointer (some ⟨p, 0, none⟩)] w fun e w' => (∃ v, e = .returned v) ∧ ∃ lv' nv' K', DecR B w' p d.ended lv' bv nv' ∧ NxV w' nv' d.ended.nx K' ∧ (∀ g ∈ K', g ∉ foot p lv' bv) ∧ Turns [p] w w' ∧ (∀ g ∈ foot p lv' bv, g ∈ foot p lv bv) ∧ ∀ g ∈ K', g ∈ K := by
  have HO := Lib.hid (over_any h hn)
  have HF := Lib.hid (fail_any h 15)
  change Hid (Calls _ _ #[_, .int .i64 15] _ _) at HF
  obtain ⟨c0, c1, c2, -, -, -, -, -, hf⟩ := h.cells
  have f0 := hf 0
  have f1 := hf 1
  have HE : Hid (d.ended = if d.over = true then d else if d.opn = true then { d with left := 0, nx := .none } else d.fail 15) := Lib.hid rfl
  generalize d.ended = dq at HE ⊢
  have hp : p ∈ [p] := List.mem_singleton.2 rfl
  have HT : Hid (Turns [p] w ((w.setCell ⟨p, 0, none⟩ (.int .i64 0)).setCell ⟨p, 1, none⟩ .nilFunc)) := Lib.hid ((Turns.setCell w ⟨p, 0, none⟩ _ hp).trans (Turns.setCell (F := [p]) _ ⟨p, 1, none⟩ _ hp) (fun i hi => .inl hi))
  have HD : Hid (DecR B ((w.setCell ⟨p, 0, none⟩ (.int .i64 0)).setCell ⟨p, 1, none⟩ .nilFunc) p { d with left := 0, nx := .none } lv bv .nilFunc) := Lib.hid (h.set HT.out (heap_setCell_same _ p 1 _ _ _ (heap_setCell_same _ p 0 _ _ _ h.head)) rfl rfl)
  have HH := Lib.hid h
  have HN := Lib.hid hn
  have HK := Lib.hid hk
  have hsn := st_nilF Tryz.prog
  clear h hn hk hf
  cases ho : d.over with
  | true =>
    rw [ho] at HO
    have HR := Lib.hid (show dq = d by rw [HE.out, if_pos ho])
    clear HE ho c0 c1 c2 f0 f1
    go_enter Tryz.func18, Tryz.ntmps18
    go_wp2_with (go_at_call 28; refine (Hid.out HO).mono ?_; rintro e w1 ⟨rfl, rfl⟩)
    exact bodyPost_end (v := .tuple #[]) (by simp [results, Tryz.f18, go_sem]) rfl ⟨⟨_, rfl⟩, lv, nv, K, HR.out ▸ HH.out, by rw [HR.out]; exact HN.out, HK.out, Turns.refl _ _, fun _ h => h, fun _ h => h⟩
  | false =>
    rw [ho] at HO
    cases hop : d.opn with
    | true =>
      rw [hop] at c2
      have HR := Lib.hid (show dq = { d with left := 0, nx := .none } by rw [HE.out, if_neg (by rw [ho]; decide), if_pos hop])
      clear HE ho hop HF
      go_enter Tryz.func18, Tryz.ntmps18
      go_wp2_with (go_at_call 28; refine (Hid.out HO).mono ?_; rintro e w1 ⟨rfl, rfl⟩)
      exact bodyPost_end (v := .tuple #[]) (by simp [results, Tryz.f18, go_sem]) rfl ⟨⟨_, rfl⟩, lv, .nilFunc, [], HR.out ▸ HD.out, by rw [HR.out]; exact ⟨rfl, rfl⟩, by simp, HT.out, fun _ h => h, by simp⟩
    | false =>
      rw [hop] at c2
      have HR := Lib.hid (show dq = d.fail 15 by rw [HE.out, if_neg (by rw [ho]; decide), if_neg (by rw [hop]; decide)])
      clear HE ho hop c0 c1 f0 f1
      go_enter Tryz.func18, Tryz.ntmps18
      go_wp2_with (first | (go_at_call 28; refine (Hid.out HO).mono ?_; rintro e w1 ⟨rfl, rfl⟩) | (go_at_call 29; refine (Hid.out HF).mono ?_; rintro e w2 ⟨rfl, hd2, ht2⟩; have HD2 := Lib.hid hd2; have HT2 := Lib.hid ht2; clear hd2 ht2))
      exact bodyPost_end (v := .tuple #[]) (by simp [results, Tryz.f18, go_sem]) rfl ⟨⟨_, rfl⟩, .slice none 0 0, .nilFunc, [], HR.out ▸ HD2.out, by rw [HR.out]; exact ⟨rfl, rfl⟩, by simp, HT2.out, foot_nil, by simp⟩
theorem end_dk {B : Nat} {w : World} {p : Nat} {d : Dc} {R : List Nat} (h : Dk B w p d R) :
    Calls Tryz.prog 18 #[.pointer (some ⟨p, 0, none⟩)] w fun e w' => (∃ v, e = .returned v) ∧ ∃ R', Dk B w' p d.ended R' ∧ Turns R w w' ∧ ∀ g ∈ R', g ∈ R := by
  obtain ⟨lv, bv, nv, K, hd, hn, hk, rfl⟩ := h
  refine (end_any hd hn hk).mono fun e w' hh => ?_
  obtain ⟨he, lv', nv', K', h1, h2, h3, h4, h5, h6⟩ := hh
  refine ⟨he, _, ⟨lv', bv, nv', K', h1, h2, h3, rfl⟩, h4.mono (fun i hi => List.mem_append_left _ (foot_p (lv := lv) (bv := bv) i hi)), fun g hg => ?_⟩
  rcases List.mem_append.1 hg with h7 | h7
  · exact List.mem_append_left _ (h5 g h7)
  · exact List.mem_append_right _ (h6 g h7)
end Go.Proofs.YtlelemjmknbnaaaGreatDoor
