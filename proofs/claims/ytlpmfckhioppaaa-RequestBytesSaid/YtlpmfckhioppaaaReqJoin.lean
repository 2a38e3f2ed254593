/- A request, made: join, Bytes; the document's Text. -/
import Derived.Test.YtlpmfckhioppaaaReqSl
namespace Go.Proofs.Ytlpmfckhioppaaa
open Go.RowKit

def joinL : List ByteArray → List UInt8
  | [] => []
  | t :: ts => t.data.toList ++ (tEnd ++ joinL ts)
theorem joinL_append (a b : List ByteArray) : joinL (a ++ b) = joinL a ++ joinL b := by
  induction a with
  | nil => rfl
  | cons t a ih => simp [joinL, ih]
theorem joinL_snoc {ts : List ByteArray} {k : Nat} {t : ByteArray} (h : ts[k]? = some t) : joinL (ts.take (k + 1)) = joinL (ts.take k) ++ t.data.toList ++ tEnd := by
  rw [List.take_add_one, h, joinL_append]
  simp [joinL]
theorem joinL_take (ts : List ByteArray) (k : Nat) : (joinL (ts.take k)).length ≤ (joinL ts).length := by
  conv => rhs; rw [← List.take_append_drop k ts, joinL_append, List.length_append]
  omega
theorem below_heap {w w' : World} (h : Below w.heap.size w w') : w.heap.size ≤ w'.heap.size := h.size

set_option maxRecDepth 100000 in
set_option maxHeartbeats 4000000 in
theorem join_any (g : Nat) (ts : List ByteArray) (cap : Nat) (w : World) (hg : g < w.heap.size) (hc : ∀ (j : Nat) t, ts[j]? = some t → w.cell? ⟨g, j, none⟩ = some (.string t)) (hn : (joinL ts).length ≤ 100000) (hl : ts.length ≤ 1000) :
    Calls Try.prog 57 #[.slice (some ⟨g, 0, none⟩) ts.length cap] w fun e w' => (∃ v, e = .returned v ∧ Owned w.heap.size w' v (joinL ts)) ∧ Below w.heap.size w w' := by
  have HC := Lib.hid hc
  have HN := Lib.hid hn
  have HG := Lib.hid hg
  clear hc hn hg
  go_enter Try.func57, Try.ntmps57
  go_wp2
  go_loopw [3, 8] (fun bv iv wr => ∃ (k : Nat), k ≤ ts.length ∧ iv = .int .i64 k ∧ Hid (Owned w.heap.size wr bv (joinL (ts.take k))) ∧ Hid (Below w.heap.size w wr)) (fun _ iv _ => ts.length - (intOf iv).toNat)
  case atStart => exact ⟨0, Nat.zero_le _, rfl, Lib.hid (World.ownsRow_nil _ _ _ _), Lib.hid (Below.refl _ _)⟩
  case round =>
    obtain ⟨k, hk, rfl, HO, HB⟩ := hrel
    have hk0 : (0 : Int) ≤ (k : Int) := by omega
    by_cases hlt : k < ts.length
    · have hlt' : (k : Int) < (ts.length : Int) := by omega
      obtain ⟨t, ht⟩ : ∃ t, ts[k]? = some t := ⟨_, List.getElem?_eq_getElem hlt⟩
      have hcell := (HB.out.cell (p := ⟨g, k, none⟩) HG.out).trans (HC.out k t ht)
      have HJ := Lib.hid (joinL_snoc ht)
      have HBr := Lib.hid HB.out.size
      have hle := joinL_take ts (k + 1)
      rw [joinL_snoc ht] at hle
      simp only [List.length_append] at hle
      rw [← Lib.size_eq] at hle
      have HL1 := Lib.hid (show (joinL (ts.take k)).length + t.size ≤ 1000000 by have := HN.out; omega)
      have HL2 := Lib.hid (show (joinL (ts.take k) ++ t.data.toList).length + tEnd.length ≤ 1000000 by rw [List.length_append, ← Lib.size_eq]; have := HN.out; omega)
      clear ht hle
      go_wp2_with (first | (at_builtin; refine wpList_append_text rfl (.tmp 12) (.tmp 13) rfl w.heap.size _ _ rfl HO.out t rfl HL1.out HBr.out ?_; intro v1 w1 hown1 hb1; have HO1 := Lib.hid hown1; have HB1 := Lib.hid (HB.out.trans hb1); have HBr1 := Lib.hid HB1.out.size; clear hown1 hb1) | (at_builtin; refine wpList_append_bytes rfl (.tmp 15) (.tmp 16) rfl w.heap.size _ _ rfl (HO1.out.alloc _) (w1.heap.size + 1) (some ⟨w1.heap.size, 0, none⟩) tEnd 2 rfl (breads_two _ _ _ _ _ _ rfl rfl) (fun h => by cases h) HL2.out (le_alloc HBr1.out _) ?_; intro v2 w2 hown2 hb2; have HO2 := Lib.hid hown2; have HB2 := Lib.hid (HB1.out.trans ((below_alloc HBr1.out _).trans hb2)); clear hown2 hb2))
      go_roundw
      case rel => exact ⟨k + 1, by omega, by go_num, Lib.hid (by rw [HJ.out]; exact HO2.out), HB2⟩
      case measure => simp [intOf] <;> omega
    · have hge : decide ((k : Int) < (ts.length : Int)) = false := by simp; omega
      have HR := Lib.hid (show ts.take k = ts from List.take_of_length_le (by omega))
      go_wp2
      go_ret
      exact ⟨⟨_, rfl, by have := HO.out; rwa [HR.out] at this⟩, HB.out⟩
theorem cells6 (w : World) (ty : TypeId) (t0 t1 t2 t3 t4 t5 : ByteArray) : ∀ (j : Nat) t, [t0, t1, t2, t3, t4, t5][j]? = some t → (w.alloc (.cells #[.string t0, .string t1, .string t2, .string t3, .string t4, .string t5] ty)).cell? ⟨w.heap.size, j, none⟩ = some (.string t) := by
  intro j t hj
  match j, hj with
  | 0, hj => simp at hj; subst hj; simp
  | 1, hj => simp at hj; subst hj; simp
  | 2, hj => simp at hj; subst hj; simp
  | 3, hj => simp at hj; subst hj; simp
  | 4, hj => simp at hj; subst hj; simp
  | 5, hj => simp at hj; subst hj; simp
  | j + 6, hj => simp at hj
theorem ba_app (a b : ByteArray) : (a ++ b).data.toList = a.data.toList ++ b.data.toList := by simp
theorem join_text (h p : ByteArray) : joinL [⟨#[71, 69, 84, 32]⟩ ++ p ++ ⟨#[32, 72, 84, 84, 80, 47, 49, 46, 49]⟩, ⟨#[72, 111, 115, 116, 58, 32]⟩ ++ h, ⟨#[85, 115, 101, 114, 45, 65, 103, 101, 110, 116, 58, 32, 111, 100, 111, 109, 101, 116, 101, 114]⟩, ⟨#[65, 99, 99, 101, 112, 116, 58, 32, 116, 101, 120, 116, 47, 112, 108, 97, 105, 110, 59, 118, 101, 114, 115, 105, 111, 110, 61, 48, 46, 48, 46, 52]⟩, ⟨#[67, 111, 110, 110, 101, 99, 116, 105, 111, 110, 58, 32, 107, 101, 101, 112, 45, 97, 108, 105, 118, 101]⟩, ⟨#[]⟩] = textL h.data.toList p.data.toList := by
  unfold textL
  simp only [joinL, ba_app, List.append_assoc]
  rfl
theorem bytes_no (h p : ByteArray) (w : World) (hh : h.size ≤ 9223372036854775807) (hp : p.size ≤ 9223372036854775807) (hm : ¬ (mayHost h.data.toList = true ∧ mayPath p.data.toList = true)) :
    Calls Try.prog 22 #[.string h, .string p] w fun e w' => e = .returned (.tuple #[.slice none 0 0, .int .i64 2]) ∧ w = w' := by
  have H1 := Lib.hid (mayHost_any h w hh)
  have H2 := Lib.hid (mayPath_any p w hp)
  generalize mayHost h.data.toList = x at H1 hm
  generalize mayPath p.data.toList = y at H2 hm
  cases x with
  | false =>
    clear hm
    go_enter Try.func22, Try.ntmps22
    go_wp2_with (refine (Hid.out H1).mono ?_; rintro e w1 ⟨rfl, rfl⟩)
    go_ret2
    exact ⟨rfl, rfl⟩
  | true =>
    cases y with
    | true => simp at hm
    | false =>
      clear hm
      go_enter Try.func22, Try.ntmps22
      go_wp2_with fail
      refine (Hid.out H1).mono ?_
      rintro e w1 ⟨rfl, rfl⟩
      go_wp2_with (refine (Hid.out H2).mono ?_; rintro e w1 ⟨rfl, rfl⟩)
      go_ret2
      exact ⟨rfl, rfl⟩
set_option maxRecDepth 100000 in
set_option maxHeartbeats 2000000 in
theorem bytes_yes (h p : ByteArray) (w : World) (hm : mayHost h.data.toList = true) (hn : mayPath p.data.toList = true) :
    Calls Try.prog 22 #[.string h, .string p] w fun e w' => (∃ v, e = .returned (.tuple #[v, .int .i64 0]) ∧ Owned w.heap.size w' v (textL h.data.toList p.data.toList)) ∧ Below w.heap.size w w' := by
  have h1 := (mayHost_iff.1 hm).2.1
  have h2 := (mayPath_iff.1 hn).2.1
  rw [← Lib.size_eq] at h1 h2
  have H1 := Lib.hid (mayHost_any h w (by omega))
  have H2 := Lib.hid (mayPath_any p w (by omega))
  rw [hm] at H1
  rw [hn] at H2
  have HJ := Lib.hid (join_text h p)
  have HL := Lib.hid (show (textL h.data.toList p.data.toList).length ≤ 100000 by rw [textL_len, ← Lib.size_eq, ← Lib.size_eq]; omega)
  have z1 : ¬ (9223372036854775807 < 4 + p.size) := by omega
  have z2 : ¬ (9223372036854775807 < 4 + p.size + 9) := by omega
  have z3 : ¬ (9223372036854775807 < 6 + h.size) := by omega
  clear hm hn
  go_enter Try.func22, Try.ntmps22
  go_wp2_with fail
  refine (Hid.out H1).mono ?_
  rintro e w1 ⟨rfl, rfl⟩
  go_wp2_with fail
  refine (Hid.out H2).mono ?_
  rintro e w1 ⟨rfl, rfl⟩
  go_wp2_with fail
  refine (join_any w.heap.size [_, _, _, _, _, _] 6 _ (by simp) (cells6 w _ _ _ _ _ _ _) (by rw [HJ.out]; exact HL.out) (by simp)).mono ?_
  rintro e w2 ⟨⟨v, rfl, hown⟩, hb⟩
  rw [HJ.out] at hown
  have HO := Lib.hid (hown.low (B' := w.heap.size) (by simp))
  have HB := Lib.hid ((below_alloc (B := w.heap.size) (Nat.le_refl _) _).trans (hb.mono (by simp)))
  clear hown hb
  go_wp2
  go_ret2
  exact ⟨⟨_, rfl, HO.out⟩, HB.out⟩
/-- The document's Text. -/
def textB (h p : List UInt8) : ByteArray := ⟨(textL h p).toArray⟩
theorem textB_list (h p : List UInt8) : (textB h p).data.toList = textL h p := rfl
theorem textB_size (h p : List UInt8) : (textB h p).size = p.length + h.length + 105 := by
  rw [Lib.size_eq, textB_list, textL_len]
theorem text_eq (h p : ByteArray) : (⟨#[71, 69, 84, 32]⟩ ++ p ++ ⟨#[32, 72, 84, 84, 80, 47, 49, 46, 49, 13, 10, 72, 111, 115, 116, 58, 32]⟩ ++ h ++ ⟨#[13, 10, 85, 115, 101, 114, 45, 65, 103, 101, 110, 116, 58, 32, 111, 100, 111, 109, 101, 116, 101, 114, 13, 10, 65, 99, 99, 101, 112, 116, 58, 32, 116, 101, 120, 116, 47, 112, 108, 97, 105, 110, 59, 118, 101, 114, 115, 105, 111, 110, 61, 48, 46, 48, 46, 52, 13, 10, 67, 111, 110, 110, 101, 99, 116, 105, 111, 110, 58, 32, 107, 101, 101, 112, 45, 97, 108, 105, 118, 101, 13, 10, 13, 10]⟩ : ByteArray) = textB h.data.toList p.data.toList := by
  refine ba_eq ?_
  unfold textL
  simp only [ba_app, List.append_assoc]
  rfl
set_option maxRecDepth 100000 in
set_option maxHeartbeats 2000000 in
theorem text_any (h p : ByteArray) (w : World) (hh : h.size ≤ 100000) (hp : p.size ≤ 100000) :
    Calls Try.prog 26 #[.string h, .string p] w fun e w' => e = .returned (.string (textB h.data.toList p.data.toList)) ∧ w = w' := by
  have z1 : ¬ (9223372036854775807 < 4 + p.size) := by omega
  have z2 : ¬ (9223372036854775807 < 4 + p.size + 17) := by omega
  have z3 : ¬ (9223372036854775807 < 4 + p.size + 17 + h.size) := by omega
  have z4 : ¬ (9223372036854775807 < 4 + p.size + 17 + h.size + 84) := by omega
  go_enter Try.func26, Try.ntmps26
  go_wp2
  go_ret
  exact ⟨congrArg (fun x => Ending.returned (.string x)) (text_eq h p), rfl⟩
end Go.Proofs.Ytlpmfckhioppaaa
