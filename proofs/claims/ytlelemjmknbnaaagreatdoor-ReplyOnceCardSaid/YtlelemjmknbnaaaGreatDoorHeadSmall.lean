/- A text in small letters: the program's and the document's; a buffer of bytes that is written in place. -/
import Derived.Test.YtlelemjmknbnaaaGreatDoorHeadMay
import Derived.Lib.ConvBytes
import Derived.Lib.Strings
namespace Go.Proofs.YtlelemjmknbnaaaGreatDoor
open Go.RowKit

/-- The block g holds l from its beginning, and may be written. -/
structure Mut (B : Nat) (w : World) (g : Nat) (l : List UInt8) : Prop where
  low : B ≤ g
  lt : g < w.heap.size
  cell : ∀ j c, l[j]? = some c → w.cell? ⟨g, j, none⟩ = some (bcell c) ∧ w.frozen? ⟨g, j, none⟩ = false
theorem Mut.set {B : Nat} {w : World} {g : Nat} {l : List UInt8} (h : Mut B w g l) (k : Nat) (c : UInt8) : Mut B (w.setCell ⟨g, k, none⟩ (bcell c)) g (l.set k c) := by
  refine ⟨h.low, by simpa using h.lt, fun j d hj => ?_⟩
  rw [World.frozen?_setCell]
  rw [List.getElem?_set] at hj
  split at hj
  · rename_i hk
    split at hj
    · rename_i hl
      cases hj
      subst hk
      obtain ⟨u, hu⟩ : ∃ u, l[k]? = some u := ⟨_, List.getElem?_eq_getElem hl⟩
      exact ⟨World.cell?_setCell_same _ _ _ (h.cell k u hu).1, (h.cell k u hu).2⟩
    · cases hj
  · rename_i hk
    exact ⟨(World.cell?_setCell_other w _ _ _ (by intro e; injection e with e1 e2; exact hk e2)).trans (h.cell j d hj).1, (h.cell j d hj).2⟩
theorem conv_mut (w : World) (s : ByteArray) (hs : s.size ≤ maxLen) : ∃ cap w', (convert 9 22 (.string s)).run Tryz.prog w = .ok (.slice (some ⟨w.heap.size, 0, none⟩) s.size cap) w' ∧ Mut w.heap.size w' w.heap.size s.data.toList ∧ Below w.heap.size w w' ∧ s.size ≤ cap ∧ cap ≤ maxLen := by
  have hl : s.data.toList.length = s.size := (Lib.size_eq s).symm
  have hcap := grownCap_ge w s.size 0 5
  have hsz : (Lib.bytesCells w 5 s).size = grownCap w s.size 0 5 := by
    unfold Lib.bytesCells
    simp only [Array.size_append, Array.size_map, Array.size_replicate]
    have : s.data.size = s.size := rfl
    omega
  refine ⟨_, _, Lib.run_convert_string_bytes w 9 22 5 s Tryz.underlying9 Tryz.underlying22 Tryz.underlying5, ⟨Nat.le_refl _, by rw [Lib.bytesWorld_size]; omega, fun j c hj => ?_⟩, ?_, by omega, grownCap_le_maxLen w _ _ _ hs⟩
  · have hjl : j < s.size := by rw [← hl]; exact (List.getElem?_eq_some_iff.1 hj).1
    refine ⟨by rw [Lib.bytesWorld_cell w _ s j hjl]; simp [List.getD, hj, bcell], ?_⟩
    have hb := Lib.bytesWorld_at_new w 5 s
    simp only [World.frozen?, hb, Bool.and_eq_false_iff, decide_eq_false_iff_not]
    left
    omega
  · refine ⟨?_, ?_, ?_, by rw [Lib.bytesWorld_size]; omega, fun k hk => Lib.bytesWorld_at_old w _ s k hk⟩
    · simp [Lib.bytesWorld, World.freeze, World.alloc, World.drew, -World.alloc_eq, -World.drew_eq]
    · simp [Lib.bytesWorld, World.freeze, World.alloc, World.drew, -World.alloc_eq, -World.drew_eq]
    · simp [Lib.bytesWorld, World.freeze, World.alloc, World.drew, -World.alloc_eq, -World.drew_eq]
theorem Mut.text {B : Nat} {w : World} {g : Nat} {l : List UInt8} (h : Mut B w g l) (n cap : Nat) (hn : n = l.length) : (convert 22 9 (.slice (some ⟨g, 0, none⟩) n cap)).run Tryz.prog w = .ok (.string ⟨l.toArray⟩) w := by
  subst hn
  exact run_bytes_text w 22 9 |> fun f => run_bytes_text w 9 22 Tryz.underlying22 Tryz.underlying9 (B := w.heap.size) cap (.inr ⟨g, 0, rfl, h.lt, fun j c hj => by rw [Nat.zero_add]; exact (h.cell j c hj).1⟩)
/-- Small so far. -/
def smallK (l : List UInt8) (k : Nat) : List UInt8 := smallL (l.take k) ++ l.drop k
theorem smallK_zero (l : List UInt8) : smallK l 0 = l := by simp [smallK, smallL]
theorem smallK_len (l : List UInt8) (k : Nat) : (smallK l k).length = l.length := by
  unfold smallK smallL
  rw [List.length_append, List.length_map, ← List.length_append, List.take_append_drop]
theorem smallK_all {l : List UInt8} {k : Nat} (h : l.length ≤ k) : smallK l k = smallL l := by
  unfold smallK
  rw [List.take_of_length_le h, List.drop_eq_nil_of_le h, List.append_nil]
theorem smallK_at {l : List UInt8} {k : Nat} {c : UInt8} (h : l[k]? = some c) : (smallK l k)[k]? = some c := by
  have hk := (List.getElem?_eq_some_iff.1 h).1
  unfold smallK smallL
  rw [List.getElem?_append_right (by simp [List.length_take]; omega)]
  rw [List.length_map, List.length_take, Nat.min_eq_left (by omega), Nat.sub_self, List.getElem?_drop, Nat.add_zero]
  exact h
theorem smallK_succ {l : List UInt8} {k : Nat} {c : UInt8} (h : l[k]? = some c) : smallK l (k + 1) = (smallK l k).set k (smallB c) := by
  have hk := (List.getElem?_eq_some_iff.1 h).1
  unfold smallK smallL
  rw [List.take_add_one, h, Option.toList_some, List.map_append]
  rw [List.set_append_right (h := by simp; omega)]
  rw [List.drop_eq_getElem_cons hk]
  rw [List.length_map, List.length_take, Nat.min_eq_left (by omega), Nat.sub_self, List.set_cons_zero, List.append_assoc]
  rfl
theorem smallK_same {l : List UInt8} {k : Nat} {c : UInt8} (h : l[k]? = some c) (hc : smallB c = c) : smallK l (k + 1) = smallK l k := by
  rw [smallK_succ h, hc]
  have hk := (List.getElem?_eq_some_iff.1 h).1
  refine List.ext_getElem? fun j => ?_
  rw [List.getElem?_set]
  split
  · rename_i e
    subst e
    rw [if_pos (by rw [smallK_len]; exact hk), smallK_at h]
  · rfl
theorem smallB_up {c : UInt8} (h : 65 ≤ c.toNat ∧ c.toNat ≤ 90) : ((smallB c).toNat : Int) = (c.toNat : Int) + 32 := by
  unfold smallB
  rw [if_pos h, UInt8.toNat_add]
  have : (32 : UInt8).toNat = 32 := rfl
  omega
theorem smallB_no {c : UInt8} (h : ¬ (65 ≤ c.toNat ∧ c.toNat ≤ 90)) : smallB c = c := by
  unfold smallB
  rw [if_neg h]
theorem str_of (l : List UInt8) {m : List UInt8} (h : l = m) : Ending.returned (.string ⟨l.toArray⟩) = .returned (.string ⟨m.toArray⟩) := by rw [h]
set_option maxRecDepth 100000 in
set_option maxHeartbeats 2000000 in
theorem small_any (s : ByteArray) (w : World) (hs : s.size ≤ 1000000) :
    Calls Tryz.prog 44 #[.string s] w fun e w' => e = .returned (.string ⟨(smallL s.data.toList).toArray⟩) ∧ Below w.heap.size w w' := by
  obtain ⟨cap, w1, hcv, hm, hb, hc1, hc2⟩ := conv_mut w s (by unfold maxLen; omega)
  have HM := Lib.hid hm
  have HB := Lib.hid hb
  have hc1' : (s.size : Int) ≤ (cap : Int) := by omega
  have HZ := Lib.hid (Lib.size_eq s)
  clear hm hb hc2
  go_enter Tryz.func44, Tryz.ntmps44
  go_wp2
  go_loopw [10] (fun i wr => ∃ k : Nat, k ≤ s.size ∧ i = .int .i64 k ∧ Hid (Mut w.heap.size wr w.heap.size (smallK s.data.toList k)) ∧ Hid (Below w.heap.size w wr)) (fun i _ => s.size - (intOf i).toNat)
  case atStart => exact ⟨0, Nat.zero_le _, rfl, Lib.hid (by rw [smallK_zero]; exact HM.out), HB⟩
  case round =>
    obtain ⟨k, hk, rfl, HK, HW⟩ := hrel
    by_cases hlt : k < s.size
    · obtain ⟨c, hc, hcl⟩ := data_at s k hlt
      have hlt' : (k : Int) < (s.size : Int) := by omega
      obtain ⟨hcell, hfr⟩ := HK.out.cell k c (smallK_at hcl)
      have HCL := Lib.hid hcl
      clear hc hcl
      obtain ⟨n, hn⟩ : ∃ n : Int, n = (c.toNat : Int) := ⟨_, rfl⟩
      unfold bcell at hcell
      rw [← hn] at hcell
      have HN := Lib.hid hn
      have hq0 : 0 ≤ n := by omega
      have hq : n ≤ 255 := by have := c.toNat_lt; omega
      clear hn
      by_cases h1 : 65 ≤ n
      · by_cases h2 : n ≤ 90
        · have HU := Lib.hid (show bcell (smallB c) = .int .u8 (n - 65 + 97) by unfold bcell; rw [smallB_up (by have := HN.out; omega), HN.out]; congr 1; omega)
          go_wp2
          go_round
          case rel => exact ⟨k + 1, by omega, by go_num, Lib.hid (by rw [smallK_succ HCL.out]; rw [← HU.out]; exact HK.out.set k (smallB c)), Lib.hid (HW.out.setCell (Nat.le_refl _) _)⟩
          case measure => simp [intOf] <;> omega
        · have g2 : decide (n ≤ 90) = false := by simp; omega
          have HS := Lib.hid (smallK_same HCL.out (smallB_no (by have := HN.out; omega)))
          go_wp2
          go_round
          case rel => exact ⟨k + 1, by omega, by go_num, Lib.hid (by rw [HS.out]; exact HK.out), HW⟩
          case measure => simp [intOf] <;> omega
      · have g1 : decide (65 ≤ n) = false := by simp; omega
        have HS := Lib.hid (smallK_same HCL.out (smallB_no (by have := HN.out; omega)))
        go_wp2
        go_round
        case rel => exact ⟨k + 1, by omega, by go_num, Lib.hid (by rw [HS.out]; exact HK.out), HW⟩
        case measure => simp [intOf] <;> omega
    · have hge : decide ((k : Int) < (s.size : Int)) = false := by simp; omega
      have HT := (HK.out.text s.size cap (by rw [smallK_len]; exact HZ.out))
      have HE := Lib.hid (smallK_all (l := s.data.toList) (k := k) (by rw [← HZ.out]; omega))
      go_wp2
      go_ret
      exact ⟨str_of _ HE.out, HW.out⟩
end Go.Proofs.YtlelemjmknbnaaaGreatDoor
