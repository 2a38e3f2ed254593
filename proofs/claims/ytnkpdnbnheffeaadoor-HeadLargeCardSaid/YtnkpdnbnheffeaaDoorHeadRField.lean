/- The document's Field. -/
import Derived.Test.YtnkpdnbnheffeaaDoorHeadRTrim
import Derived.Deep.RegionWith
import Derived.Deep.RegionHeld3
namespace Go.Proofs.YtnkpdnbnheffeaaDoor
open Go.RowKit

theorem occ_one {l : List UInt8} {i : Nat} {a : UInt8} (h1 : l[i]? = some a) : Lib.occAt l [58] i = ((58 : UInt8) == a) := by
  have k1 := (List.getElem?_eq_some_iff.1 h1).1
  unfold Lib.occAt
  rw [List.drop_eq_getElem_cons k1, (List.getElem?_eq_some_iff.1 h1).2]
  show ((58 : UInt8) == a && List.isPrefixOf [] _) = _
  rw [List.isPrefixOf_nil_left, Bool.and_true]
def FdV (l : List UInt8) : Value := if (Lib.cut l [58]).2.2 = true then .tuple #[.agg #[.string ⟨(smallL (Lib.cut l [58]).1).toArray⟩, .string ⟨(trimL (Lib.cut l [58]).2.1).toArray⟩], .bool (mayName (Lib.cut l [58]).1 && mayText (Lib.cut l [58]).2.1)] else .tuple #[.agg #[.string ⟨#[]⟩, .string ⟨#[]⟩], .bool false]
theorem cut_hit {l : List UInt8} {i : Nat} (hn : ∀ j, j < i → Lib.occAt l [58] j = false) (hi : i < l.length) (ho : Lib.occAt l [58] i = true) : Lib.cut l [58] = (l.take i, l.drop (i + 1), true) := by
  have h := Lib.index_hit (s := l) (sub := [58]) (i := i) hn (by omega) ho
  unfold Lib.cut
  rw [h, if_pos (by omega), Int.toNat_natCast]
  rfl
theorem cut_no {l : List UInt8} (hn : ∀ j, j < l.length → Lib.occAt l [58] j = false) : Lib.cut l [58] = (l, [], false) := by
  have h := Lib.index_past (s := l) (sub := [58]) (i := l.length) (by decide) hn (by simp)
  unfold Lib.cut
  rw [h]
  rfl
/-- The result's cells are as they were made. -/
structure RF (w W : World) : Prop where
  head : W.heap[w.heap.size]? = some (.cells #[.string ⟨#[]⟩, .string ⟨#[]⟩] 75 (0, 0))
  below : Below w.heap.size w W
theorem RF.cells {w W : World} (h : RF w W) : W.cell? ⟨w.heap.size, 0, none⟩ = some (.string ⟨#[]⟩) ∧ W.cell? ⟨w.heap.size, 1, none⟩ = some (.string ⟨#[]⟩) ∧ ∀ j, W.frozen? ⟨w.heap.size, j, none⟩ = false := by
  simp [World.cell?, World.frozen?, h.head]
theorem RF.next {w W W' : World} (h : RF w W) (hb : Below W.heap.size W W') : RF w W' := ⟨(hb.block _ (lt_of_block h.head)).trans h.head, h.below.trans (hb.mono (Nat.le_of_lt (lt_of_block h.head)))⟩
theorem RF.drew {w W : World} (h : RF w W) : RF w W.drew := ⟨h.head, h.below.drew⟩
theorem rf_made (w : World) : RF w (w.alloc (.cells #[.string ⟨#[]⟩, .string ⟨#[]⟩] 75)) := ⟨heap_alloc_new w _, below_alloc (Nat.le_refl _) _⟩
theorem RF.set {w W : World} (h : RF w W) (a b : Value) : ((W.setCell ⟨w.heap.size, 0, none⟩ a).setCell ⟨w.heap.size, 1, none⟩ b).cell? ⟨w.heap.size, 0, none⟩ = some a ∧ ((W.setCell ⟨w.heap.size, 0, none⟩ a).setCell ⟨w.heap.size, 1, none⟩ b).cell? ⟨w.heap.size, 1, none⟩ = some b ∧ Below w.heap.size w ((W.setCell ⟨w.heap.size, 0, none⟩ a).setCell ⟨w.heap.size, 1, none⟩ b) := by
  have hh := heap_setCell_same _ w.heap.size 1 _ _ b (heap_setCell_same W w.heap.size 0 _ _ a h.head)
  have hB : w.heap.size ≤ w.heap.size := Nat.le_refl _
  refine ⟨?_, ?_, (h.below.setCell hB _).setCell hB _⟩
  · simp [World.cell?, hh]
  · simp [World.cell?, hh]
theorem ext_to {S : ByteArray} (k : Nat) : S.extract 0 k = ⟨(S.data.toList.take k).toArray⟩ := ba_eq (by rw [ByteArray.data_extract]; simp)
theorem ext_from {S : ByteArray} (k : Nat) : S.extract k S.size = ⟨(S.data.toList.drop k).toArray⟩ := ba_eq (by rw [Lib.extract_to_end])
set_option maxRecDepth 100000 in
set_option maxHeartbeats 2000000 in
theorem rfield_any (s : ByteArray) (w : World) (hs : s.size ≤ 1000000) :
    Calls Tryd.prog 43 #[.string s] w fun e w' => e = .returned (FdV s.data.toList) ∧ Below w.heap.size w w' := by
  have HQ0 := Lib.hid (rf_made w)
  have HZ := Lib.hid (Lib.size_eq s)
  go_enter Tryd.func43, Tryd.ntmps43
  go_wp2
  go_loop [4] (fun i => ∃ k : Nat, k ≤ s.size ∧ i = .int .i64 k ∧ Hid (∀ j, j < k → Lib.occAt s.data.toList [58] j = false)) (fun i => s.size - (intOf i).toNat)
  case atStart => exact ⟨0, Nat.zero_le _, rfl, Lib.hid (fun j hj => by omega)⟩
  case round =>
    obtain ⟨k, hk, rfl, HK⟩ := hrel
    by_cases hlt : k < s.size
    · obtain ⟨c, hc, hcl⟩ := data_at s k hlt
      have hlt' : (k : Int) < (s.size : Int) := by omega
      have HO := Lib.hid (occ_one hcl)
      clear hcl
      by_cases h58 : (c.toNat : Int) = 58
      · have HCUT := Lib.hid (cut_hit HK.out (by rw [← HZ.out]; exact hlt) (by rw [HO.out, eq_num]; show c.toNat = 58; omega))
        have hx0 := ext_to (S := s) k
        have hx1 := ext_from (S := s) (k + 1)
        have HTZ := Lib.hid (show (s.data.toList.take k).length ≤ 1000000 by rw [List.length_take]; have := HZ.out; omega)
        have HDZ := Lib.hid (show (s.data.toList.drop (k + 1)).length ≤ 1000000 by rw [List.length_drop]; have := HZ.out; omega)
        have HFV := Lib.hid (show FdV s.data.toList = .tuple #[.agg #[.string ⟨(smallL (s.data.toList.take k)).toArray⟩, .string ⟨(trimL (s.data.toList.drop (k + 1))).toArray⟩], .bool (mayName (s.data.toList.take k) && mayText (s.data.toList.drop (k + 1)))] by unfold FdV; rw [HCUT.out]; rfl)
        generalize s.data.toList.take k = a at hx0 HTZ HFV
        generalize s.data.toList.drop (k + 1) = r at hx1 HDZ HFV
        have HSM : Hid (∀ W, Hid (RF w W) → Calls Tryd.prog 25 #[.string ⟨a.toArray⟩] W fun e w' => e = .returned (.string ⟨(smallL a).toArray⟩) ∧ RF w w') := Lib.hid (fun W hq => (rsmall_any ⟨a.toArray⟩ W (by rw [Lib.size_eq]; exact HTZ.out)).mono (by rintro e w' ⟨rfl, hb⟩; exact ⟨rfl, hq.out.next hb⟩))
        have HTR : Hid (∀ W, Calls Tryd.prog 45 #[.string ⟨r.toArray⟩] W fun e w' => e = .returned (.string ⟨(trimL r).toArray⟩) ∧ W = w') := Lib.hid (fun W => rtrim_any ⟨r.toArray⟩ W (by rw [Lib.size_eq]; exact HDZ.out))
        have HMN : Hid (∀ W, Calls Tryd.prog 57 #[.string ⟨a.toArray⟩] W fun e w' => e = .returned (.bool (mayName a)) ∧ W = w') := Lib.hid (fun W => rmayName_any ⟨a.toArray⟩ W (by rw [Lib.size_eq]; have := HTZ.out; show a.length ≤ _; omega))
        have HMT : Hid (∀ W, Calls Tryd.prog 56 #[.string ⟨r.toArray⟩] W fun e w' => e = .returned (.bool (mayText r)) ∧ W = w') := Lib.hid (fun W => rmayText_any ⟨r.toArray⟩ W (by rw [Lib.size_eq]; have := HDZ.out; show r.length ≤ _; omega))
        generalize mayName a = bn at HMN HFV
        generalize mayText r = bt at HMT HFV
        have hk1 : (k : Int) + 1 ≤ (s.size : Int) := by omega
        have hk0 : (k : Int) ≤ (s.size : Int) := by omega
        have hwr : IntKind.i64.wrap ((k : Int) + 1) = ((k + 1 : Nat) : Int) := by rw [IntKind.wrap_i64]; omega
        have hk2 : ((k + 1 : Nat) : Int) ≤ (s.size : Int) := by omega
        have hk3 : (0 : Int) ≤ ((k + 1 : Nat) : Int) := by omega
        have hk4 : (0 : Int) ≤ (k : Int) + 1 := by omega
        have htn : (((k + 1 : Nat) : Int)).toNat = k + 1 := Int.toNat_natCast _
        obtain ⟨r0, r1, rf⟩ := HQ0.out.cells
        have s0 := rf 0
        have s1 := rf 1
        clear rf
        cases bn
        all_goals
          go_wp2_with fail
          first | go_region_law (first | (go_simp; go_at_call 25; refine (HSM.out _ (by first | exact HQ0 | exact Lib.hid HQ0.out.drew)).mono ?_; rintro e w3 ⟨rfl, hq3⟩; have HQ3 := Lib.hid hq3; obtain ⟨n0, n1, nf⟩ := hq3.cells; have m0 := nf 0; have m1 := nf 1; clear hq3 nf) | (go_simp; go_at_call 45; refine (HTR.out _).mono ?_; rintro e w4 ⟨rfl, rfl⟩) | (go_simp; go_at_call 57; refine (HMN.out _).mono ?_; rintro e w4 ⟨rfl, rfl⟩) | (go_simp; go_at_call 56; refine (HMT.out _).mono ?_; rintro e w4 ⟨rfl, rfl⟩)) | fail "region"
        all_goals
          obtain ⟨e0, e1, hbb⟩ := HQ3.out.set (.string ⟨(smallL a).toArray⟩) (.string ⟨(trimL r).toArray⟩)
          have HBB := Lib.hid hbb
          clear hbb
          go_wp2
          refine bodyPost_ret (v := FdV s.data.toList) (by rw [HFV.out]; simp [results, Tryd.f43, go_sem, e0, e1]) rfl ⟨rfl, by first | exact HBB.out | exact HBB.out.drew⟩
      · have HNX := Lib.hid (show ∀ j, j < k + 1 → Lib.occAt s.data.toList [58] j = false from fun j hj => by
          rcases Nat.lt_or_ge j k with h | h
          · exact HK.out j h
          · obtain rfl : j = k := by omega
            rw [HO.out, ← Bool.not_eq_true, eq_num]
            show ¬ c.toNat = 58
            omega)
        have g1 : ((c.toNat : Int) == 58) = false := by simpa using h58
        go_wp2
        go_round
        case rel => exact ⟨k + 1, by omega, by go_num, HNX⟩
        case measure => simp [intOf] <;> omega
    · have hge : decide ((k : Int) < (s.size : Int)) = false := by simp; omega
      have HFV := Lib.hid (show FdV s.data.toList = .tuple #[.agg #[.string ⟨#[]⟩, .string ⟨#[]⟩], .bool false] by
        unfold FdV
        rw [cut_no (fun j hj => HK.out j (by rw [← HZ.out] at hj; omega))]
        rfl)
      obtain ⟨r0, r1, rf⟩ := HQ0.out.cells
      have s0 := rf 0
      have s1 := rf 1
      obtain ⟨e0, e1, hbb⟩ := HQ0.out.set (.string ⟨#[]⟩) (.string ⟨#[]⟩)
      have HBB := Lib.hid hbb
      clear rf hbb
      go_wp2
      exact bodyPost_ret (v := .tuple #[.agg #[.string ⟨#[]⟩, .string ⟨#[]⟩], .bool false]) (by simp [results, Tryd.f43, go_sem, e0, e1]) rfl ⟨by rw [HFV.out], by first | exact HBB.out | exact HQ0.out.below⟩
end Go.Proofs.YtnkpdnbnheffeaaDoor
