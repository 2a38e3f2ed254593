/- The walk of fix.Parse. -/
import Derived.Test.YtmbdggbppbkojaaDoorFixParse
namespace Go.Proofs.YtmbdggbppbkojaaDoor
open Go.RowKit

theorem iterPos_of {w : World} {k : Nat} {s : ByteArray} {p : Nat} (h : w.heap[k]? = some (.stringIter s p)) : w.iterPos k = p := by simp [World.iterPos, h]
theorem below_drewN {B : Nat} {a w : World} (h : Below B a w) (n : Nat) : Below B a (w.drewN n) := ⟨h.os, h.tape, h.output, h.size, h.block⟩
theorem Row.below {w w' : World} {g B : Nat} {t : TypeId} {cs : Array Value} (h : Row w g t cs) (hb : Below B w w') (hg : g < B) : Row w' g t cs := (hb.block g hg).trans h
theorem Row.new (w : World) (t : TypeId) (cs : Array Value) : Row (w.alloc (.cells cs t)) w.heap.size t cs := Go.heap_alloc_new w _
theorem Row.alloc {w : World} {g : Nat} {t : TypeId} {cs : Array Value} (h : Row w g t cs) (o : Obj) : Row (w.alloc o) g t cs := (Below.heap_alloc w o g h.lt).trans h
theorem Row.iterAt {w : World} {g k : Nat} {t : TypeId} {cs : Array Value} (h : Row w g t cs) (hk : g ≠ k) (s : ByteArray) (p : Nat) : Row (w.iterAt k s p) g t cs := by
  unfold Row at h ⊢
  rw [Lib.iterAt_other _ _ _ _ _ hk]; exact h

set_option maxRecDepth 100000 in
set_option maxHeartbeats 1000000 in
theorem parse_word (s : ByteArray) (w : World) (hs : s.size < 4294967281) (hT : FoldTab w) (hlt : 2 < w.heap.size) (hw : isWordB s.data.toList = true) :
    Calls Tryd.prog 8 #[.string s] w fun e w' => e = .returned (.tuple #[.int .i64 0, .int .i64 4]) ∧ Below w.heap.size w w' := by
  have HW := isWord_any s w hs hT hlt
  rw [hw] at HW
  have HW := Lib.hid HW
  clear hw hT
  go_enter Tryd.func8, Tryd.ntmps8
  go_wp2_with fail
  refine (Hid.out HW).mono ?_
  rintro e w1 ⟨rfl, hb⟩
  go_wp2
  go_ret2
  exact ⟨rfl, hb⟩

set_option maxRecDepth 100000 in
set_option maxHeartbeats 2000000 in
theorem parse_num (s : ByteArray) (w : World) (hs : s.size < 4294967281) (hT : FoldTab w) (hlt : 2 < w.heap.size) (hw : isWordB s.data.toList = false) :
    Calls Tryd.prog 8 #[.string s] w fun e w' => e = .returned (.tuple #[.int .i64 (parseF s.data.toList).1, .int .i64 (parseF s.data.toList).2]) ∧ Below w.heap.size w w' := by
  have HW := isWord_any s w hs hT hlt
  rw [hw] at HW
  have HW := Lib.hid HW
  have HP := Lib.hid (show parseF s.data.toList = (if (runP 0 num0 s.data.toList).1 = 2 ∨ (runP 0 num0 s.data.toList).1 = 4 ∨ (runP 0 num0 s.data.toList).1 = 7 then millF (runP 0 num0 s.data.toList).2 else (0, 3)) by simp [parseF, hw])
  clear hw hT
  go_enter Tryd.func8, Tryd.ntmps8
  go_wp2_with fail
  refine (Hid.out HW).mono ?_
  rintro e w1 ⟨rfl, hb⟩
  have HB := Lib.hid hb
  have hg : w.heap.size ≤ w1.heap.size := hb.size
  clear hb
  go_wp2
  obtain ⟨g, hgg⟩ : ∃ g, g = w1.heap.size := ⟨_, rfl⟩
  rw [← hgg] at hg ⊢
  have hnew : Row (w1.alloc (.cells num0.cells 41)) g 41 num0.cells := by rw [hgg]; exact Row.new _ _ _
  have HNEW := Lib.hid hnew
  have hit0 : ((w1.alloc (.cells num0.cells 41)).iter s 0).heap[g + 1]? = some (.stringIter s 0) := by
    have := World.iter_heap (w1.alloc (.cells num0.cells 41)) s 0
    rw [show (w1.alloc (.cells num0.cells 41)).heap.size = g + 1 by rw [hgg]; simp] at this
    exact this
  have HIT0 := Lib.hid hit0
  have HB1 := Lib.hid (show Below w.heap.size w ((w1.alloc (.cells num0.cells 41)).iter s 0) from (HB.out.alloc HB.out.size _).alloc (by have := HB.out.size; simp; omega) _)
  clear hnew hit0 hgg
  go_loopw [4] (fun v wr => ∃ (pos a : Nat) (N : Num), v = .int .i64 a ∧ a < 8 ∧ pos ≤ s.size ∧ Small N pos ∧ wr.heap[g + 1]? = some (.stringIter s pos) ∧ Row wr g 41 N.cells ∧ Below w.heap.size w wr ∧ Hid (runP a N (s.data.toList.drop pos) = runP 0 num0 s.data.toList)) (fun _ wr => s.size - wr.iterPos (g + 1))
  case atStart => exact ⟨0, 0, num0, rfl, by omega, by omega, small0, HIT0.out, HNEW.out.alloc _, HB1.out, Lib.hid rfl⟩
  case round =>
    obtain ⟨pos, a, N, rfl, ha, hpos, hN, hit, hrow, hbw, HR⟩ := hrel
    have hpos0 := iterPos_of hit
    have HPOS := Lib.hid hpos0
    clear hpos0
    by_cases hp : pos < s.size
    · obtain ⟨c, hc⟩ : ∃ c : UInt8, s[pos]'hp = c := ⟨_, rfl⟩
      have hcl : s.data.toList[pos]? = some c := by rw [← hc]; exact Lib.data_getElem? s pos hp
      have HCL := Lib.hid hcl
      clear hcl
      have hq : (c.toNat : Int) ≤ 255 := by have := c.toNat_lt; omega
      by_cases hasc : c.toNat < 128
      · have hnx := fun ty => Lib.run_next_ascii_at (P := Tryd.prog) wr (g + 1) s pos ty hit hp (by rw [hc]; exact hasc)
        rw [hc] at hnx
        have hit2 := Lib.iterAt_heap wr (g + 1) s pos (pos + 1) hit
        have hbw2 := Lib.below_iterAt hbw (k := g + 1) (by omega) s (pos + 1)
        have hrow2 := hrow.iterAt (k := g + 1) (by omega) s (pos + 1)
        obtain ⟨W1, hW1⟩ : ∃ W1, W1 = wr.iterAt (g + 1) s (pos + 1) := ⟨_, rfl⟩
        rw [← hW1] at hnx hit2 hbw2 hrow2
        clear hW1 hit hbw hrow
        have HN1 := Lib.hid (next_any a (c.toNat : Int) W1 (by omega))
        have HTK := Lib.hid (take_any g N (nextF a c.toNat) c.toNat W1 pos hrow2 (by omega) hN (nextF_le _ _) (fun h => nextF_digit h))
        have HSM := Lib.hid (takeF_small hN (nextF a c.toNat) c.toNat (fun h => nextF_digit (Or.inr h)))
        have hRS : runP a N (s.data.toList.drop pos) = (if nextF a c.toNat = 8 then (8, N) else runP (nextF a c.toNat) (takeF N (nextF a c.toNat) c.toNat) (s.data.toList.drop (pos + 1))) := by
          rw [Lib.drop_at HCL.out]; rfl
        have HRS := Lib.hid hRS
        have hle := nextF_le a c.toNat
        clear hRS hrow2 hN
        generalize nextF a (c.toNat : Int) = a' at *
        have HI2 := Lib.hid hit2
        have HB2 := Lib.hid hbw2
        clear hit2 hbw2
        go_wp2_with fail
        refine (Hid.out HN1).mono ?_
        rintro e w' ⟨rfl, rfl⟩
        go_wp2_with fail
        refine (Hid.out HTK).mono ?_
        rintro e w2 ⟨rfl, hrow3, hgr⟩
        have HR3 := Lib.hid hrow3
        have hit3 : w2.heap[g + 1]? = some (.stringIter s (pos + 1)) := (hgr.block (g + 1) (by have := HI2.out; exact (Array.getElem?_eq_some_iff.1 this).1) (by simp)).trans HI2.out
        have HI3 := Lib.hid hit3
        have HB3 := Lib.hid (Below.grown HB2.out hgr (by have := (Array.getElem?_eq_some_iff.1 HI2.out).1; omega) (fun j hj => by cases hj; exact hg))
        clear hrow3 hgr hit3
        by_cases h8 : a' = 8
        · have e8 : ((a' : Int) == 8) = true := beq_iff_eq.2 (by omega)
          have e2 : ((a' : Int) == 2) = false := beq_eq_false_iff_ne.2 (by omega)
          have e4 : ((a' : Int) == 4) = false := beq_eq_false_iff_ne.2 (by omega)
          have e7 : ((a' : Int) == 7) = false := beq_eq_false_iff_ne.2 (by omega)
          have hE := Lib.hid (show parseF s.data.toList = (0, 3) by rw [HP.out, ← HR.out, HRS.out, if_pos h8]; simp)
          clear h8
          go_wp2
          go_ret2
          exact ⟨ret_pi (by rw [hE.out] <;> rfl) (by rw [hE.out] <;> rfl), HB3.out⟩
        · have e8 : ((a' : Int) == 8) = false := beq_eq_false_iff_ne.2 (by omega)
          have HNR := Lib.hid (show runP a' (takeF N a' c.toNat) (s.data.toList.drop (pos + 1)) = runP 0 num0 s.data.toList by rw [← HR.out, HRS.out, if_neg h8])
          have hlt8 : a' < 8 := by omega
          clear h8
          go_wp2
          go_roundw
          case rel => exact ⟨pos + 1, a', takeF N a' c.toNat, rfl, hlt8, by omega, HSM.out, HI3.out, HR3.out, HB3.out, HNR⟩
          case measure => rw [iterPos_of HI3.out, HPOS.out]; omega
      · have hnx := fun ty => Lib.run_next_any_at (P := Tryd.prog) wr (g + 1) s pos ty hit hp
        have hdec := (decode_high s pos hp (by rw [hc]; omega)).1
        have hit2 := Lib.iterAt_heap wr (g + 1) s pos (pos + (Utf8.decode s pos).2) hit
        have hbw2 := Lib.below_iterAt hbw (k := g + 1) (by omega) s (pos + (Utf8.decode s pos).2)
        have hrow2 := hrow.iterAt (k := g + 1) (by omega) s (pos + (Utf8.decode s pos).2)
        obtain ⟨W1, hW1⟩ : ∃ W1, W1 = wr.iterAt (g + 1) s (pos + (Utf8.decode s pos).2) := ⟨_, rfl⟩
        rw [← hW1] at hnx hit2 hbw2 hrow2
        clear hW1 hit hbw hrow
        generalize (Utf8.decode s pos).1 = r at *
        have hE := Lib.hid (show parseF s.data.toList = (0, 3) by rw [HP.out, ← HR.out, Lib.drop_at HCL.out, runP, if_pos (nextF_high a c.toNat (by omega))]; simp)
        have HN1 := next_any a (r : Int) W1 (by omega)
        rw [nextF_high a r (by omega)] at HN1
        have HN1 := Lib.hid HN1
        have HTK := Lib.hid (take_none g N (r : Int) W1 8 (by omega) hrow2)
        have HB2 := Lib.hid hbw2
        have hgs := hrow2.lt
        clear hbw2 hrow2 hN hit2
        go_wp2_with fail
        refine (Hid.out HN1).mono ?_
        rintro e w' ⟨rfl, rfl⟩
        go_wp2_with fail
        refine (Hid.out HTK).mono ?_
        rintro e w2 ⟨rfl, hrow3, hgr⟩
        have HB3 := Lib.hid (Below.grown HB2.out hgr (by omega) (fun j hj => by cases hj; exact hg))
        clear hrow3 hgr
        go_wp2
        go_ret2
        exact ⟨ret_pi (by rw [hE.out] <;> rfl) (by rw [hE.out] <;> rfl), HB3.out⟩
    · have hnx := fun ty => Lib.run_next_end_at (P := Tryd.prog) wr (g + 1) s pos ty hit hp
      have hlen : s.data.toList.drop pos = [] := List.drop_eq_nil_of_le (by rw [← Lib.size_eq]; omega)
      have hPE : parseF s.data.toList = (if a = 2 ∨ a = 4 ∨ a = 7 then millF N else (0, 3)) := by rw [HP.out, ← HR.out, hlen]; rfl
      have HPE := Lib.hid hPE
      have HML := Lib.hid (mill_any g N wr hrow (by have := hN.zeros; omega) (by have := hN.behind; omega) (by have := hN.power; omega) hN.digits)
      have HB2 := Lib.hid hbw
      clear hPE hlen hit hrow hbw hN hp
      have h9 : a = 0 ∨ a = 1 ∨ a = 2 ∨ a = 3 ∨ a = 4 ∨ a = 5 ∨ a = 6 ∨ a = 7 := by omega
      rcases h9 with rfl | rfl | rfl | rfl | rfl | rfl | rfl | rfl
      all_goals
        go_wp2_with fail
        first
        | (go_ret2; exact ⟨ret_pi (by rw [HPE.out] <;> rfl) (by rw [HPE.out] <;> rfl), HB2.out⟩)
        | (refine (Hid.out HML).mono ?_
           rintro e w' ⟨rfl, n, rfl⟩
           go_wp2
           go_ret2
           exact ⟨ret_pi (by rw [HPE.out] <;> rfl) (by rw [HPE.out] <;> rfl), below_drewN HB2.out _⟩)

theorem parse_any (s : ByteArray) (w : World) (hs : s.size < 4294967281) (hT : FoldTab w) (hlt : 2 < w.heap.size) :
    Calls Tryd.prog 8 #[.string s] w fun e w' => e = .returned (.tuple #[.int .i64 (parseF s.data.toList).1, .int .i64 (parseF s.data.toList).2]) ∧ Below w.heap.size w w' := by
  cases hw : isWordB s.data.toList with
  | true =>
    have : parseF s.data.toList = (0, 4) := by simp [parseF, hw]
    rw [this]
    exact parse_word s w hs hT hlt hw
  | false => exact parse_num s w hs hT hlt hw
/-- In whatever later world. -/
theorem parse_later (s : ByteArray) (w w1 : World) (hs : s.size < 4294967281) (hT : FoldTab w) (hlt : 2 < w.heap.size) (hb : Below w.heap.size w w1) :
    Calls Tryd.prog 8 #[.string s] w1 fun e w' => e = .returned (.tuple #[.int .i64 (parseF s.data.toList).1, .int .i64 (parseF s.data.toList).2]) ∧ Below w.heap.size w w' :=
  (parse_any s w1 hs (hT.below hb hlt) (Nat.lt_of_lt_of_le hlt hb.size)).mono fun _ _ h => ⟨h.1, hb.trans (h.2.mono hb.size)⟩
end Go.Proofs.YtmbdggbppbkojaaDoor
