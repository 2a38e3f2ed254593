/- PackBounds: the walk. -/
import Derived.Test.YtblphklfjafmfaaDoorErrAsW
import Derived.Test.YtblphklfjafmfaaDoorKnown
import Derived.Test.YtblphklfjafmfaaDoorAppendB
namespace Go.Proofs.YtblphklfjafmfaaDoor
open Go.RowKit

set_option maxRecDepth 100000 in
set_option maxHeartbeats 400000 in
theorem uvarint_bad (b off cap code : Nat) (L : List UInt8) (w : World) (hg : ErrCell w) (hm : L.length ≤ maxLen) (hc : ∀ j c, L[j]? = some c → w.cell? ⟨b, off + j, none⟩ = some (bcell c)) (hr : readG 0 0 L = .inr code) :
    Calls Tryd.prog 11 #[.slice (some ⟨b, off, none⟩) L.length cap] w fun e w' => e = .returned (.tuple #[.int .u64 0, .int .i64 0, .int .i64 code]) ∧ Below w.heap.size w w' := by
  have HR := Lib.hid (read_some b off cap L w hm hc)
  rw [hr] at HR
  have hlt : 0 < w.heap.size := by
    rcases Nat.lt_or_ge 0 w.heap.size with h | h
    · exact h
    · unfold ErrCell at hg; simp [World.cell?, Array.getElem?_eq_none h] at hg
  have HG := Lib.hid hg
  clear hr hm hc hg
  go_enter Tryd.func11, Tryd.ntmps11
  go_wp2_with fail
  refine (Hid.out HR).mono ?_
  rintro e w1 ⟨p, rfl, hf, hp, hb⟩
  have HE := Lib.hid (errno_fault p code w1 (HG.out.below hb hlt) hf (by
    obtain ⟨g, s, rfl, hc⟩ := hf
    rcases Nat.lt_or_ge g w1.heap.size with h | h
    · exact h
    · rw [Array.getElem?_eq_none h] at hc; cases hc))
  have HB := Lib.hid hb
  clear hf hp hb
  go_wp2_with fail
  refine (Hid.out HE).mono ?_
  rintro e w2 ⟨rfl, hb⟩
  have HB2 := Lib.hid (HB.out.trans (hb.mono HB.out.size))
  clear hb
  go_wp2
  go_ret3
  exact ⟨rfl, HB2.out⟩

set_option maxRecDepth 100000 in
set_option maxHeartbeats 400000 in
theorem read_empty (cap : Nat) (w : World) :
    Calls Tryd.prog 18 #[.slice none 0 cap] w (RdPost (.inr 11) w) := by
  go_enter Tryd.func18, Tryd.ntmps18
  go_wp2
  refine wp_loop_rounds 1 ?_
  rw [rounds_succ]
  go_wp2
  go_ret3
  exact err_post _ _ _ _ rfl
set_option maxRecDepth 100000 in
set_option maxHeartbeats 400000 in
theorem uvarint_empty (w : World) (hg : ErrCell w) :
    Calls Tryd.prog 11 #[.slice none 0 0] w fun e w' => e = .returned (.tuple #[.int .u64 0, .int .i64 0, .int .i64 11]) ∧ Below w.heap.size w w' := by
  have HR := Lib.hid (read_empty 0 w)
  have hlt : 0 < w.heap.size := by
    rcases Nat.lt_or_ge 0 w.heap.size with h | h
    · exact h
    · unfold ErrCell at hg; simp [World.cell?, Array.getElem?_eq_none h] at hg
  have HG := Lib.hid hg
  clear hg
  go_enter Tryd.func11, Tryd.ntmps11
  go_wp2_with fail
  refine (Hid.out HR).mono ?_
  rintro e w1 ⟨p, rfl, hf, hp, hb⟩
  have HE := Lib.hid (errno_fault p 11 w1 (HG.out.below hb hlt) hf (by
    obtain ⟨g, s, rfl, hc⟩ := hf
    rcases Nat.lt_or_ge g w1.heap.size with h | h
    · exact h
    · rw [Array.getElem?_eq_none h] at hc; cases hc))
  have HB := Lib.hid hb
  clear hf hp hb
  go_wp2_with fail
  refine (Hid.out HE).mono ?_
  rintro e w2 ⟨rfl, hb⟩
  have HB2 := Lib.hid (HB.out.trans (hb.mono HB.out.size))
  clear hb
  go_wp2
  go_ret3
  exact ⟨rfl, HB2.out⟩

/-- A slice of bytes just laid. -/
theorem cells_new (w : World) (l : List UInt8) (t : TypeId) : ∀ j c, l[j]? = some c → (w.alloc (.cells (l.map bcell).toArray t)).cell? ⟨w.heap.size, 0 + j, none⟩ = some (bcell c) := by
  intro j c hj
  rw [cell_of_row _ _ _ _ _ _ (heap_alloc_new w _)]
  simp [hj]
def l1 : List UInt8 := [128, 128, 128, 128, 128, 128, 128, 128, 128, 2]
def l2 : List UInt8 := [255, 255, 255, 255, 255, 255, 255, 255, 255, 1]
def l3 : List UInt8 := [128, 0]
theorem r1 : readG 0 0 l1 = .inr 4 := by decide +kernel
theorem r2 : readG 0 0 l2 = .inl (18446744073709551615, 10) := by decide +kernel
theorem r3 : readG 0 0 l3 = .inr 4 := by decide +kernel
theorem f5 : foldN (-9223372036854775808) = 18446744073709551615 := by decide +kernel
theorem u1 (w w0 : World) (hb : Below w.heap.size w w0) (hg : ErrCell w0) : Calls Tryd.prog 11 #[.slice (some ⟨w0.heap.size, 0, none⟩) 10 10] (w0.alloc (.cells #[.int .u8 128, .int .u8 128, .int .u8 128, .int .u8 128, .int .u8 128, .int .u8 128, .int .u8 128, .int .u8 128, .int .u8 128, .int .u8 2] 5))
    fun e w' => e = .returned (.tuple #[.int .u64 0, .int .i64 0, .int .i64 4]) ∧ Below w.heap.size w w' := by
  have h := uvarint_bad w0.heap.size 0 10 4 l1 (w0.alloc (.cells (l1.map bcell).toArray 5)) (hg.below ((Below.refl _ _).alloc (Nat.le_refl _) _) (by
    rcases Nat.lt_or_ge 0 w0.heap.size with h | h
    · exact h
    · unfold ErrCell at hg; simp [World.cell?, Array.getElem?_eq_none h] at hg)) (by decide) (cells_new w0 l1 _) r1
  exact h.mono fun e w' ⟨h1, h2⟩ => ⟨h1, (hb.alloc hb.size _).trans (h2.mono (by have := hb.size; simp; omega))⟩
theorem u2 (w w0 : World) (hb : Below w.heap.size w w0) : Calls Tryd.prog 11 #[.slice (some ⟨w0.heap.size, 0, none⟩) 10 10] (w0.alloc (.cells #[.int .u8 255, .int .u8 255, .int .u8 255, .int .u8 255, .int .u8 255, .int .u8 255, .int .u8 255, .int .u8 255, .int .u8 255, .int .u8 1] 5))
    fun e w' => e = .returned (.tuple #[.int .u64 18446744073709551615, .int .i64 10, .int .i64 0]) ∧ Below w.heap.size w w' := by
  have h := uvarint_ok w0.heap.size 0 10 18446744073709551615 10 l2 (w0.alloc (.cells (l2.map bcell).toArray 5)) (by decide) (cells_new w0 l2 _) r2
  exact h.mono fun e w' ⟨h1, h2⟩ => ⟨h1, by subst h2; exact hb.alloc hb.size _⟩
theorem u3 (w w0 : World) (hb : Below w.heap.size w w0) (hg : ErrCell w0) : Calls Tryd.prog 11 #[.slice (some ⟨w0.heap.size, 0, none⟩) 2 2] (w0.alloc (.cells #[.int .u8 128, .int .u8 0] 5))
    fun e w' => e = .returned (.tuple #[.int .u64 0, .int .i64 0, .int .i64 4]) ∧ Below w.heap.size w w' := by
  have h := uvarint_bad w0.heap.size 0 2 4 l3 (w0.alloc (.cells (l3.map bcell).toArray 5)) (hg.below ((Below.refl _ _).alloc (Nat.le_refl _) _) (by
    rcases Nat.lt_or_ge 0 w0.heap.size with h | h
    · exact h
    · unfold ErrCell at hg; simp [World.cell?, Array.getElem?_eq_none h] at hg)) (by decide) (cells_new w0 l3 _) r3
  exact h.mono fun e w' ⟨h1, h2⟩ => ⟨h1, (hb.alloc hb.size _).trans (h2.mono (by have := hb.size; simp; omega))⟩
theorem u5a (w w0 : World) (hb : Below w.heap.size w w0) : Calls Tryd.prog 9 #[.int .u64 18446744073709551615] w0
    fun e w' => ∃ v, e = .returned v ∧ Hid (Owned w0.heap.size w' v (putL (foldN (-9223372036854775808)) ++ [])) ∧ Hid (Below w.heap.size w w') := by
  refine (rput_any 18446744073709551615 w0 (by decide)).mono fun e w' h => ?_
  obtain ⟨v, rfl, ho, hb2⟩ := h
  exact ⟨v, rfl, Lib.hid (by rw [List.append_nil, f5]; exact ho), Lib.hid (hb.trans (hb2.mono hb.size))⟩

def Fin1 (w : World) (e : Ending) (w' : World) : Prop := e = .returned (.bool true) ∧ Below w.heap.size w w'
set_option maxRecDepth 100000 in
set_option maxHeartbeats 800000 in
theorem bounds_walk (w : World) (hg : ErrCell w) : Calls Tryd.prog 4 #[] w (Fin1 w) := by
  have hlt : 0 < w.heap.size := by
    rcases Nat.lt_or_ge 0 w.heap.size with h | h
    · exact h
    · unfold ErrCell at hg; simp [World.cell?, Array.getElem?_eq_none h] at hg
  have HG := Lib.hid (fun w' (hb : Below w.heap.size w w') => hg.below hb hlt)
  have HU1 := Lib.hid (u1 w w (Below.refl _ _) hg)
  clear hg
  go_enter Tryd.func4, Tryd.ntmps4
  go_wp2_with fail
  refine (Hid.out HU1).mono ?_
  rintro e w1 ⟨rfl, hb⟩
  have HB1 := Lib.hid hb
  have HU2 := Lib.hid (u2 w w1 hb)
  clear hb
  go_wp2_with fail
  refine (Hid.out HU2).mono ?_
  rintro e w2 ⟨rfl, hb⟩
  have HB2 := Lib.hid hb
  have HU3 := Lib.hid (u3 w w2 hb (HG.out _ hb))
  clear hb
  go_wp2_with fail
  refine (Hid.out HU3).mono ?_
  rintro e w3 ⟨rfl, hb⟩
  have HB3 := Lib.hid hb
  have HU4 := Lib.hid (uvarint_empty w3 (HG.out _ hb))
  clear hb
  go_wp2_with fail
  refine (Hid.out HU4).mono ?_
  rintro e w4 ⟨rfl, hb⟩
  have HB4 := Lib.hid (HB3.out.trans (hb.mono HB3.out.size))
  have HU5 := Lib.hid (u5a w w4 HB4.out)
  clear hb
  go_wp2_with fail
  refine (Hid.out HU5).mono ?_
  rintro e w5 ⟨v, rfl, HO5, HB5⟩
  have HV := Lib.hid (varint_own (by decide) (by decide) (by decide) HO5.out)
  go_wp2_with fail
  refine (Hid.out HV).mono ?_
  rintro e w' ⟨rfl, rfl⟩
  have HK := Lib.hid (known_yes w w5 HB5.out)
  go_wp2_with fail
  refine (Hid.out HK).mono ?_
  rintro e w6 ⟨rfl, hb⟩
  have HB6 := Lib.hid hb
  clear hb
  go_wp2
  go_ret
  exact ⟨rfl, HB6.out⟩
end Go.Proofs.YtblphklfjafmfaaDoor
