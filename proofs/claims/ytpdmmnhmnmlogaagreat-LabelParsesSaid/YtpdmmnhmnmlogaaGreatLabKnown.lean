/- The laws' own helper: the chapter's row. -/
import Derived.Test.YtpdmmnhmnmlogaaGreatLabName
namespace Go.Proofs.YtpdmmnhmnmlogaaGreat
open Go.RowKit

def rowL : List Lbl := [([106, 111, 98], [97, 34, 98]), ([97, 116], [])]
def rowT : List UInt8 := [117, 112, 123, 97, 116, 61, 34, 34, 44, 106, 111, 98, 61, 34, 97, 92, 34, 98, 34, 125]
theorem row_name : nameP [117, 112] rowL = some rowT := by decide +kernel
theorem row_reads (w : World) : LReads (w.alloc (.cells #[.string ⟨#[106, 111, 98]⟩, .string ⟨#[97, 34, 98]⟩, .string ⟨#[97, 116]⟩, .string ⟨#[]⟩] 42)) (w.alloc (.cells #[.string ⟨#[106, 111, 98]⟩, .string ⟨#[97, 34, 98]⟩, .string ⟨#[97, 116]⟩, .string ⟨#[]⟩] 42)).heap.size (some ⟨w.heap.size, 0, none⟩) rowL := by
  refine .inr ⟨w.heap.size, 0, rfl, by simp, fun j u hj => ?_⟩
  match j, hj with
  | 0, hj => cases hj; simp [strV]
  | 1, hj => cases hj; simp [strV]
  | 2, hj => cases hj; simp [strV]
  | 3, hj => cases hj; simp [strV]
  | j + 4, hj => cases hj
theorem row_call (w : World) : Calls Tryz.prog 16 #[.string ⟨#[117, 112]⟩, .slice (some ⟨w.heap.size, 0, none⟩) 2 2] (w.alloc (.cells #[.string ⟨#[106, 111, 98]⟩, .string ⟨#[97, 34, 98]⟩, .string ⟨#[97, 116]⟩, .string ⟨#[]⟩] 42))
    fun e w' => e = .returned (.tuple #[.string ⟨#[117, 112, 123, 97, 116, 61, 34, 34, 44, 106, 111, 98, 61, 34, 97, 92, 34, 98, 34, 125]⟩, .int .i64 0]) ∧ Below w.heap.size w w' := by
  have h := name_any (some ⟨w.heap.size, 0, none⟩) 2 ⟨#[117, 112]⟩ rowL _ (by decide) (by decide) (by intro x hx; simp [rowL] at hx; rcases hx with rfl | rfl <;> decide) (row_reads w)
  refine h.mono fun e w' ⟨h1, h2⟩ => ⟨?_, ((Below.refl _ _).alloc (Nat.le_refl _) _).trans (h2.mono (by simp))⟩
  rw [h1, show nameP (⟨#[117, 112]⟩ : ByteArray).data.toList rowL = some rowT from row_name]
  rfl
set_option maxRecDepth 100000 in
set_option maxHeartbeats 400000 in
theorem known_yes (w w0 : World) (hb : Below w.heap.size w w0) :
    Calls Tryz.prog 5 #[] w0 fun e w' => e = .returned (.bool true) ∧ Below w.heap.size w w' := by
  have HB := Lib.hid hb
  have HC := Lib.hid (row_call w0)
  clear hb
  go_enter Tryz.func5, Tryz.ntmps5
  go_wp2_with fail
  refine (Hid.out HC).mono ?_
  rintro e w1 ⟨rfl, hb1⟩
  have HB1 := Lib.hid hb1
  clear hb1
  go_wp2
  go_ret
  exact ⟨rfl, HB.out.trans (HB1.out.mono HB.out.size)⟩
end Go.Proofs.YtpdmmnhmnmlogaaGreat
