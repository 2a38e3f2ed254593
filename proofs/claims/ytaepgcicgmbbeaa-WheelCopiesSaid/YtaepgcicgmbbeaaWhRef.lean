/- The document's wheel in memory; its Of. -/
import Derived.Test.YtaepgcicgmbbeaaWhCutsW
import Derived.Deep.RegionLaw
namespace Go.Proofs.Ytaepgcicgmbbeaa
open Go.RowKit

structure RefW (B : Nat) (w : World) (rv : Nat) (A : Option Addr) (c : Nat) (T : Int) (L : List Fi) : Prop where
  head : w.heap[rv]? = some (.cells #[.int .i64 T, .slice A L.length c] 29 (0, 0))
  reads : fK.Reads w w.heap.size A L
  low : B ≤ rv
  form : (A = none ∧ c = 0) ∨ ∃ b off, A = some ⟨b, off, none⟩ ∧ B ≤ b ∧ b < w.heap.size ∧ b ≠ rv
  cap : L.length ≤ c
def blkA (A : Option Addr) : List Nat := (A.map (·.block)).toList
section
variable {B : Nat} {w w' : World} {rv : Nat} {A : Option Addr} {c : Nat} {T : Int} {L : List Fi}
theorem RefW.lt (h : RefW B w rv A c T L) : rv < w.heap.size := lt_of_block h.head
theorem RefW.turns {F : List Nat} (h : RefW B w rv A c T L) (ht : Turns F w w') (h1 : rv ∉ F) (h2 : ∀ i ∈ blkA A, i ∉ F) : RefW B w' rv A c T L := by
  refine ⟨(ht.block rv h.lt h1).trans h.head, (h.reads.turns (Nat.le_refl _) ht fun a ha => h2 _ (by simp [blkA, ha])).more ht.size, h.low, ?_, h.cap⟩
  rcases h.form with h | ⟨b, off, e, a1, a2, a3⟩
  · exact .inl h
  · exact .inr ⟨b, off, e, a1, Nat.lt_of_lt_of_le a2 ht.size, a3⟩
theorem RefW.pre (h : RefW B w rv A c T L) (ht : Turns [] w w') : RefW B w' rv A c T L := h.turns ht (by simp) (by simp)
theorem RefW.cells (h : RefW B w rv A c T L) : w.cell? ⟨rv, 0, none⟩ = some (.int .i64 T) ∧ w.cell? ⟨rv, 1, none⟩ = some (.slice A L.length c) ∧ ∀ j, w.frozen? ⟨rv, j, none⟩ = false :=
  ⟨by simp [World.cell?, h.head], by simp [World.cell?, h.head], fun j => by simp [World.frozen?, h.head]⟩
theorem RefW.at_ (h : RefW B w rv A c T L) {i : Nat} {x : Fi} (hx : L[i]? = some x) : ∃ b off, A = some ⟨b, off, none⟩ ∧ w.cell? ⟨b, off + i * 2, none⟩ = some (.int .i64 x.1) ∧ w.cell? ⟨b, off + i * 2 + 1, none⟩ = some (.int .i64 x.2) := by
  obtain ⟨b, off, e, _, hc⟩ := h.reads.at fOk (by have := (List.getElem?_eq_some_iff.1 hx).1; omega)
  exact ⟨b, off, e, hc i x hx 0 _ rfl, hc i x hx 1 _ rfl⟩
/-- The place of a number's timer, or less than nothing. -/
def OfP (L : List Fi) (id : Int) (k : Int) : Prop := (k = -1 ∧ getL id L = none) ∨ ∃ (i : Nat) (x : Fi), k = (i : Int) ∧ L[i]? = some x ∧ getL id L = some x
set_option maxRecDepth 100000 in
set_option maxHeartbeats 2000000 in
theorem of_any (h : RefW B w rv A c T L) (hL : L.length ≤ 1000) (id : Int) :
    Calls Try.prog 25 #[.pointer (some ⟨rv, 0, none⟩), .int .i64 id] w fun e w' => (∃ k, e = .returned (.int .i64 k) ∧ OfP L id k) ∧ w = w' := by
  obtain ⟨q0, q1, _⟩ := h.cells
  have H := Lib.hid h
  have HL := Lib.hid hL
  clear h hL
  go_enter Try.func25, Try.ntmps25
  go_wp2
  go_loopw [5] (fun i wr => ∃ k : Nat, i = .int .i64 (k : Int) ∧ k ≤ L.length ∧ Hid (∀ x ∈ L.take k, x.1 ≠ id) ∧ w = wr) (fun i _ => L.length - (intOf i).toNat)
  case atStart => exact ⟨0, rfl, Nat.zero_le _, Lib.hid (by simp), rfl⟩
  case round =>
    obtain ⟨k, rfl, hk, HQ, rfl⟩ := hrel
    by_cases hlt : k < L.length
    · obtain ⟨x, hx⟩ : ∃ x, L[k]? = some x := ⟨_, List.getElem?_eq_getElem hlt⟩
      obtain ⟨b, off, rfl, d0, d1⟩ := H.out.at_ hx
      have f2 : (k : Int) < (L.length : Int) := by omega
      have f3 : (0 : Int) ≤ (k : Int) := by omega
      have HX := Lib.hid hx
      have HKL := Lib.hid hlt
      have HWK := Lib.hid (wrapS (i := k) (by have := HL.out; omega))
      clear hx hlt
      by_cases he : x.1 = id
      · have hb : (x.1 == id) = true := by simpa using he
        have HF : Hid (getL id L = some x) := Lib.hid (by
          have hs : L = L.take k ++ x :: L.drop (k + 1) := by
            have h1 := (List.take_append_drop k L).symm
            rw [List.drop_eq_getElem_cons HKL.out] at h1
            have h2 := HX.out
            rw [List.getElem?_eq_getElem HKL.out] at h2
            cases h2
            exact h1
          unfold getL
          rw [hs, List.find?_append]
          have h1 : (L.take k).find? (fun x => decide (x.1 = id)) = none := by
            rw [List.find?_eq_none]
            intro y hy
            simpa using HQ.out y hy
          rw [h1, Option.none_or, List.find?_cons_of_pos (by simpa using he)])
        clear he
        go_wp2
        go_ret
        exact ⟨⟨_, rfl, .inr ⟨k, x, rfl, HX.out, HF.out⟩⟩, rfl⟩
      · have hb : (x.1 == id) = false := by simpa using he
        have HE := Lib.hid he
        clear he
        go_wp2
        go_roundw
        case rel =>
          refine ⟨k + 1, congrArg (Value.int .i64) HWK.out, HKL.out, Lib.hid (fun y hy => ?_), trivial⟩
          rw [List.take_add_one, HX.out] at hy
          rcases List.mem_append.1 hy with h | h
          · exact HQ.out y h
          · simp at h
            rw [h]
            exact HE.out
        case measure => exact measS HKL.out HWK.out
    · have hge : decide ((k : Int) < (L.length : Int)) = false := by simp; omega
      have HF : Hid (getL id L = none) := Lib.hid (by
        unfold getL
        rw [List.find?_eq_none]
        intro y hy
        have := HQ.out y (by rw [List.take_of_length_le (by omega)]; exact hy)
        simpa using this)
      go_wp2
      go_ret
      exact ⟨⟨_, rfl, .inl ⟨rfl, HF.out⟩⟩, rfl⟩
end
/-- What a call on the document's wheel leaves. -/
def RefP (B : Nat) (w : World) (rv : Nat) (A : Option Addr) (T' : Int) (L' : List Fi) (v : Value) (e : Ending) (w' : World) : Prop :=
  e = .returned v ∧ ∃ A' c', RefW B w' rv A' c' T' L' ∧ Turns [rv] w w' ∧ ∀ i ∈ blkA A', i ∈ blkA A ∨ w.heap.size ≤ i
end Go.Proofs.Ytaepgcicgmbbeaa
