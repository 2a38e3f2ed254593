/- The document's Set: refused; where it comes. -/
import Derived.Test.YtaepgcicgmbbeaaWhRCan
namespace Go.Proofs.Ytaepgcicgmbbeaa
open Go.RowKit

theorem ins_split {L : List Fi} {x : Fi} {k : Nat} (h1 : ∀ y ∈ L.take k, ltF y x = true) (h2 : ∀ y, L[k]? = some y → ltF y x = false) : insL x L = L.take k ++ x :: L.drop k := by
  have e := List.take_append_drop k L
  have ht : (L.take k ++ L.drop k).takeWhile (fun y => ltF y x) = L.take k ∧ (L.take k ++ L.drop k).dropWhile (fun y => ltF y x) = L.drop k := by
    rw [List.takeWhile_append_of_pos h1, List.dropWhile_append_of_pos h1]
    cases hd : L.drop k with
    | nil => simp
    | cons y r =>
      have hy : L[k]? = some y := by
        have : (L.drop k)[0]? = some y := by rw [hd]; rfl
        rw [List.getElem?_drop] at this
        simpa using this
      have := h2 y hy
      rw [List.takeWhile_cons, List.dropWhile_cons, this]
      simp
  rw [e] at ht
  unfold insL
  rw [ht.1, ht.2]
theorem find_at {M : List Fi} {x y : Fi} {k : Nat} (h1 : ∀ z ∈ M.take k, ltF z x = true) (hy : M[k]? = some y) (h2 : ltF y x = false) : M.find? (fun z => !ltF z x) = some y := by
  have hs := at_split hy
  rw [hs, List.find?_append, List.find?_eq_none.2 fun z hz => by simp [h1 z hz], Option.none_or, List.find?_cons_of_pos (by simp [h2])]
theorem find_no {M : List Fi} {x : Fi} {k : Nat} (h1 : ∀ z ∈ M.take k, ltF z x = true) (hk : M.length ≤ k) : M.find? (fun z => !ltF z x) = none := by
  rw [List.take_of_length_le hk] at h1
  rw [List.find?_eq_none]
  intro z hz
  simp [h1 z hz]
section
variable {B : Nat} {w : World} {rv : Nat} {A : Option Addr} {c : Nat} {T : Int} {L : List Fi}
set_option maxRecDepth 100000 in
set_option maxHeartbeats 2000000 in
theorem rset_no (h : RefW B w rv A c T L) (id at' : Int) (hn : at' < T ∨ 1125899906842624 < at') :
    Calls Try.prog 22 #[.pointer (some ⟨rv, 0, none⟩), .int .i64 id, .int .i64 at'] w (RefP B w rv A T L (.int .i64 2)) := by
  have c0 := h.cells.1
  have HE : Hid (RefP B w rv A T L (.int .i64 2) (.returned (.int .i64 2)) w) := Lib.hid ⟨rfl, A, c, h, Turns.refl _ _, fun i hi => .inl hi⟩
  clear h
  by_cases h1 : at' < T
  · clear hn
    go_enter Try.func22, Try.ntmps22
    go_wp2
    go_ret
    exact HE.out
  · have e1 : decide (at' < T) = false := by simpa using h1
    have e2 : decide (1125899906842624 < at') = true := by simp; omega
    clear hn h1
    go_enter Try.func22, Try.ntmps22
    go_wp2
    go_ret
    exact HE.out
end
end Go.Proofs.Ytaepgcicgmbbeaa
