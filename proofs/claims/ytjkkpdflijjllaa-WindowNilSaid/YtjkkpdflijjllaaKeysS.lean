/- A map's text keys in order: slices.Sorted(maps.Keys(m)), told by a list of rising texts. -/
import Derived.Test.YtjkkpdflijjllaaMapO
import Derived.Test.YtjkkpdflijjllaaRowK2
import Derived.Test.YtjkkpdflijjllaaIterW
import Derived.Deep.QuietTactic
import Derived.WalkKit
namespace Go.Proofs.Ytjkkpdflijjllaa
open Go.RowKit Go.Maps Go.Sort Go.Shelf

def i64K : EK Int := ⟨53, 2, 1, 8, .int .i64 0, fun x => [.int .i64 x]⟩
theorem i64Ok : i64K.Ok Try.prog := ⟨Try.underlying53, by kernel_rfl, rfl, by decide, by decide, fun _ => rfl, fun x u hu => by simp [i64K] at hu; rcases hu with rfl; rfl⟩
theorem flat_i64 : ∀ l : List Int, i64K.flat l = l.map encZ
  | [] => rfl
  | x :: l => by rw [EK.flat_cons, flat_i64 l]; rfl
abbrev numKD : KD 2 Int := intKD Try.underlying2
theorem num_keyed : Maps.Keyed Try.prog 2 := Maps.int_keyed Try.underlying2
theorem sort_num {ss L : List Int} (hp : ss.Perm L) (h : L.Pairwise (· < ·)) : ss.mergeSort (fun x y => decide (x ≤ y)) = L := by
  have tr : ∀ a b c : Int, decide (a ≤ b) = true → decide (b ≤ c) = true → decide (a ≤ c) = true := fun a b c h1 h2 => by simp only [decide_eq_true_eq] at *; omega
  have tot : ∀ a b : Int, (decide (a ≤ b) || decide (b ≤ a)) = true := fun a b => by simp only [Bool.or_eq_true, decide_eq_true_eq]; omega
  refine List.Perm.eq_of_pairwise (le := fun a b => decide (a ≤ b) = true) (fun a b _ _ h1 h2 => ?_) (List.pairwise_mergeSort tr tot ss) (h.imp fun {a b} hab => ?_) ((List.mergeSort_perm ss _).trans hp)
  · simp only [decide_eq_true_eq] at h1 h2; omega
  · simp only [decide_eq_true_eq]; omega
theorem perm_num {R : RdV} {w : World} {b n : Nat} {f : Int → Option Value} {L : List Int} (h : MapG numKD R w b f n) (hL : L.Pairwise (· < ·)) (hm : ∀ x, x ∈ L ↔ (f x).isSome = true) : ∃ D : DataW Unit, w.ownsMap Try.prog 2 R b n D ∧ Maps.size D = n ∧ L.Perm (intKeys D) := by
  obtain ⟨D, ho, hs, hk⟩ := h
  refine ⟨D, ho, hs, ?_⟩
  obtain ⟨es, hD, hpw, _⟩ := ho.entries num_keyed
  obtain ⟨es', hD', hko⟩ := ho.keysOf
  obtain rfl : es = es' := by rw [hD] at hD'; simpa using hD'
  subst hD
  refine perm_intKeys hpw (fun p hp => by obtain ⟨v, hv⟩ := hko p hp; obtain ⟨x, _, hx, _⟩ := Maps.keyOf_i64 Try.underlying2 hv; exact ⟨x, hx⟩) (hL.imp fun {a b} hab e => by omega) fun x => ?_
  have hh := hk.has x
  have hlit : (numKD.lit x) = .int .i64 x := rfl
  rw [hlit] at hh
  rw [hh]
  exact hm x
theorem sortsI (m : Nat) : AnyZI.SortsIn Try.prog Try.sortedI_ren Fence.wide m :=
  ⟨fun blk off cap ss W hH hblk hsz => callsIn_wide.2 (AnyM.slices_Sort_int Try.sortI blk off cap ss W hH hblk hsz),
   fun p cap W => callsIn_wide.2 (AnyM.slices_Sort_int_none Try.sortI p cap W)⟩
abbrev fKeysI : FuncId := 45
theorem keysI_in (mb : Option Nat) (W : World) : Calls Try.prog 45 #[.map mb] W fun e w' => e = .returned (.func (.func 51) #[] #[.pointer (some ⟨W.heap.size, 0, none⟩)]) ∧ w' = W.alloc (.cells #[.map mb] 64) :=
  (callsIn_wide (n := 5)).1 (AnyZI.keys_in Try.keysI Fence.wide 5 trivial rfl mb W)
set_option maxRecDepth 100000 in
set_option maxHeartbeats 1000000 in
/-- The whole of it: a map's keys, which rise as L does. -/
theorem sortedI_any {R : RdV} {w : World} {b n : Nat} {f : Int → Option Value} {L : List Int} (h : MapG numKD R w b f n) (hn : n ≤ 90000) (hL : L.Pairwise (· < ·)) (hm : ∀ x, x ∈ L ↔ (f x).isSome = true) :
    Calls Try.prog 44 #[.func (.func 51) #[] #[.pointer (some ⟨w.heap.size, 0, none⟩)]] (w.alloc (.cells #[.map (some b)] 64)) fun e w' =>
      (∃ v, e = .returned v ∧ i64K.Own w.heap.size w' v L) ∧ Turns [] w w' := by
  obtain ⟨D, ho, hs, hp⟩ := perm_num h hL hm
  have hbl := ho.lt
  have hseq : SeqGives Fence.wide 2 Try.prog 51 #[.pointer (some ⟨w.heap.size, 0, none⟩)] encZ (fun ss => ss.Perm (intKeys D)) (Maps.size D) (w.alloc (.cells #[.map (some b)] 64)) :=
    AnyZI.keys_gives (ρ := Try.keysI_ren) { Try.keysI with } Fence.wide _ trivial rfl (by omega) w.heap.size b n D _ (by simp) (by simp) (by
      obtain ⟨es, clock, hb, Ft, hs, hD⟩ := ho
      exact ⟨es, clock, (Below.heap_alloc _ _ b hbl).trans hb, Ft, hs, hD⟩)
  have cS := AnyZI.sorted_in Try.sortedI Fence.wide 5 trivial trivial trivial trivial rfl (by omega) (sortsI _) (enters_of Try.func50 (by kernel_rfl) rfl) 51 #[.pointer (some ⟨w.heap.size, 0, none⟩)] trivial (enters_of Try.func51 (by kernel_rfl) rfl) _ _ (show Maps.size D ≤ maxLen by unfold maxLen; omega) (by omega) _ hseq
  change CallsIn _ _ Try.prog 44 _ _ _ at cS
  refine ((callsIn_wide (n := 5)).1 cS).mono ?_
  rintro e w' ⟨v, ss, rfl, hperm, hrow, hnil, hb⟩
  have hso := sort_num (hperm.trans hp.symm) hL
  have hT : Turns [] w (w.alloc (.cells #[.map (some b)] 64)) := Turns.alloc _ _
  refine ⟨⟨v, rfl, ?_⟩, hT.then (Turns.of_below hb (Nat.le_refl _))⟩
  have h0 := ownsRow_base_a hrow (show w.heap.size ≤ (w.alloc (.cells #[.map (some b)] 64)).heap.size by simp)
  unfold EK.Own
  rw [flat_i64, ← (hperm.trans hp.symm).length_eq]
  have e : (ss.mergeSort fun x y => decide (x ≤ y)).map encZ = L.map encZ := by rw [hso]
  rw [← e]
  exact h0
end Go.Proofs.Ytjkkpdflijjllaa

namespace Go.Proofs.Ytjkkpdflijjllaa
open Go.RowKit Go.Maps Go.Sort Go.Shelf

def txtK : EK (List UInt8) := ⟨91, 9, 1, 16, .string ⟨#[]⟩, fun x => [encStr x]⟩
theorem txtOk : txtK.Ok Try.prog := ⟨Try.underlying91, by kernel_rfl, rfl, by decide, by decide, fun _ => rfl, fun x u hu => by simp [txtK] at hu; rw [hu]; rfl⟩
theorem flat_txt : ∀ l : List (List UInt8), txtK.flat l = l.map encStr
  | [] => rfl
  | x :: l => by rw [EK.flat_cons, flat_txt l]; rfl
abbrev txtKD : KD 9 ByteArray := strKD Try.underlying9
theorem txt_keyed : Maps.Keyed Try.prog 9 := Maps.string_keyed Try.underlying9
theorem le_of_lt_txt {a b : List UInt8} (h : a < b) : a ≤ b := List.le_of_lt h
theorem sort_txt {ss L : List (List UInt8)} (hp : ss.Perm L) (h : L.Pairwise (· < ·)) : ss.mergeSort (fun x y => decide (x ≤ y)) = L := by
  have tr : ∀ a b c : List UInt8, decide (a ≤ b) = true → decide (b ≤ c) = true → decide (a ≤ c) = true := fun a b c h1 h2 => by
    simp only [decide_eq_true_eq] at *
    exact List.le_trans h1 h2
  have tot : ∀ a b : List UInt8, (decide (a ≤ b) || decide (b ≤ a)) = true := fun a b => by
    simp only [Bool.or_eq_true, decide_eq_true_eq]
    exact List.le_total a b
  refine List.Perm.eq_of_pairwise (le := fun a b => decide (a ≤ b) = true) (fun a b _ _ h1 h2 => ?_) (List.pairwise_mergeSort tr tot ss) (h.imp fun {a b} hab => ?_) ((List.mergeSort_perm ss _).trans hp)
  · simp only [decide_eq_true_eq] at h1 h2
    exact List.le_antisymm h1 h2
  · simp only [decide_eq_true_eq]
    exact le_of_lt_txt hab
theorem perm_txt {R : RdV} {w : World} {b n : Nat} {f : ByteArray → Option Value} {L : List (List UInt8)} (h : MapG txtKD R w b f n) (hL : L.Pairwise (· < ·)) (hm : ∀ x : List UInt8, x ∈ L ↔ (f ⟨x.toArray⟩).isSome = true) : ∃ D : DataW Unit, w.ownsMap Try.prog 9 R b n D ∧ Maps.size D = n ∧ L.Perm (strKeys D) := by
  obtain ⟨D, ho, hs, hk⟩ := h
  refine ⟨D, ho, hs, ?_⟩
  obtain ⟨es, hD, hpw, _⟩ := ho.entries txt_keyed
  obtain ⟨es', hD', hko⟩ := ho.keysOf
  obtain rfl : es = es' := by rw [hD] at hD'; simpa using hD'
  subst hD
  refine perm_strKeys hpw (fun p hp => by obtain ⟨v, hv⟩ := hko p hp; obtain ⟨x, _, hx, _⟩ := Maps.keyOf_str Try.underlying9 hv; exact ⟨x, hx⟩) (hL.imp fun {a b} hab e => by rw [e] at hab; exact List.lt_irrefl _ hab) fun x => ?_
  have hh := hk.has ⟨x.toArray⟩
  have hlit : (txtKD.lit ⟨x.toArray⟩) = .string x := by simp [txtKD, strKD]
  rw [hlit] at hh
  rw [hh]
  exact hm x
theorem sortsS (m : Nat) : AnyZ.SortsIn Try.prog Try.sortedS_ren Fence.wide m :=
  ⟨fun blk off cap ss W hH hblk hsz => callsIn_wide.2 (AnyM.slices_Sort_string Try.sortS blk off cap ss W hH hblk hsz),
   fun p cap W => callsIn_wide.2 (AnyM.slices_Sort_string_none Try.sortS p cap W)⟩
abbrev fKeysS : FuncId := 54
theorem keysS_in (mb : Option Nat) (W : World) : Calls Try.prog 54 #[.map mb] W fun e w' => e = .returned (.func (.func 60) #[] #[.pointer (some ⟨W.heap.size, 0, none⟩)]) ∧ w' = W.alloc (.cells #[.map mb] 74) :=
  (callsIn_wide (n := 5)).1 (AnyZ.keys_in Try.keysS Fence.wide 5 trivial rfl mb W)
set_option maxRecDepth 100000 in
set_option maxHeartbeats 1000000 in
/-- The whole of it: a map's keys, which rise as L does. -/
theorem sortedS_any {R : RdV} {w : World} {b n : Nat} {f : ByteArray → Option Value} {L : List (List UInt8)} (h : MapG txtKD R w b f n) (hn : n ≤ 90000) (hL : L.Pairwise (· < ·)) (hm : ∀ x : List UInt8, x ∈ L ↔ (f ⟨x.toArray⟩).isSome = true) :
    Calls Try.prog 53 #[.func (.func 60) #[] #[.pointer (some ⟨w.heap.size, 0, none⟩)]] (w.alloc (.cells #[.map (some b)] 74)) fun e w' =>
      (∃ v, e = .returned v ∧ txtK.Own w.heap.size w' v L) ∧ Turns [] w w' := by
  obtain ⟨D, ho, hs, hp⟩ := perm_txt h hL hm
  have hbl := ho.lt
  have hseq : SeqGives Fence.wide 2 Try.prog 60 #[.pointer (some ⟨w.heap.size, 0, none⟩)] encStr (fun ss => ss.Perm (strKeys D)) (Maps.size D) (w.alloc (.cells #[.map (some b)] 74)) :=
    AnyZ.keys_gives (ρ := Try.keysS_ren) { Try.keysS with } Fence.wide _ trivial rfl (by omega) w.heap.size b n D _ (by simp) (by simp) (by
      obtain ⟨es, clock, hb, Ft, hs, hD⟩ := ho
      exact ⟨es, clock, (Below.heap_alloc _ _ b hbl).trans hb, Ft, hs, hD⟩)
  have cS := AnyZ.sorted_in Try.sortedS Fence.wide 5 trivial trivial trivial trivial rfl (by omega) (sortsS _) (enters_of Try.func59 (by kernel_rfl) rfl) 60 #[.pointer (some ⟨w.heap.size, 0, none⟩)] trivial (enters_of Try.func60 (by kernel_rfl) rfl) _ _ (show Maps.size D ≤ maxLen by unfold maxLen; omega) (by omega) _ hseq
  change CallsIn _ _ Try.prog 53 _ _ _ at cS
  refine ((callsIn_wide (n := 5)).1 cS).mono ?_
  rintro e w' ⟨v, ss, rfl, hperm, hrow, hnil, hb⟩
  have hso := sort_txt (hperm.trans hp.symm) hL
  have hT : Turns [] w (w.alloc (.cells #[.map (some b)] 74)) := Turns.alloc _ _
  refine ⟨⟨v, rfl, ?_⟩, hT.then (Turns.of_below hb (Nat.le_refl _))⟩
  have h0 := ownsRow_base_a hrow (show w.heap.size ≤ (w.alloc (.cells #[.map (some b)] 74)).heap.size by simp)
  unfold EK.Own
  rw [flat_txt, ← (hperm.trans hp.symm).length_eq]
  have e : (ss.mergeSort fun x y => decide (x ≤ y)).map encStr = L.map encStr := by rw [hso]
  rw [← e]
  exact h0
end Go.Proofs.Ytjkkpdflijjllaa
