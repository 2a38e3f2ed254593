/- What take leaves, from the worlds it goes through. -/
import Derived.Test.YtaepgcicgmbbeaaWhTake
import Derived.Test.YtaepgcicgmbbeaaWhPutW
namespace Go.Proofs.Ytaepgcicgmbbeaa
open Go.RowKit

def TakeP (B : Nat) (w : World) (bw : Nat) (T : Int) (L' : List Fi) (F : List Nat) (e : Ending) (w' : World) : Prop :=
  e = .returned (.tuple #[]) ∧ WhAt B w' bw T L' F ∧ Turns F w w'
theorem flat_set : ∀ (l : List Fi) (i : Nat) (y : Fi), fK.flat (l.set i y) = ((fK.flat l).set (i * 2) (.int .i64 y.1)).set (i * 2 + 1) (.int .i64 y.2)
  | [], _, _ => rfl
  | z :: l, 0, y => rfl
  | z :: l, i + 1, y => by
    rw [List.set_cons_succ, EK.flat_cons, EK.flat_cons, flat_set l i y]
    rw [show (i + 1) * 2 = i * 2 + 1 + 1 by omega]
    rfl
theorem own_set {B : Nat} {w : World} {g cap : Nat} {l : List Fi} (h : fK.Own B w (.slice (some ⟨g, 0, none⟩) l.length cap) l) (i : Nat) (y : Fi) :
    fK.Own B ((w.setCell ⟨g, i * 2, none⟩ (.int .i64 y.1)).setCell ⟨g, i * 2 + 1, none⟩ (.int .i64 y.2)) (.slice (some ⟨g, 0, none⟩) l.length cap) (l.set i y) := by
  have hf := EK.flat_len fOk (l.set i y)
  rcases h.2 with ⟨h1, _⟩ | ⟨g', cap', cur, h1, hb, hg, hn, hm, hs, ht⟩
  · cases h1
  · cases h1
    have h1 := heap_setCell_same w g (i * 2) _ _ (.int .i64 y.1) hg
    have h2 := heap_setCell_same _ g (i * 2 + 1) _ _ (.int .i64 y.2) h1
    refine ⟨hf, .inr ⟨g, cap, _, by rw [List.length_set], hb, h2, by rw [List.length_set]; exact hn, hm, by simpa using hs, ?_⟩⟩
    rw [flat_set, ← ht, List.length_set]
    simp only [Array.toList_setIfInBounds, List.take_set]
theorem own_take {B : Nat} {w : World} {g cap : Nat} {l : List Fi} (h : fK.Own B w (.slice (some ⟨g, 0, none⟩) l.length cap) l) (m : Nat) (hm : m ≤ l.length) :
    fK.Own B w (.slice (some ⟨g, 0, none⟩) m cap) (l.take m) := by
  have hf := EK.flat_len fOk (l.take m)
  have hlen : (l.take m).length = m := by simp; omega
  rcases h.2 with ⟨h1, _⟩ | ⟨g', cap', cur, h1, hb, hg, hn, hm', hs, ht⟩
  · cases h1
  · cases h1
    refine ⟨hf, .inr ⟨g, cap, cur, by rw [hlen], hb, hg, by rw [hlen]; omega, hm', hs, ?_⟩⟩
    have e : fK.flat l = fK.flat (l.take m) ++ fK.flat (l.drop m) := by rw [← EK.flat_append, List.take_append_drop]
    rw [e] at ht
    have e2 : (l.take m).length * fK.sz ≤ l.length * fK.sz := Nat.mul_le_mul_right _ (by omega)
    have h3 := congrArg (List.take ((l.take m).length * fK.sz)) ht
    rw [List.take_take, Nat.min_eq_left e2] at h3
    rw [h3, ← hf, List.take_left']
    rfl
theorem swapL_eq {l : List Fi} {i m : Nat} {y : Fi} (hm : m = l.length - 1) (hy : l[m]? = some y) : swapL l i = (l.set i y).take m := by
  subst hm
  unfold swapL
  rw [hy]
structure TakeAt (B : Nat) (w W2 W3 w4 w5 w6 : World) (bs bp g cap m i : Nat) (S : Sl) (P : Pc) (L L' : List Fi) (x y : Fi) (l : List Fi) : Prop where
  t2 : Turns [] w W2
  own : fK.Own B W3 (.slice (some ⟨g, 0, none⟩) l.length cap) (l.set i y)
  t3 : Turns [g] W2 W3
  t4 : Turns [bp] W3 w4
  t5 : Turns [bp] w4 w5
  m5 : MapV 3 aread w5 bp (fun z => if z = x.1 then none else if z = y.1 then some (placeV (part x.2, i)) else (P z).map placeV) L'.length
  t6 : Turns [bs] w5 w6
  m6 : ∃ n, MapV 2 sread w6 bs (fun z => if z = part x.2 then (if m = 0 then none else some (.slice (some ⟨g, 0, none⟩) m cap)) else (S z).map (·.1)) n
theorem take_end {B : Nat} {w W2 W3 w4 w5 w6 : World} {bw : Nat} {T : Int} {L L' : List Fi} {F : List Nat} {bs bp g cap m i : Nat} {S : Sl} {P : Pc} {x y : Fi} {l : List Fi} (h : WhAt B w bw T L F) (h3 : Laid B w bw T L F bs bp S P) (hd : Ids L) (hp : L.Perm (x :: L'))
    (e1 : S (part x.2) = some (.slice (some ⟨g, 0, none⟩) l.length cap, l)) (e2 : l[i]? = some x) (hy : l[m]? = some y) (hm : m = l.length - 1) (hg : g ≠ bs ∧ g ≠ bp) (hR : TakeAt B w W2 W3 w4 w5 w6 bs bp g cap m i S P L L' x y l) : TakeP B w bw T L' F (.returned (.tuple #[])) w6 := by
  obtain ⟨t2, own, t3, t4, t5, m5, t6, m6⟩ := hR
  obtain ⟨_, _, d3, _, f2, f3⟩ := h3.heads
  have hil : i < l.length := (List.getElem?_eq_some_iff.1 e2).1
  have hsw := swapL_eq (i := i) hm hy
  have hlen : (swapL l i).length = m := by rw [swapL_len, hm]
  have tt : Turns [g, bp, bs] w w6 := ((((t2.mono (G := [g, bp, bs]) (by simp)).then (t3.mono (by simp))).then (t4.mono (by simp))).then (t5.mono (by simp))).then (t6.mono (by simp))
  have hgF : g ∈ F := (h3.apart _ _ _ e1 g (by simp [ownB, Value.ownBlock])).1
  have h0 : swapL l i = [] ↔ m = 0 := by rw [← List.length_eq_zero_iff, hlen]
  refine ⟨rfl, h3.take h.1 hd hp (v' := .slice (some ⟨g, 0, none⟩) m cap) e1 e2 (by rw [← hm]; exact hy) tt (fun j hj => ?_) (m5.turns t6 (by simpa using d3.symm)) (fun _ => ⟨?_, fun j hj => hj⟩) ?_, tt.mono fun j hj => ?_⟩
  · simp at hj
    simp [ownB, Value.ownBlock]
    omega
  · rw [hsw]
    have h1 := own_take (l := l.set i y) (by rw [List.length_set]; exact own) m (by rw [List.length_set]; omega)
    exact ((h1.turns t4 fun j hj hm => by simp [Value.ownBlock] at hj; simp at hm; omega).turns t5 fun j hj hm => by simp [Value.ownBlock] at hj; simp at hm; omega).turns t6 fun j hj hm => by simp [Value.ownBlock] at hj; simp at hm; omega
  · obtain ⟨n, m6⟩ := m6
    refine ⟨n, m6.congr fun z => ?_⟩
    by_cases hz : z = part x.2
    · rw [if_pos hz, if_pos hz]
      by_cases hm0 : m = 0
      · rw [if_pos hm0, if_pos (h0.2 hm0)]
      · rw [if_neg hm0, if_neg (fun h => hm0 (h0.1 h))]
    · rw [if_neg hz, if_neg hz]
  · simp at hj
    rcases hj with rfl | rfl | rfl
    · exact hgF
    · exact f3
    · exact f2
end Go.Proofs.Ytaepgcicgmbbeaa
