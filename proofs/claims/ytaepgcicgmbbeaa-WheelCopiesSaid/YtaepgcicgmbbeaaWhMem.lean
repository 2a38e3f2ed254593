/- The program's wheel in memory: its head, its slots, its places. -/
import Derived.Test.YtaepgcicgmbbeaaWhPlain
import Derived.Test.YtaepgcicgmbbeaaWhMap
import Derived.Test.YtaepgcicgmbbeaaRowK2
namespace Go.Proofs.Ytaepgcicgmbbeaa
open Go.RowKit

def fK : EK Fi := ⟨27, 44, 2, 16, .agg #[.int .i64 0, .int .i64 0], fun x => [.int .i64 x.1, .int .i64 x.2]⟩
theorem fOk : fK.Ok Try.prog := ⟨Try.underlying27, by kernel_rfl, rfl, by decide, by decide, fun _ => rfl, fun x u hu => by simp [fK] at hu; rcases hu with rfl | rfl <;> rfl⟩
def pK : EK Int := ⟨40, 2, 1, 8, .int .i64 0, fun x => [.int .i64 x]⟩
theorem pOk : pK.Ok Try.prog := ⟨Try.underlying40, by kernel_rfl, rfl, by decide, by decide, fun _ => rfl, fun x u hu => by simp [pK] at hu; rcases hu with rfl; rfl⟩
theorem keyI : Go.Maps.Keyed Try.prog 3 := Go.Maps.int_keyed Try.underlying3
theorem keyL : Go.Maps.Keyed Try.prog 2 := Go.Maps.int_keyed Try.underlying2
theorem zeroS (w : World) : (zeroValue 27).run Try.prog w = .ok (.slice none 0 0) w := by kernel_rfl
theorem zeroP (w : World) : (zeroValue 62).run Try.prog w = .ok (.agg #[.int .i64 0, .int .i64 0]) w := by kernel_rfl
theorem wfI {x : Int} (h : -9223372036854775808 ≤ x ∧ x ≤ 9223372036854775807) : (Lit.int .i64 x).wf = true := WalkArith.wf_i64 (by omega)
theorem fK_flat_at {l : List Fi} {j : Nat} {x : Fi} (h : l[j]? = some x) : (fK.flat l)[j * 2]? = some (.int .i64 x.1) ∧ (fK.flat l)[j * 2 + 1]? = some (.int .i64 x.2) :=
  ⟨EK.flat_at fOk h 0 _ rfl, EK.flat_at fOk h 1 _ rfl⟩

/-- A size that no map of these keys is above. -/
theorem MapV.size_le {k : TypeId} {R : RdV} {w : World} {b n : Nat} {f : Int → Option Value} (K : Maps.Keyed Try.prog k) (hk : Try.prog.underlying k = some (.int .i64)) (h : MapV k R w b f n) (l : List Int) (hl : ∀ x, (f x).isSome = true → x ∈ l) : n ≤ l.length := by
  classical
  obtain ⟨D, ⟨es, clock, hb, F, hs, rfl⟩, rfl, hK⟩ := h
  have hn : ((es.toList.map (WideElems.rg Try.prog k R)).map (·.1)).Nodup := by
    unfold List.Nodup
    rw [List.pairwise_map]
    exact Maps.fit_apart K F
  have hm : ∀ x ∈ (es.toList.map (WideElems.rg Try.prog k R)).map (·.1), x ∈ l.map (Lit.int .i64) := by
    intro x hx
    obtain ⟨p, hp, rfl⟩ := List.mem_map.1 hx
    obtain ⟨v, hv⟩ := Maps.fit_keys F p hp
    obtain ⟨y, _, e, _⟩ := Maps.keyOf_int_inv hk hv
    rw [e]
    refine List.mem_map.2 ⟨y, hl y ?_, rfl⟩
    rw [← hK.has y, Maps.has_eq, List.any_eq_true]
    refine ⟨p, mem_sorted.2 hp, ?_⟩
    rw [e]
    exact WideAt.sameKey_self (litKey y)
  have := nodup_le hn hm
  rw [List.length_map, List.length_map, List.length_map] at this
  show List.length _ ≤ _
  rw [length_sorted, List.length_map]
  exact this

abbrev Sl := Int → Option (Value × List Fi)
def Sl.at_ (S : Sl) (k : Int) : List Fi := match S k with | some q => q.2 | none => []
abbrev Pc := Int → Option (Int × Nat)
def placeV (q : Int × Nat) : Value := .agg #[.int .i64 q.1, .int .i64 q.2]
structure Laid (B : Nat) (w : World) (bw : Nat) (T : Int) (L : List Fi) (F : List Nat) (bs bp : Nat) (S : Sl) (P : Pc) : Prop where
  head : w.heap[bw]? = some (.cells #[.int .i64 T, .map (some bs), .map (some bp)] 50 (0, 0))
  slots : ∃ n, MapV 2 sread w bs (fun k => (S k).map (·.1)) n
  places : MapV 3 aread w bp (fun k => (P k).map placeV) L.length
  own : ∀ k v l, S k = some (v, l) → fK.Own B w v l ∧ l ≠ []
  apart : ∀ k v l, S k = some (v, l) → ∀ i ∈ ownB v, i ∈ F ∧ i ≠ bw ∧ i ≠ bs ∧ i ≠ bp ∧ ∀ k' v' l', k' ≠ k → S k' = some (v', l') → i ∉ ownB v'
  heads : bw ≠ bs ∧ bw ≠ bp ∧ bs ≠ bp ∧ bw ∈ F ∧ bs ∈ F ∧ bp ∈ F
  perm : ∀ k, (S.at_ k).Perm (L.filter fun x => decide (part x.2 = k))
  place : ∀ id p i, P id = some (p, i) ↔ ∃ v l x, S p = some (v, l) ∧ l[i]? = some x ∧ x.1 = id
/-- The wheel at bw: all its blocks lie in F. -/
def WhAt (B : Nat) (w : World) (bw : Nat) (T : Int) (L : List Fi) (F : List Nat) : Prop :=
  (∀ i ∈ F, B ≤ i ∧ i < w.heap.size) ∧ bw ∈ F ∧
  ((w.heap[bw]? = some (.cells #[.int .i64 T, .map none, .map none] 50 (0, 0)) ∧ L = []) ∨ ∃ bs bp S P, Laid B w bw T L F bs bp S P)

section
variable {B : Nat} {w w' : World} {bw : Nat} {T : Int} {L : List Fi} {F : List Nat} {bs bp : Nat} {S : Sl} {P : Pc}
theorem Laid.turns {G : List Nat} (h : Laid B w bw T L F bs bp S P) (ht : Turns G w w') (hF : ∀ i ∈ F, i ∉ G) : Laid B w' bw T L F bs bp S P := by
  obtain ⟨n, hs⟩ := h.slots
  obtain ⟨_, _, _, f1, f2, f3⟩ := h.heads
  exact ⟨(ht.block bw (lt_of_block h.head) (hF _ f1)).trans h.head, ⟨n, hs.turns ht (hF _ f2)⟩, h.places.turns ht (hF _ f3),
    fun k v l e => ⟨(h.own k v l e).1.turns ht fun g hg => hF g (h.apart k v l e g (by unfold ownB; rw [hg]; simp)).1, (h.own k v l e).2⟩, h.apart, h.heads, h.perm, h.place⟩
theorem WhAt.turns {G : List Nat} (h : WhAt B w bw T L F) (ht : Turns G w w') (hF : ∀ i ∈ F, i ∉ G) : WhAt B w' bw T L F := by
  obtain ⟨h1, h2, h3⟩ := h
  refine ⟨fun i hi => ⟨(h1 i hi).1, Nat.lt_of_lt_of_le (h1 i hi).2 ht.size⟩, h2, ?_⟩
  rcases h3 with ⟨h3, h4⟩ | ⟨bs, bp, S, P, h3⟩
  · exact .inl ⟨(ht.block bw (h1 bw h2).2 (hF _ h2)).trans h3, h4⟩
  · exact .inr ⟨bs, bp, S, P, h3.turns ht hF⟩
theorem WhAt.cells (h : WhAt B w bw T L F) : w.cell? ⟨bw, 0, none⟩ = some (.int .i64 T) ∧ (∀ j, w.frozen? ⟨bw, j, none⟩ = false) ∧ bw < w.heap.size := by
  obtain ⟨h1, h2, h3⟩ := h
  rcases h3 with ⟨h3, _⟩ | ⟨bs, bp, S, P, h3⟩
  · exact ⟨by simp [World.cell?, h3], fun j => by simp [World.frozen?, h3], (h1 _ h2).2⟩
  · exact ⟨by simp [World.cell?, h3.head], fun j => by simp [World.frozen?, h3.head], (h1 _ h2).2⟩
theorem Laid.cells (h : Laid B w bw T L F bs bp S P) : w.cell? ⟨bw, 0, none⟩ = some (.int .i64 T) ∧ w.cell? ⟨bw, 1, none⟩ = some (.map (some bs)) ∧ w.cell? ⟨bw, 2, none⟩ = some (.map (some bp)) ∧ ∀ j, w.frozen? ⟨bw, j, none⟩ = false := by
  simp [World.cell?, World.frozen?, h.head]
theorem Laid.mem (h : Laid B w bw T L F bs bp S P) {k : Int} {v : Value} {l : List Fi} (e : S k = some (v, l)) (x : Fi) : x ∈ l ↔ x ∈ L ∧ part x.2 = k := by
  have hp := h.perm k
  unfold Sl.at_ at hp
  rw [e] at hp
  rw [hp.mem_iff]
  simp
theorem Laid.slot (h : Laid B w bw T L F bs bp S P) {x : Fi} (hx : x ∈ L) : ∃ (v : Value) (l : List Fi) (i : Nat), S (part x.2) = some (v, l) ∧ l[i]? = some x := by
  have hp := h.perm (part x.2)
  have hm : x ∈ S.at_ (part x.2) := hp.symm.subset (by simp [hx])
  unfold Sl.at_ at hm
  cases e : S (part x.2) with
  | none => rw [e] at hm; cases hm
  | some q =>
    rw [e] at hm
    obtain ⟨i, hi⟩ := List.getElem?_of_mem hm
    exact ⟨q.1, q.2, i, rfl, hi⟩
theorem Laid.found (h : Laid B w bw T L F bs bp S P) {x : Fi} (hx : x ∈ L) : ∃ (v : Value) (l : List Fi) (i : Nat), S (part x.2) = some (v, l) ∧ l[i]? = some x ∧ P x.1 = some (part x.2, i) := by
  obtain ⟨v, l, i, e, hi⟩ := h.slot hx
  exact ⟨v, l, i, e, hi, (h.place x.1 _ _).2 ⟨v, l, x, e, hi, rfl⟩⟩
theorem Laid.lost (h : Laid B w bw T L F bs bp S P) {id : Int} (hn : ∀ x ∈ L, x.1 ≠ id) : P id = none := by
  cases e : P id with
  | none => rfl
  | some q =>
    obtain ⟨v, l, x, e1, hi, e2⟩ := (h.place id q.1 q.2).1 e
    exact absurd e2 (hn x ((h.mem e1 x).1 (List.mem_of_getElem? hi)).1)
theorem Laid.nodup (h : Laid B w bw T L F bs bp S P) (hi : Ids L) {k : Int} {v : Value} {l : List Fi} (e : S k = some (v, l)) : Ids l := by
  have hp := h.perm k
  unfold Sl.at_ at hp
  rw [e] at hp
  exact Ids.perm (List.Pairwise.filter _ hi) hp.symm
theorem Laid.len_le (h : Laid B w bw T L F bs bp S P) {k : Int} {v : Value} {l : List Fi} (e : S k = some (v, l)) : l.length ≤ L.length := by
  have hp := (h.perm k).length_eq
  unfold Sl.at_ at hp
  rw [e] at hp
  simp only at hp
  rw [hp]
  exact List.length_filter_le _ _
theorem Laid.some_of (h : Laid B w bw T L F bs bp S P) {k : Int} {v : Value} {l : List Fi} (e : S k = some (v, l)) : k ∈ L.map (fun x => part x.2) := by
  obtain ⟨_, hne⟩ := h.own k v l e
  obtain ⟨x, hx⟩ := List.exists_mem_of_ne_nil l hne
  obtain ⟨h1, h2⟩ := (h.mem e x).1 hx
  exact List.mem_map.2 ⟨x, h1, h2⟩
theorem Laid.none_of (h : Laid B w bw T L F bs bp S P) {k : Int} (e : S k = none) : ∀ x ∈ L, part x.2 ≠ k := by
  intro x hx hk
  obtain ⟨v, l, i, e1, _⟩ := h.slot hx
  rw [hk, e] at e1
  cases e1
theorem Laid.form (h : Laid B w bw T L F bs bp S P) {k : Int} {v : Value} {l : List Fi} (e : S k = some (v, l)) : ∃ g cap, v = .slice (some ⟨g, 0, none⟩) l.length cap ∧ B ≤ g ∧ g < w.heap.size ∧ l.length ≤ cap ∧ cap ≤ maxLen ∧ g ∈ F ∧ g ≠ bw ∧ g ≠ bs ∧ g ≠ bp ∧
    (∀ j x, l[j]? = some x → w.cell? ⟨g, j * 2, none⟩ = some (.int .i64 x.1) ∧ w.cell? ⟨g, j * 2 + 1, none⟩ = some (.int .i64 x.2)) ∧ ∀ j, w.frozen? ⟨g, j, none⟩ = false := by
  obtain ⟨ho, hne⟩ := h.own k v l e
  rcases ho.form with ⟨_, h0⟩ | ⟨g, cap, rfl, h1, h2, h3, h4⟩
  · exact absurd h0 hne
  · obtain ⟨a1, a2, a3, a4, _⟩ := h.apart k _ l e g (by simp [ownB, Value.ownBlock])
    refine ⟨g, cap, rfl, h1, h2, h3, h4, a1, a2, a3, a4, fun j x hj => ?_, fun j => ?_⟩
    · have c1 := World.ownsRow.cells ho (g := g) rfl _ _ (fK_flat_at hj).1
      have c2 := World.ownsRow.cells ho (g := g) rfl _ _ (fK_flat_at hj).2
      rw [add_plain', Nat.zero_add] at c1 c2
      exact ⟨c1, c2⟩
    · rcases ho.2 with ⟨h5, _⟩ | ⟨g', cap', cur, h5, _, hg, _⟩
      · cases h5
      · cases h5
        simp [World.frozen?, hg]
theorem Laid.slotsN (h : Laid B w bw T L F bs bp S P) : ∃ n, MapV 2 sread w bs (fun k => (S k).map (·.1)) n ∧ n ≤ L.length := by
  obtain ⟨n, hs⟩ := h.slots
  refine ⟨n, hs, ?_⟩
  have := hs.size_le keyL Try.underlying2 (L.map fun x => part x.2) fun x hx => by
    cases e : S x with
    | none => simp [e] at hx
    | some q => exact h.some_of (v := q.1) (l := q.2) e
  rwa [List.length_map] at this
end
end Go.Proofs.Ytaepgcicgmbbeaa
