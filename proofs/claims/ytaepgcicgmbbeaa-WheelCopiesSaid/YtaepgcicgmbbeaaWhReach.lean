/- The program's reach: all timers at a time or ahead of it, in their order. -/
import Derived.Test.YtaepgcicgmbbeaaWhParts
import Derived.Test.YtaepgcicgmbbeaaWhCmp
namespace Go.Proofs.Ytaepgcicgmbbeaa
open Go.RowKit

set_option maxHeartbeats 400000 in
theorem due_any (x : Fi) (tu : Int) (b : Nat) (w : World) (hb : w.cell? ⟨b, 0, none⟩ = some (.int .i64 tu)) (hlt : b < w.heap.size) :
    Calls Try.prog 32 #[.agg #[.int .i64 x.1, .int .i64 x.2], .pointer (some ⟨b, 0, none⟩)] w fun e w' => e = .returned (.bool (decide (x.2 ≤ tu))) ∧ w' = w.alloc (.cells #[.int .i64 x.1, .int .i64 x.2] 44) := by
  go_enter Try.func32, Try.ntmps32
  go_wp2
  go_ret
  exact ⟨rfl, rfl⟩
/-- What reach gathers from the slots: of the first j parts. -/
def gath (S : Sl) (tu : Int) (ps : List Int) : List Fi := ps.flatMap fun p => (S.at_ p).filter fun x => decide (x.2 ≤ tu)
theorem gath_snoc (S : Sl) (tu : Int) (ps : List Int) (p : Int) : gath S tu (ps ++ [p]) = gath S tu ps ++ (S.at_ p).filter fun x => decide (x.2 ≤ tu) := by simp [gath]
theorem mem_gath {B : Nat} {w : World} {bw : Nat} {T : Int} {L : List Fi} {F : List Nat} {bs bp : Nat} {S : Sl} {P : Pc} (h : Laid B w bw T L F bs bp S P) (tu : Int) (ps : List Int) (x : Fi) : x ∈ gath S tu ps ↔ x ∈ L ∧ x.2 ≤ tu ∧ part x.2 ∈ ps := by
  unfold gath
  rw [List.mem_flatMap]
  constructor
  · rintro ⟨p, hp, hx⟩
    have h1 := List.mem_filter.1 hx
    have h2 := (h.perm p).subset h1.1
    simp at h1 h2
    exact ⟨h2.1, h1.2, h2.2 ▸ hp⟩
  · rintro ⟨h1, h2, h3⟩
    refine ⟨part x.2, h3, List.mem_filter.2 ⟨(h.perm _).symm.subset (by simp [h1]), by simpa using h2⟩⟩
theorem gath_ids {B : Nat} {w : World} {bw : Nat} {T : Int} {L : List Fi} {F : List Nat} {bs bp : Nat} {S : Sl} {P : Pc} (h : Laid B w bw T L F bs bp S P) (hi : Ids L) (tu : Int) : ∀ {ps : List Int}, ps.Nodup → Ids (gath S tu ps)
  | [], _ => List.Pairwise.nil
  | p :: ps, hn => by
    have hp := List.nodup_cons.1 hn
    have e : gath S tu (p :: ps) = ((S.at_ p).filter fun x => decide (x.2 ≤ tu)) ++ gath S tu ps := by simp [gath]
    rw [e]
    unfold Ids
    rw [List.pairwise_append]
    refine ⟨List.Pairwise.filter _ (Ids.perm (List.Pairwise.filter _ hi) (h.perm p).symm), gath_ids h hi tu hp.2, fun x hx y hy => ?_⟩
    have h1 := (List.mem_filter.1 hx).1
    have h2 := (h.perm p).subset h1
    simp at h2
    have h3 := (mem_gath h tu ps y).1 hy
    intro e
    have := hi.eq h2.1 h3.1 e
    subst this
    exact hp.1 (h2.2 ▸ h3.2.2)
theorem gath_due {B : Nat} {w : World} {bw : Nat} {T : Int} {L : List Fi} {F : List Nat} {bs bp : Nat} {S : Sl} {P : Pc} (h : Laid B w bw T L F bs bp S P) (hok : WOk T L) (tu : Int) {ps : List Int} (hps : ∀ p, p ∈ ps ↔ (S p).isSome = true ∧ p ≤ part tu) {l' : List Fi} (hp : l'.Perm (gath S tu ps)) (hs : Srt l') : l' = dueL tu L := by
  refine srt_ext hs (dueL_srt hok) fun x => ?_
  rw [hp.mem_iff, mem_gath h, mem_dueL, hps]
  constructor
  · rintro ⟨h1, h2, _⟩
    exact ⟨h1, h2⟩
  · rintro ⟨h1, h2⟩
    obtain ⟨v, l, i, e, _⟩ := h.slot h1
    exact ⟨h1, h2, by rw [e]; rfl, by unfold part; omega⟩
theorem gath_len {B : Nat} {w : World} {bw : Nat} {T : Int} {L : List Fi} {F : List Nat} {bs bp : Nat} {S : Sl} {P : Pc} (h : Laid B w bw T L F bs bp S P) (hi : Ids L) (tu : Int) {ps : List Int} (hn : ps.Nodup) : (gath S tu ps).length ≤ L.length :=
  nodup_le (gath_ids h hi tu hn).nodup fun x hx => ((mem_gath h tu ps x).1 hx).1
end Go.Proofs.Ytaepgcicgmbbeaa
