/- Two wheels apart, and what has been told: one turns, all else stays. -/
import Derived.Test.YtaepgcicgmbbeaaWhCopy
import Derived.Test.YtaepgcicgmbbeaaWhSameL
namespace Go.Proofs.Ytaepgcicgmbbeaa
open Go.RowKit

/-- Two wheels that were made since w, apart. -/
def TwoW (w X : World) (b1 : Nat) (T1 : Int) (L1 : List Fi) (F1 : List Nat) (b2 : Nat) (T2 : Int) (L2 : List Fi) (F2 : List Nat) : Prop :=
  WhAt w.heap.size X b1 T1 L1 F1 ∧ WhAt w.heap.size X b2 T2 L2 F2 ∧ (∀ i ∈ F1, i ∉ F2) ∧ Turns [] w X
section
variable {w X Y : World} {b1 b2 : Nat} {T1 T2 T' : Int} {L1 L2 L' : List Fi} {F1 F2 : List Nat}
theorem TwoW.swap (h : TwoW w X b1 T1 L1 F1 b2 T2 L2 F2) : TwoW w X b2 T2 L2 F2 b1 T1 L1 F1 := ⟨h.2.1, h.1, fun i hi hm => h.2.2.1 i hm hi, h.2.2.2⟩
theorem TwoW.pre (h : TwoW w X b1 T1 L1 F1 b2 T2 L2 F2) (ht : Turns [] X Y) : TwoW w Y b1 T1 L1 F1 b2 T2 L2 F2 := ⟨h.1.pre ht, h.2.1.pre ht, h.2.2.1, h.2.2.2.then ht⟩
theorem TwoW.turns (h : TwoW w X b1 T1 L1 F1 b2 T2 L2 F2) {G : List Nat} (ht : Turns G X Y) (h1 : ∀ i ∈ G, i ∉ F1) (h2 : ∀ i ∈ G, i ∉ F2) (hG : ∀ i ∈ G, w.heap.size ≤ i) : TwoW w Y b1 T1 L1 F1 b2 T2 L2 F2 :=
  ⟨h.1.turns ht fun i hi hm => h1 i hm hi, h.2.1.turns ht fun i hi hm => h2 i hm hi, h.2.2.1, h.2.2.2.trans ht fun i hi => .inr (hG i hi)⟩
/-- The first one turns. -/
theorem TwoW.op (h : TwoW w X b1 T1 L1 F1 b2 T2 L2 F2) {F' : List Nat} (ha : WhAt w.heap.size Y b1 T' L' F') (ht : Turns F1 X Y) (hF : ∀ i ∈ F', i ∈ F1 ∨ X.heap.size ≤ i) : TwoW w Y b1 T' L' F' b2 T2 L2 F2 := by
  refine ⟨ha, h.2.1.turns ht fun i hi hm => h.2.2.1 i hm hi, fun i hi hm => ?_, h.2.2.2.trans ht fun i hi => .inr (h.1.1 i hi).1⟩
  rcases hF i hi with h' | h'
  · exact h.2.2.1 i h' hm
  · have := (h.2.1.1 i hm).2
    omega
end
theorem two_copy {w X : World} {b1 : Nat} {T : Int} {L : List Fi} (h : Lone w X b1 T L) (hok : WOk T L) (hL : L.length ≤ 900) :
    Calls Try.prog 11 #[.pointer (some ⟨b1, 0, none⟩)] X fun e Y => ∃ b2 F1 F2, e = .returned (.pointer (some ⟨b2, 0, none⟩)) ∧ TwoW w Y b1 T L F1 b2 T L F2 := by
  obtain ⟨F, h1, h2⟩ := h
  refine (copy_any h1 hok hL).mono ?_
  rintro e Y ⟨rfl, F2, a, b⟩
  refine ⟨X.heap.size, F, F2, rfl, h1.pre b, ?_, fun i hi hm => ?_, h2.then b⟩
  · have hB : w.heap.size ≤ X.heap.size := h2.size
    refine ⟨fun i hi => ⟨Nat.le_trans hB (a.1 i hi).1, (a.1 i hi).2⟩, a.2.1, ?_⟩
    rcases a.2.2 with c | ⟨bs, bp, S, P, c⟩
    · exact .inl c
    · exact .inr ⟨bs, bp, S, P, c.head, c.slots, c.places, fun k v l e => ⟨EK.Own.low (c.own k v l e).1 hB, (c.own k v l e).2⟩, c.apart, c.heads, c.perm, c.place⟩
  · have := (a.1 i hm).1
    have := (h1.1 i hi).2
    omega
/-- Two wheels, what all told, what was got. -/
structure CutI (w X : World) (b1 : Nat) (T1 : Int) (L1 : List Fi) (b2 : Nat) (T2 : Int) (L2 : List Fi) (va : Value) (D : List Fi) (vg : Value) (G : List Fi) (F1 F2 : List Nat) : Prop where
  two : TwoW w X b1 T1 L1 F1 b2 T2 L2 F2
  all : fK.Own w.heap.size X va D
  got : fK.Own w.heap.size X vg G
  a1 : ∀ i ∈ ownB va, i ∉ F1
  g1 : ∀ i ∈ ownB vg, i ∉ F1
  g2 : ∀ i ∈ ownB vg, i ∉ F2
  ga : ∀ i ∈ ownB vg, i ∉ ownB va
section
variable {w X Y : World} {b1 b2 : Nat} {T1 T2 T' : Int} {L1 L2 L' D G l : List Fi} {F1 F2 : List Nat} {va vg v : Value}
theorem mem_ownB {v : Value} {g : Nat} (h : v.ownBlock = some g) : g ∈ ownB v := by unfold ownB; rw [h]; simp
theorem CutI.pre (h : CutI w X b1 T1 L1 b2 T2 L2 va D vg G F1 F2) (ht : Turns [] X Y) : CutI w Y b1 T1 L1 b2 T2 L2 va D vg G F1 F2 :=
  ⟨h.two.pre ht, h.all.turns ht (by simp), h.got.turns ht (by simp), h.a1, h.g1, h.g2, h.ga⟩
theorem CutI.adv (h : CutI w X b1 T1 L1 b2 T2 L2 va D vg G F1 F2) (ha : AdvP w.heap.size X b1 T' L' F1 l (.returned v) Y) : CutI w Y b1 T' L' b2 T2 L2 va D vg G F1 F2 ∧ fK.Own X.heap.size Y v l := by
  obtain ⟨v', e, a, b, c⟩ := ha
  cases e
  exact ⟨⟨h.two.op b c fun _ h => .inl h, h.all.turns c fun g hg => h.a1 g (mem_ownB hg), h.got.turns c fun g hg => h.g1 g (mem_ownB hg), h.a1, h.g1, h.g2, h.ga⟩, a⟩
theorem CutI.app (h : CutI w X b1 T1 L1 b2 T2 L2 va D vg G F1 F2) {v' : Value} (ho : fK.Own w.heap.size Y v' (G ++ l)) (ht : Turns (ownB vg) X Y) (hv : ∀ i ∈ ownB v', i ∈ ownB vg ∨ i = X.heap.size) : CutI w Y b1 T1 L1 b2 T2 L2 va D v' (G ++ l) F1 F2 := by
  refine ⟨h.two.turns ht h.g1 h.g2 fun i hi => (h.got.foot i hi).1, h.all.turns ht fun g hg hm => h.ga g hm (mem_ownB hg), ho, h.a1, fun i hi hm => ?_, fun i hi hm => ?_, fun i hi hm => ?_⟩
  · rcases hv i hi with h' | h'
    · exact h.g1 i h' hm
    · have := (h.two.1.1 i hm).2; omega
  · rcases hv i hi with h' | h'
    · exact h.g2 i h' hm
    · have := (h.two.2.1.1 i hm).2; omega
  · rcases hv i hi with h' | h'
    · exact h.ga i h' hm
    · have := (h.all.foot i hm).2; omega
end
/-- Where the way is cut: what was got so far. -/
structure CutA (tu T1 : Int) (L1 L G : List Fi) : Prop where
  ok : WOk T1 L1
  pos : 0 ≤ T1
  due : ∀ z, T1 ≤ z → G ++ dueL z L1 = dueL z L
  rest : ∀ z, T1 ≤ z → restL z L1 = restL z L
  far : T1 ≤ tu ∨ (T1 = 0 ∧ G = [] ∧ L1 = L)
theorem CutA.start {tu : Int} {L : List Fi} (h : WOk 0 L) : CutA tu 0 L L [] := ⟨h, Int.le_refl _, fun _ _ => rfl, fun _ _ => rfl, .inr ⟨rfl, rfl, rfl⟩⟩
theorem CutA.step {tu T1 c : Int} {L1 L G : List Fi} (h : CutA tu T1 L1 L G) (hc : c ≤ tu) (hw : -9223372036854775808 ≤ c ∧ c ≤ 9223372036854775807) : CutA tu (advL T1 L1 c).2.1 (advL T1 L1 c).2.2 L (G ++ (advL T1 L1 c).1) := by
  unfold advL
  split
  · simpa using h
  · rename_i hn
    refine ⟨h.ok.rest hw, by have := h.pos; simp only; omega, fun z hz => ?_, fun z hz => ?_, .inl hc⟩
    · simp only at hz ⊢
      rw [List.append_assoc, due_due h.ok hz]
      exact h.due z (by omega)
    · simp only at hz ⊢
      rw [rest_rest hz]
      exact h.rest z (by omega)
theorem CutA.len {tu T1 : Int} {L1 L G : List Fi} (h : CutA tu T1 L1 L G) : G.length ≤ L.length := by
  have := congrArg List.length (h.due T1 (Int.le_refl _))
  rw [List.length_append] at this
  have h2 : (dueL T1 L).length ≤ L.length := List.length_filter_le _ _
  omega
theorem CutA.len1 {tu T1 : Int} {L1 L G : List Fi} (h : CutA tu T1 L1 L G) (ho : WOk 0 L) : L1.length ≤ L.length := by
  have h1 := congrArg List.length (h.due T1 (Int.le_refl _))
  have h2 := congrArg List.length (h.rest T1 (Int.le_refl _))
  have h3 := congrArg List.length (@srt_cut T1 L1 h.ok.srt)
  have h4 := congrArg List.length (@srt_cut T1 L ho.srt)
  rw [List.length_append] at h1 h3 h4
  omega
theorem CutA.last {tu T1 : Int} {L1 L G : List Fi} (h : CutA tu T1 L1 L G) (hL : WOk 0 L) (hw : -9223372036854775808 ≤ tu ∧ tu ≤ 9223372036854775807) :
    G ++ (advL T1 L1 tu).1 = (advL 0 L tu).1 ∧ (0 ≤ tu → (advL T1 L1 tu).2.1 = (advL 0 L tu).2.1 ∧ (advL T1 L1 tu).2.2 = (advL 0 L tu).2.2) := by
  have hp := h.pos
  rcases h.far with hf | ⟨rfl, rfl, rfl⟩
  · unfold advL
    rw [if_neg (by omega), if_neg (by omega)]
    exact ⟨h.due tu hf, fun _ => ⟨rfl, h.rest tu hf⟩⟩
  · exact ⟨by simp, fun _ => ⟨rfl, rfl⟩⟩
end Go.Proofs.Ytaepgcicgmbbeaa
