/- An act done by both: what stands behind it. -/
import Derived.Test.YtlelemjmknbnaaaNetAny2
import Derived.Test.YtlelemjmknbnaaaActs
namespace Go.Proofs.Ytlelemjmknbnaaa
open Go.RowKit

structure Two (B : Nat) (w : World) (bn bm rn : Nat) (v : Value) (most : Int) (N : Nat) (L : List NE) (rs : List Rc) : Prop where
  net : NetAt B w bn bm most (N : Int) L
  doc : RefAt B w rn v most N rs
  link : Link L rs
  room : (rs.length : Int) ≤ most
  live : ∀ r ∈ rs, r.st ≠ 0
theorem Two.kept {B : Nat} {w w' : World} {bn bm rn : Nat} {v : Value} {most : Int} {N : Nat} {L : List NE} {rs : List Rc} (h : Two B w bn bm rn v most N L rs) (ht : Turns [] w w') : Two B w' bn bm rn v most N L rs := ⟨h.net.kept ht (by simp), h.doc.kept ht (by simp) (by simp), h.link, h.room, h.live⟩
/-- The document's is what it was behind the net's call. -/
theorem Two.docBehind {B : Nat} {w w1 w2 : World} {bn bm rn : Nat} {v : Value} {most : Int} {N : Nat} {L : List NE} {rs : List Rc} {c1 : Int} {cs : List Cn} {e1 : Ending} (h : Two B w bn bm rn v most N L rs) (h1 : NPost B w bn bm most (N : Int) L c1 cs e1 w1) (ht : Turns [] w1 w2) : RefAt B w2 rn v most N rs := by
  obtain ⟨_, _, t1⟩ := h1
  have ha := two_apart h.net h.doc
  exact (h.doc.kept t1 (fun hm => (ha rn hm).1 rfl) (fun i hi hm => (ha i hm).2 hi)).kept ht (by simp) (by simp)
/-- No more bytes than t anywhere. -/
def SmallR (t : Nat) (rs : List Rc) : Prop := ∀ r ∈ rs, r.inn.length ≤ t ∧ r.out.length ≤ t ∧ r.host.length ≤ t
theorem SmallR.mono {t t' : Nat} {rs : List Rc} (h : SmallR t rs) (ht : t ≤ t') : SmallR t' rs := fun r hr => by
  have := h r hr
  omega
theorem SmallR.grow {t a : Nat} {rs rs' : List Rc} (h : SmallR t rs) (hg : Grow a rs rs') : SmallR (t + a) rs' := fun r' hr => by
  obtain ⟨r, hr0, h1, h2, h3, _⟩ := hg.2 r' hr
  have := h r hr0
  rw [h3]
  omega
theorem SmallR.snoc {t : Nat} {rs : List Rc} (h : SmallR t rs) (id : Nat) (host : List UInt8) : SmallR (t + host.length) (rs ++ [newR id host]) := fun r hr => by
  rcases List.mem_append.1 hr with hr | hr
  · have := h r hr
    omega
  · rw [List.mem_singleton] at hr
    subst hr
    simp [newR]
theorem rise_len : ∀ (rs : List Rc) (a : Nat), rs.Pairwise (fun x y => x.id < y.id) → ∀ N, (∀ r ∈ rs, a + 1 ≤ r.id ∧ r.id ≤ N) → rs.length + a ≤ N ∨ rs = []
  | [], _, _, _, _ => .inr rfl
  | r :: rs, a, hp, N, h => by
    left
    rw [List.pairwise_cons] at hp
    have hr := h r (List.mem_cons_self ..)
    rcases rise_len rs r.id hp.2 N (fun x hx => ⟨hp.1 x hx, (h x (List.mem_cons.2 (.inr hx))).2⟩) with h1 | rfl
    · rw [List.length_cons]; omega
    · simp; omega
theorem RefAt.len {B : Nat} {w : World} {rn : Nat} {v : Value} {most : Int} {N : Nat} {rs : List Rc} (h : RefAt B w rn v most N rs) : rs.length ≤ N := by
  rcases rise_len rs 0 h.rise N (fun r hr => by have := h.ids r hr; omega) with h1 | rfl
  · omega
  · exact Nat.zero_le _
theorem SmallR.inn {t : Nat} {L : List NE} {rs : List Rc} (h : SmallR t rs) (hl : Link L rs) : ∀ x ∈ L, x.1.inn.length ≤ t ∧ x.1.out.length ≤ t ∧ x.1.host.length ≤ t := fun x hx => by
  have hm : x.1 ∈ rs.map toC := by rw [← hl]; exact List.mem_map_of_mem hx
  obtain ⟨r, hr, he⟩ := List.mem_map.1 hm
  have := h r hr
  rw [← he]
  show (r.inn.drop r.at_).length ≤ t ∧ r.out.length ≤ t ∧ r.host.length ≤ t
  rw [List.length_drop]
  omega

/-- A slice of the call's own that is none of the net's. -/
def FreeV (X : Value) (L : List NE) : Prop := ∀ g, X.ownBlock = some g → g ∉ footL L
/-- All the blocks of both nets. -/
def footT (bn bm rn : Nat) (v : Value) (L : List NE) : List Nat := bn :: bm :: (footL L ++ rn :: ownB v)
theorem mem_footT {bn bm rn i : Nat} {v : Value} {L : List NE} : i ∈ footT bn bm rn v L ↔ (i ∈ bn :: bm :: footL L) ∨ i ∈ rn :: ownB v := by
  unfold footT
  simp [or_assoc]
/-- As FreeV; and what the places FF hold: both nets (but for what is new), and the slice. -/
structure FreeF (FF : List Nat) (z bn bm rn : Nat) (v X : Value) (L : List NE) : Prop where
  free : FreeV X L
  inn : ∀ i ∈ footT bn bm rn v L, i ∈ FF ∨ z ≤ i
  own : ∀ i ∈ ownB X, i ∈ FF
theorem own_type {b : Nat} {w : World} {X : Value} {l : List UInt8} (h : Owned b w X l) : ∀ g, X.ownBlock = some g → ∃ cur, w.heap[g]? = some (.cells cur 5 (0, 0)) := fun g hg => by
  rcases h.2 with ⟨h1, _⟩ | ⟨g2, cap, cur, h1, _, hb, _⟩
  · rw [h1] at hg; simp [Value.ownBlock] at hg
  · rw [h1] at hg
    simp [Value.ownBlock] at hg
    subst hg
    exact ⟨cur, hb⟩
theorem ref_type {B : Nat} {w : World} {rn : Nat} {v : Value} {most : Int} {N : Nat} {rs : List Rc} (h : RefAt B w rn v most N rs) : ∀ i ∈ ownB v, ∃ cur, w.heap[i]? = some (.cells cur 67 (0, 0)) := fun i hi => by
  rcases h.own.2 with ⟨h1, _⟩ | ⟨g, cap, cur, h1, _, hg, _⟩
  · rw [h1] at hi
    simp [ownB, Value.ownBlock] at hi
  · rw [h1] at hi
    simp [ownB, Value.ownBlock] at hi
    subst hi
    exact ⟨cur, hg⟩
theorem Two.free {B b : Nat} {w : World} {bn bm rn : Nat} {v : Value} {most : Int} {N : Nat} {L : List NE} {rs : List Rc} {X : Value} {l : List UInt8} (h : Two B w bn bm rn v most N L rs) (ho : Owned b w X l) (hf : FreeV X L) :
    ∀ g, X.ownBlock = some g → g ∉ bn :: bm :: footL L ∧ g ∉ rn :: ownB v := fun g hg => by
  obtain ⟨cur, hb⟩ := own_type ho g hg
  refine ⟨fun hm => ?_, fun hm => ?_⟩
  · rcases List.mem_cons.1 hm with rfl | hm
    · rw [h.net.head] at hb; cases hb
    rcases List.mem_cons.1 hm with rfl | hm
    · obtain ⟨n, D, ⟨es, clock, hbm, _⟩, _⟩ := h.net.hmap
      rw [hbm] at hb; cases hb
    · exact hf g hg hm
  · rcases List.mem_cons.1 hm with rfl | hm
    · rw [h.doc.head] at hb; cases hb
    · obtain ⟨c2, h2⟩ := ref_type h.doc g hm
      rw [h2] at hb; cases hb
/-- Writing into such a slice. -/
theorem Two.wrote {B b : Nat} {w w' : World} {bn bm rn : Nat} {v : Value} {most : Int} {N : Nat} {L : List NE} {rs : List Rc} {X : Value} {l : List UInt8} (h : Two B w bn bm rn v most N L rs) (ho : Owned b w X l) (hf : FreeV X L) (ht : Turns (ownB X) w w') : Two B w' bn bm rn v most N L rs := by
  have hx := h.free ho hf
  have hx' : ∀ i, i ∈ ownB X → i ∉ bn :: bm :: footL L ∧ i ∉ rn :: ownB v := fun i hi => hx i (by unfold ownB at hi; simpa using hi)
  exact ⟨h.net.kept ht (fun i hi hm => (hx' i hm).1 hi), h.doc.kept ht (fun hm => (hx' rn hm).2 (List.mem_cons_self ..)) (fun i hi hm => (hx' i hm).2 (List.mem_cons.2 (.inr hi))), h.link, h.room, h.live⟩
theorem Two.lowF {B : Nat} {w : World} {bn bm rn : Nat} {v : Value} {most : Int} {N : Nat} {L : List NE} {rs : List Rc} (h : Two B w bn bm rn v most N L rs) : ∀ i ∈ rn :: ownB v, B ≤ i ∧ i < w.heap.size := fun i hi => by
  rcases List.mem_cons.1 hi with rfl | hi
  · exact ⟨h.doc.low, lt_of_block h.doc.head⟩
  · rcases h.doc.own.2 with ⟨h1, _⟩ | ⟨g, cap, cur, h1, hB, hg, _⟩
    · rw [h1] at hi
      simp [ownB, Value.ownBlock] at hi
    · rw [h1] at hi
      simp [ownB, Value.ownBlock] at hi
      subst hi
      exact ⟨hB, lt_of_block hg⟩
theorem Two.footLt {B : Nat} {w : World} {bn bm rn : Nat} {v : Value} {most : Int} {N : Nat} {L : List NE} {rs : List Rc} (h : Two B w bn bm rn v most N L rs) : ∀ i ∈ footT bn bm rn v L, B ≤ i ∧ i < w.heap.size := fun i hi => by
  rcases mem_footT.1 hi with h3 | h3
  · exact h.net.lt i h3
  · exact h.lowF i h3
theorem Two.all {FF : List Nat} {B : Nat} {w : World} {bn bm rn : Nat} {v X : Value} {most : Int} {N : Nat} {L : List NE} {rs : List Rc} (h : Two B w bn bm rn v most N L rs) (hf : FreeF FF w.heap.size bn bm rn v X L) : ∀ i ∈ footT bn bm rn v L, i ∈ FF := fun i hi => (hf.inn i hi).resolve_right (by have := (h.footLt i hi).2; omega)
theorem behind1 {FF F0 : List Nat} {w w2 : World} {bn bm rn : Nat} {v X : Value} {L : List NE} (hF : ∀ i ∈ FF, i ∈ F0 ∨ w.heap.size ≤ i) (ht : Turns [] w w2) (h : FreeF FF w2.heap.size bn bm rn v X L) : ∀ i ∈ footT bn bm rn v L, i ∈ F0 ∨ w.heap.size ≤ i := fun i hi => by
  rcases h.inn i hi with h1 | h1
  · exact hF i h1
  · exact .inr (Nat.le_trans ht.size h1)
theorem behind2 {FF F0 : List Nat} {w w2 w3 : World} (hF : ∀ i ∈ FF, i ∈ F0 ∨ w.heap.size ≤ i) (ht : Turns [] w w2) (h : Turns FF w2 w3) : Turns F0 w w3 := (ht.mono (G := F0) (by simp)).trans h hF
/-- What stands behind an act: both, and a slice of the caller's own. -/
def TwoP (FF : List Nat) (B b : Nat) (w0 : World) (bn bm rn : Nat) (most : Int) (N t : Nat) (X : Value) (l : List UInt8) (w3 : World) : Prop :=
  (∃ v' N' L' rs', Two B w3 bn bm rn v' most N' L' rs' ∧ N' ≤ N + 1 ∧ SmallR t rs' ∧ FreeF FF w0.heap.size bn bm rn v' X L') ∧ Owned b w3 X l ∧ Below B w0 w3 ∧ Turns FF w0 w3
theorem Two.both {FF : List Nat} {B b : Nat} {w w1 w2 w3 : World} {bn bm rn : Nat} {v : Value} {most : Int} {N : Nat} {L : List NE} {rs : List Rc} {c1 c2 : Int} {f : List Cn → List Cn} {e1 e2 : Ending} {a t : Nat} {X : Value} {l : List UInt8} (h : Two B w bn bm rn v most N L rs) (ho : Owned b w X l) (hf : FreeF FF w.heap.size bn bm rn v X L) (hs : SmallR t rs) (hB : B ≤ w.heap.size)
    (h1 : NPost B w bn bm most (N : Int) L c1 (f (L.map Prod.fst)) e1 w1) (ht : Turns [] w1 w2) (h2 : DPost B w2 rn v most N rs a c2 (f (rs.map toC)) e2 w3) : TwoP FF B b w bn bm rn most N (t + a) X l w3 := by
  obtain ⟨_, ⟨L', hn, hl, hfl⟩, t1⟩ := h1
  obtain ⟨_, ⟨v', rs', hd, hr, hg, hv⟩, t2⟩ := h2
  have ha := two_apart h.net h.doc
  have hfr := h.free ho hf.free
  have hd1 := h.doc.kept t1 (fun hm => (ha rn hm).1 rfl) (fun i hi hm => (ha i hm).2 hi)
  have hd2 := hd1.kept ht (by simp) (by simp)
  have hn2 := hn.kept ht (by simp)
  have ha2 := two_apart hn2 hd2
  refine ⟨⟨v', N, L', rs', ⟨hn2.kept t2 (fun i hi hm => by
    rcases List.mem_cons.1 hm with h3 | h3
    · exact (ha2 i hi).1 h3
    · exact (ha2 i hi).2 h3), hd, by unfold Link; rw [hl, hr, h.link], by have h8 := hg.1; have h9 := h.room; omega, fun r' hr' => by obtain ⟨r0, hr0, _, _, _, hs0⟩ := hg.2 r' hr'; exact hs0 (h.live r0 hr0)⟩, Nat.le_succ _, hs.grow hg, ⟨fun g hg2 hm => ?_, fun i hi => ?_, hf.own⟩⟩, ?_, ?_, ?_⟩
  · obtain ⟨cur, hb⟩ := own_type ho g hg2
    rcases hfl g hm with h3 | h3
    · exact hf.free g hg2 h3
    · have := lt_of_block hb
      omega
  · rcases mem_footT.1 hi with h3 | h3
    · rcases List.mem_cons.1 h3 with rfl | h3
      · exact hf.inn _ (mem_footT.2 (.inl (List.mem_cons_self ..)))
      rcases List.mem_cons.1 h3 with rfl | h3
      · exact hf.inn _ (mem_footT.2 (.inl (by simp)))
      rcases hfl i h3 with h4 | h4
      · exact hf.inn _ (mem_footT.2 (.inl (by simp [h4])))
      · exact .inr h4
    · rcases List.mem_cons.1 h3 with rfl | h3
      · exact hf.inn _ (mem_footT.2 (.inr (List.mem_cons_self ..)))
      rcases hv i h3 with h4 | h4
      · exact hf.inn _ (mem_footT.2 (.inr (by simp [h4])))
      · exact .inr (Nat.le_trans (Nat.le_trans t1.size ht.size) h4)
  · exact ((ho.turns t1 (fun g hg2 => (hfr g hg2).1)).turns ht (by simp)).turns t2 (fun g hg2 => (hfr g hg2).2)
  · have b1 := t1.below (fun i hi => (h.net.lt i hi).1) hB
    have b2 : Below B w1 w2 := ht.below (by simp) (Nat.le_trans hB b1.size)
    have b3 : Below B w2 w3 := t2.below (fun i hi => (h.lowF i hi).1) (Nat.le_trans hB (Nat.le_trans b1.size b2.size))
    exact (b1.trans b2).trans b3
  · have hlt : ∀ i ∈ bn :: bm :: footL L, i ∈ FF := fun i hi => (hf.inn i (mem_footT.2 (.inl hi))).resolve_right (by have := (h.net.lt i hi).2; omega)
    have hlt2 : ∀ i ∈ rn :: ownB v, i ∈ FF := fun i hi => (hf.inn i (mem_footT.2 (.inr hi))).resolve_right (by have := (h.lowF i hi).2; omega)
    exact ((t1.mono hlt).trans ht (by simp)).trans t2 (fun i hi => .inl (hlt2 i hi))
theorem Two.start {B b : Nat} {w w' : World} {bn bm rn : Nat} {v : Value} {most : Int} {N : Nat} {L : List NE} {rs : List Rc} {X : Value} {l : List UInt8} (h : Two B w bn bm rn v most N L rs) (ho : Owned w.heap.size w' X l) : FreeV X L := fun g hg hm => by
  have h1 := ho.grows g hg
  have h2 := (h.net.lt g (List.mem_cons.2 (.inr (List.mem_cons.2 (.inr hm))))).2
  omega
end Go.Proofs.Ytlelemjmknbnaaa
