/- do: Dial, Read, and the caller's own bytes that are written over. -/
import Derived.Test.YtlelemjmknbnaaaPairs
namespace Go.Proofs.Ytlelemjmknbnaaa
open Go.RowKit

variable {B : Nat} {w2 : World} {bn bm rn : Nat} {v : Value} {most : Int} {N : Nat} {L : List NE} {rs : List Rc}
theorem Two.docAt (h : Two B w2 bn bm rn v most N L rs) {w3 : World} {F : List Nat} (t1 : Turns F w2 w3) (hF : ∀ i ∈ F, i ∈ bn :: bm :: footL L) : RefAt B w3 rn v most N rs := by
  have ha := two_apart h.net h.doc
  exact h.doc.kept t1 (fun hm => (ha rn (hF rn hm)).1 rfl) (fun i hi hm => (ha i (hF i hm)).2 hi)
theorem live_snoc {rs : List Rc} (h : ∀ r ∈ rs, r.st ≠ 0) {id : Nat} {host : List UInt8} : ∀ r ∈ rs ++ [newR id host], r.st ≠ 0 := fun r hr => by
  rcases List.mem_append.1 hr with hr | hr
  · exact h r hr
  · rw [List.mem_singleton] at hr
    subst hr
    simp [newR]
theorem live_at {R1 R2 : List Rc} {r : Rc} {k : Nat} (h : ∀ x ∈ R1 ++ r :: R2, x.st ≠ 0) : ∀ x ∈ R1 ++ { r with at_ := k } :: R2, x.st ≠ 0 := fun x hx => by
  rcases List.mem_append.1 hx with hx | hx
  · exact h x (List.mem_append.2 (.inl hx))
  · rcases List.mem_cons.1 hx with rfl | hx
    · exact h r (by simp)
    · exact h x (by simp [hx])
theorem Two.dialled {FF : List Nat} {b t : Nat} {w3 w4 : World} {X : Value} {l : List UInt8} {host : List UInt8} {nb : Nat} {v' : Value} (h : Two B w2 bn bm rn v most N L rs) (hroom : (rs.length : Int) < most) (ho : Owned b w2 X l) (hf : FreeF FF w2.heap.size bn bm rn v X L) (hs : SmallR t rs) (hB : B ≤ w2.heap.size)
    (hnb : w2.heap.size ≤ nb) (hv' : ∀ i ∈ ownB v', w2.heap.size ≤ i) (h1 : NetAt B w3 bn bm most ((N : Int) + 1) (L ++ [newC (N + 1) host nb])) (t1 : Turns [bn, bm] w2 w3) (h2 : RefAt B w4 rn v' most (N + 1) (rs ++ [newR (N + 1) host])) (t2 : Turns [rn] w3 w4) {t' : Nat} (htt : t + host.length ≤ t') : TwoP FF B b w2 bn bm rn most N t' X l w4 := by
  have hfr := h.free ho hf.free
  have hd3 := h.docAt t1 (by simp)
  have ha := two_apart h1 hd3
  have b1 : Below B w2 w3 := t1.below (fun i hi => (h.net.lt i (by simp at hi ⊢; rcases hi with rfl | rfl <;> simp)).1) hB
  have b2 : Below B w3 w4 := t2.below (fun i hi => by rw [List.mem_singleton] at hi; subst hi; exact h.doc.low) (Nat.le_trans hB b1.size)
  refine TwoP.mono (t := t + host.length) ⟨⟨v', N + 1, L ++ [newC (N + 1) host nb], _, ⟨?_, h2, ?_, by rw [List.length_append]; simp; omega, live_snoc h.live⟩, Nat.le_refl _, hs.snoc _ _, ⟨fun g hg hm => ?_, fun i hi => ?_, hf.own⟩⟩, ?_, b1.trans b2, ?_⟩ htt
  · have := h1.kept t2 (fun i hi hm => by rw [List.mem_singleton] at hm; subst hm; exact (ha _ hi).1 rfl)
    rwa [Int.natCast_add]
  · unfold Link
    rw [List.map_append, List.map_append, h.link]
    rfl
  · obtain ⟨x, hx, hi⟩ := mem_footL.1 hm
    rcases List.mem_append.1 hx with hx | hx
    · exact hf.free g hg (mem_footL.2 ⟨x, hx, hi⟩)
    · rw [List.mem_singleton] at hx
      subst hx
      obtain ⟨cur, hb⟩ := own_type ho g hg
      have hlt := lt_of_block hb
      rcases Pl.mem_foot.1 hi with h3 | h3 | h3
      · have h4 : g = nb := h3
        omega
      · simp [newC, ownB, Value.ownBlock] at h3
      · simp [newC, ownB, Value.ownBlock] at h3
  · rcases mem_footT.1 hi with h3 | h3
    · rcases List.mem_cons.1 h3 with rfl | h3
      · exact hf.inn _ (mem_footT.2 (.inl (List.mem_cons_self ..)))
      rcases List.mem_cons.1 h3 with rfl | h3
      · exact hf.inn _ (mem_footT.2 (.inl (by simp)))
      obtain ⟨x, hx, hix⟩ := mem_footL.1 h3
      rcases List.mem_append.1 hx with hx | hx
      · exact hf.inn _ (mem_footT.2 (.inl (by simp [mem_footL.2 ⟨x, hx, hix⟩])))
      · rw [List.mem_singleton] at hx
        subst hx
        rcases Pl.mem_foot.1 hix with h5 | h5 | h5
        · have h4 : i = nb := h5
          exact .inr (by omega)
        · simp [newC, ownB, Value.ownBlock] at h5
        · simp [newC, ownB, Value.ownBlock] at h5
    · rcases List.mem_cons.1 h3 with rfl | h3
      · exact hf.inn _ (mem_footT.2 (.inr (List.mem_cons_self ..)))
      exact .inr (hv' i h3)
  · refine (ho.turns t1 (fun g hg hm => (hfr g hg).1 ?_)).turns t2 (fun g hg hm => (hfr g hg).2 ?_)
    · simp at hm; rcases hm with rfl | rfl <;> simp
    · rw [List.mem_singleton] at hm; subst hm; exact List.mem_cons_self ..
  · have hlt := h.all hf
    refine (t1.mono (G := FF) (fun i hi => hlt i (mem_footT.2 (.inl ?_)))).trans t2 (fun i hi => .inl (hlt i (mem_footT.2 (.inr ?_))))
    · simp at hi; rcases hi with rfl | rfl <;> simp
    · rw [List.mem_singleton] at hi; subst hi; exact List.mem_cons_self ..
/-- As TwoP, beside a second slice of the caller's own. -/
def TwoQ (FF : List Nat) (B b : Nat) (w0 : World) (bn bm rn : Nat) (most : Int) (N t : Nat) (X : Value) (l : List UInt8) (Y : Value) (n : Nat) (w3 : World) : Prop :=
  (∃ v' N' L' rs', Two B w3 bn bm rn v' most N' L' rs' ∧ N' ≤ N + 1 ∧ SmallR t rs' ∧ FreeF FF w0.heap.size bn bm rn v' X L' ∧ FreeV Y L') ∧ Owned b w3 X l ∧ (∃ m, m.length = n ∧ Owned B w3 Y m) ∧ (∀ g, X.ownBlock = some g → Y.ownBlock ≠ some g) ∧ Below B w0 w3 ∧ Turns FF w0 w3 ∧ ∀ g, Y.ownBlock = some g → g ∈ FF
theorem TwoQ.one {FF : List Nat} {b t n : Nat} {w0 w3 : World} {X Y : Value} {l : List UInt8} (h : TwoQ FF B b w0 bn bm rn most N t X l Y n w3) : TwoP FF B b w0 bn bm rn most N t X l w3 := by
  obtain ⟨⟨v', N', L', rs', h1, h2, h3, h4, _⟩, h5, _, _, h6, h7, _⟩ := h
  exact ⟨⟨v', N', L', rs', h1, h2, h3, h4⟩, h5, h6, h7⟩
theorem foot_mid_va {L1 L2 : List NE} {x : NE} (hn : (footL (L1 ++ x :: L2)).Nodup) {g : Nat} (hg : g ∈ ownB x.2.va) : g ∉ footL (L1 ++ ({ x.1 with inn := [] }, { x.2 with va := .slice none 0 0 }) :: L2) := by
  rw [footL_mid] at hn ⊢
  rw [List.nodup_append] at hn
  obtain ⟨_, h2, h3⟩ := hn
  rw [List.nodup_append] at h2
  obtain ⟨h4, _, h5⟩ := h2
  have hgf : g ∈ x.2.foot := Pl.mem_foot.2 (.inr (.inl hg))
  intro hm
  rcases List.mem_append.1 hm with hm | hm
  · exact h3 g hm g (List.mem_append.2 (.inl hgf)) rfl
  rcases List.mem_append.1 hm with hm | hm
  · rcases Pl.mem_foot.1 hm with e | e | e
    · unfold Pl.foot at h4
      rw [List.nodup_cons] at h4
      have e' : g = x.2.b := e
      exact h4.1 (by rw [← e']; exact List.mem_append.2 (.inl hg))
    · simp [ownB, Value.ownBlock] at e
    · unfold Pl.foot at h4
      rw [List.nodup_cons, List.nodup_append] at h4
      exact h4.2.2.2 g hg g e rfl
  · exact h5 g hgf g hm rfl
theorem Two.readen {FF : List Nat} {b t : Nat} {w3 W w4 : World} {X : Value} {l : List UInt8} {L1 L2 : List NE} {x : NE} {R1 R2 : List Rc} {r : Rc} (h : Two B w2 bn bm rn v most N (L1 ++ x :: L2) (R1 ++ r :: R2)) (hL1 : Link L1 R1) (hx : toC r = x.1) (hL2 : Link L2 R2) (ho : Owned b w2 X l) (hf : FreeF FF w2.heap.size bn bm rn v X (L1 ++ x :: L2)) (hs : SmallR t (R1 ++ r :: R2)) (hB : B ≤ w2.heap.size)
    (h1 : NetAt B w3 bn bm most (N : Int) (L1 ++ ({ x.1 with inn := [] }, { x.2 with va := .slice none 0 0 }) :: L2)) (t1 : Turns [x.2.b] w2 w3) (ht : Turns [] w3 W) (h2 : RefAt B w4 rn v most N (R1 ++ { r with at_ := r.inn.length } :: R2)) (t2 : Turns (ownB v) W w4) : TwoQ FF B b w2 bn bm rn most N t X l x.2.va x.1.inn.length w4 := by
  have hfr := h.free ho hf.free
  have hfx : ∀ i ∈ x.2.foot, i ∈ footL (L1 ++ x :: L2) := foot_mem
  have hxb : x.2.b ∈ footL (L1 ++ x :: L2) := hfx _ (Pl.mem_foot.2 (.inl rfl))
  have hd3 := h.docAt t1 (fun i hi => by rw [List.mem_singleton] at hi; subst hi; simp [hxb])
  have hdW := hd3.kept ht (by simp) (by simp)
  have hnW := h1.kept ht (by simp)
  have ha := two_apart hnW hdW
  obtain ⟨c1, c2, c3⟩ := h.net.conns x (by simp)
  have hva : ∀ g, x.2.va.ownBlock = some g → g ∈ ownB x.2.va := fun g hg => by unfold ownB; rw [hg]; simp
  have hap := h.net.apart
  rw [List.nodup_cons, List.nodup_cons] at hap
  have hnd := hap.2.2
  have hne : ∀ g, x.2.va.ownBlock = some g → g ∉ [x.2.b] := fun g hg hm => by
    rw [List.mem_singleton] at hm
    subst hm
    obtain ⟨cur, hb⟩ := own_type c2 _ hg
    rw [c1] at hb
    cases hb
  have fy : FreeV x.2.va (L1 ++ ({ x.1 with inn := [] }, { x.2 with va := .slice none 0 0 }) :: L2) := fun g hg => foot_mid_va hnd (hva g hg)
  have fv : ∀ g, x.2.va.ownBlock = some g → g ∉ ownB v := fun g hg hm => by
    obtain ⟨cur, hb⟩ := own_type c2 g hg
    obtain ⟨c4, h4⟩ := ref_type h.doc g hm
    rw [h4] at hb
    cases hb
  have b1 : Below B w2 w3 := t1.below (fun i hi => by rw [List.mem_singleton] at hi; subst hi; exact (h.net.lt _ (by simp [hxb])).1) hB
  have b2 : Below B w3 W := ht.below (by simp) (Nat.le_trans hB b1.size)
  have b3 : Below B W w4 := t2.below (fun i hi => (h.lowF i (List.mem_cons.2 (.inr hi))).1) (Nat.le_trans hB (Nat.le_trans b1.size b2.size))
  refine ⟨⟨v, N, L1 ++ ({ x.1 with inn := [] }, { x.2 with va := .slice none 0 0 }) :: L2, _, ⟨hnW.kept t2 (fun i hi hm => (ha i hi).2 hm), h2, ?_, by have h9 := h.room; simp at h9 ⊢; omega, live_at h.live⟩, Nat.le_succ _, ?_, ⟨fun g hg hm => ?_, fun i hi => ?_, hf.own⟩, fy⟩, ?_, ⟨_, rfl, ((c2.turns t1 hne).turns ht (by simp)).turns t2 fv⟩, fun g hg hy => hf.free g hg (hfx _ (Pl.mem_foot.2 (.inr (.inl (hva g hy))))), (b1.trans b2).trans b3, ?_, fun g hg => ?_⟩
  · refine hL1.put ?_ hL2
    rw [← hx]
    show ({ toC r with inn := [] } : Cn) = toC { r with at_ := r.inn.length }
    unfold toC
    simp
  · intro y hy
    rcases List.mem_append.1 hy with hy | hy
    · exact hs y (List.mem_append.2 (.inl hy))
    · rcases List.mem_cons.1 hy with rfl | hy
      · exact hs r (by simp)
      · exact hs y (by simp [hy])
  · refine hf.free g hg ?_
    rw [footL_mid] at hm ⊢
    rcases List.mem_append.1 hm with hm | hm
    · exact List.mem_append.2 (.inl hm)
    rcases List.mem_append.1 hm with hm | hm
    · exact List.mem_append.2 (.inr (List.mem_append.2 (.inl (va_foot _ hm))))
    · exact List.mem_append.2 (.inr (List.mem_append.2 (.inr hm)))
  · refine hf.inn i (mem_footT.2 ?_)
    rcases mem_footT.1 hi with h3 | h3
    · refine .inl ?_
      rcases List.mem_cons.1 h3 with rfl | h3
      · exact List.mem_cons_self ..
      rcases List.mem_cons.1 h3 with rfl | h3
      · simp
      refine List.mem_cons.2 (.inr (List.mem_cons.2 (.inr ?_)))
      rw [footL_mid] at h3 ⊢
      rcases List.mem_append.1 h3 with h3 | h3
      · exact List.mem_append.2 (.inl h3)
      rcases List.mem_append.1 h3 with h3 | h3
      · exact List.mem_append.2 (.inr (List.mem_append.2 (.inl (va_foot _ h3))))
      · exact List.mem_append.2 (.inr (List.mem_append.2 (.inr h3)))
    · exact .inr h3
  · refine ((ho.turns t1 (fun g hg hm => (hfr g hg).1 ?_)).turns ht (by simp)).turns t2 (fun g hg hm => (hfr g hg).2 (List.mem_cons.2 (.inr hm)))
    rw [List.mem_singleton] at hm
    subst hm
    simp [hxb]
  · have hlt := h.all hf
    refine ((t1.mono (G := FF) (fun i hi => hlt i (mem_footT.2 (.inl ?_)))).trans ht (by simp)).trans t2 (fun i hi => .inl (hlt i (mem_footT.2 (.inr (List.mem_cons.2 (.inr hi))))))
    rw [List.mem_singleton] at hi
    subst hi
    simp [hxb]
  · exact h.all hf g (mem_footT.2 (.inl (by simp [hfx _ (Pl.mem_foot.2 (.inr (.inl (hva g hg))))])))
/-- One byte is written over. -/
theorem Owned.set {b g n cap : Nat} {w : World} {X : Value} {l : List UInt8} (ho : Owned b w X l) (hX : X = .slice (some ⟨g, 0, none⟩) n cap) (j : Nat) (c : UInt8) : Owned b (w.setCell ⟨g, j, none⟩ (bcell c)) X (l.set j c) := by
  refine ⟨by simp, ?_⟩
  rcases ho.2 with ⟨h1, _⟩ | ⟨g2, cap2, cur, h1, hB, hg, hn, hm, hs, ht⟩
  · rw [h1] at hX; cases hX
  · right
    rw [h1] at hX
    obtain ⟨e1, e2, e3⟩ := Value.slice.inj hX
    cases e1
    subst e2 e3
    have hlen : (l.set j c).length = l.length := List.length_set ..
    rw [hlen]
    refine ⟨g, _, _, h1, hB, heap_setCell_same w g j cur _ (bcell c) hg, hn, hm, by simpa using hs, ?_⟩
    rw [Array.toList_setIfInBounds, List.map_set, ← ht, List.take_set]
theorem Owned.cellAt {b g n cap : Nat} {w : World} {X : Value} {l : List UInt8} (ho : Owned b w X l) (hX : X = .slice (some ⟨g, 0, none⟩) n cap) (j : Nat) (hj : j < l.length) : ∃ c : UInt8, w.cell? ⟨g, j, none⟩ = some (.int .u8 (c.toNat : Int)) ∧ w.frozen? ⟨g, j, none⟩ = false := by
  refine ⟨l[j], ?_, ?_⟩
  · have := World.ownsRow.cells ho (g := g) (by rw [hX]; rfl) j (bcell l[j]) (by rw [List.getElem?_map, List.getElem?_eq_getElem hj]; rfl)
    rwa [add_plain', Nat.zero_add] at this
  · rcases ho.2 with ⟨h1, _⟩ | ⟨g2, cap2, cur, h1, hB, hg, _⟩
    · rw [h1] at hX; cases hX
    · rw [h1] at hX
      obtain ⟨e1, e2, e3⟩ := Value.slice.inj hX
      cases e1
      simp [World.frozen?, hg]
theorem up_byte (c : UInt8) : IntKind.u8.wrap ((c.toNat : Int) + 1) = ((c + 1).toNat : Int) := by
  have := c.toNat_lt
  rw [UInt8.toNat_add]
  simp [IntKind.wrap, IntKind.bits]
  intro h
  exact absurd h (by decide)
theorem Owned.conv {b : Nat} {w : World} {X : Value} {l : List UInt8} (h : Owned b w X l) : (convert 30 9 X).run Try.prog w = .ok (.string ⟨l.toArray⟩) w := by
  obtain ⟨A, cap, rfl, hr, _⟩ := h.reads
  exact run_bytes_text w 9 30 Try.underlying30 Try.underlying9 cap hr
theorem va_other {x : NE} {b : Nat} {l : List UInt8} (c1 : w2.heap[x.2.b]? = some (.cells (cellsC x) 60 (0, 0))) (c2 : Owned b w2 x.2.va l) : ∀ g, x.2.va.ownBlock = some g → g ∉ [x.2.b] := fun g hg hm => by
  rw [List.mem_singleton] at hm
  subst hm
  obtain ⟨cur, hb⟩ := own_type c2 _ hg
  rw [c1] at hb
  cases hb
theorem read_conv {x : NE} {L1 L2 : List NE} (h : Two B w2 bn bm rn v most N (L1 ++ x :: L2) rs) {w3 W : World} (t1 : Turns [x.2.b] w2 w3) (ht : Turns [] w3 W) : (convert 30 9 x.2.va).run Try.prog W = .ok (.string ⟨x.1.inn.toArray⟩) W := by
  obtain ⟨c1, c2, c3⟩ := h.net.conns x (by simp)
  exact ((c2.turns t1 (va_other c1 c2)).turns ht (by simp)).conv
theorem read_pair {FF : List Nat} {b t : Nat} {X : Value} {l : List UInt8} {L1 L2 : List NE} {x : NE} {R1 R2 : List Rc} {r : Rc} (h : Two B w2 bn bm rn v most N (L1 ++ x :: L2) (R1 ++ r :: R2)) (hL1 : Link L1 R1) (hx : toC r = x.1) (hL2 : Link L2 R2) (ho : Owned b w2 X l) (hf : FreeF FF w2.heap.size bn bm rn v X (L1 ++ x :: L2)) (hs : SmallR t (R1 ++ r :: R2)) (ht0 : t ≤ 100000) (hB : B ≤ w2.heap.size) (hl : (R1 ++ r :: R2).length ≤ 1000) (n : Nat) (hn : n = x.1.inn.length) (k : Int) (hk : (x.1.id : Int) = k)
    {w3 W : World} (h1 : NetAt B w3 bn bm most (N : Int) (L1 ++ ({ x.1 with inn := [] }, { x.2 with va := .slice none 0 0 }) :: L2)) (t1 : Turns [x.2.b] w2 w3) (ht : Turns [] w3 W) :
    Calls Try.prog 29 #[.pointer (some ⟨rn, 0, none⟩), .int .i64 k] W fun e w4 => ∃ A2 c4, e = .returned (.slice A2 n c4) ∧ (convert 30 9 (.slice A2 n c4)).run Try.prog w4 = .ok (.string ⟨x.1.inn.toArray⟩) w4 ∧ (convert 30 9 x.2.va).run Try.prog w4 = .ok (.string ⟨x.1.inn.toArray⟩) w4 ∧ TwoQ FF B b w2 bn bm rn most N t X l x.2.va n w4 := by
  subst hn hk
  have hid : r.id = x.1.id := by rw [← hx]; rfl
  have hin : r.inn.drop r.at_ = x.1.inn := by rw [← hx]; rfl
  have hxb : x.2.b ∈ footL (L1 ++ x :: L2) := foot_mem _ (Pl.mem_foot.2 (.inl rfl))
  have hd3 := h.docAt t1 (fun i hi => by rw [List.mem_singleton] at hi; subst hi; simp [hxb])
  have hdW := hd3.kept ht (by simp) (by simp)
  have hc := rread_ok hdW hl (by have := hs r (by simp); omega)
  rw [← hid]
  refine hc.mono fun e w4 hh => ?_
  obtain ⟨⟨A2, c4, he, hr⟩, h2, t2⟩ := hh
  rw [hin] at he hr
  have hq := h.readen hL1 hx hL2 ho hf hs hB h1 t1 ht h2 t2
  obtain ⟨_, _, ⟨m, hm, hY⟩, _, _⟩ := hq
  obtain ⟨c1, c2, c3⟩ := h.net.conns x (by simp)
  have fv : ∀ g, x.2.va.ownBlock = some g → g ∉ ownB v := fun g hg hm2 => by
    obtain ⟨cur, hb⟩ := own_type c2 g hg
    obtain ⟨c5, h5⟩ := ref_type h.doc g hm2
    rw [h5] at hb
    cases hb
  exact ⟨A2, c4, he, run_bytes_text w4 9 30 Try.underlying30 Try.underlying9 c4 hr, (((c2.turns t1 (va_other c1 c2)).turns ht (by simp)).turns t2 fv).conv, h.readen hL1 hx hL2 ho hf hs hB h1 t1 ht h2 t2⟩
theorem TwoQ.bump {FF : List Nat} {b t n g cap : Nat} {w0 wr : World} {X Y : Value} {l : List UInt8} (h : TwoQ FF B b w0 bn bm rn most N t X l Y n wr) (hY : Y = .slice (some ⟨g, 0, none⟩) n cap) (j : Nat) (c : UInt8) : TwoQ FF B b w0 bn bm rn most N t X l Y n (wr.setCell ⟨g, j, none⟩ (.int .u8 (c.toNat : Int))) := by
  obtain ⟨⟨v', N', L', rs', h1, h2, h3, h4, h5⟩, h6, ⟨m, hm, h7⟩, h8, h9, h10, h11⟩ := h
  have hb : Y.ownBlock = some g := by rw [hY]; rfl
  have ht : Turns (ownB Y) wr (wr.setCell ⟨g, j, none⟩ (.int .u8 (c.toNat : Int))) := Turns.setCell wr _ _ (by unfold ownB; rw [hb]; simp)
  refine ⟨⟨v', N', L', rs', h1.wrote h7 h5 ht, h2, h3, h4, h5⟩, h6.turns ht (fun g2 hg2 hm2 => h8 g2 hg2 (by unfold ownB at hm2; simpa using hm2)), ⟨m.set j c, by simpa using hm, h7.set (by rw [hY]) j c⟩, h8, h9.setCell (h7.grows g hb) _, h10.trans ht (fun i hi => .inl (h11 i (by unfold ownB at hi; simpa using hi))), h11⟩
theorem TwoP.bump {FF : List Nat} {b t n g cap : Nat} {w0 wr : World} {X : Value} {l : List UInt8} (hBb : B ≤ b) (h : TwoP FF B b w0 bn bm rn most N t X l wr) (hX : X = .slice (some ⟨g, 0, none⟩) n cap) (j : Nat) (c : UInt8) : TwoP FF B b w0 bn bm rn most N t X (l.set j c) (wr.setCell ⟨g, j, none⟩ (.int .u8 (c.toNat : Int))) := by
  obtain ⟨⟨v', N', L', rs', h1, h2, h3, h4⟩, h6, h9, h10⟩ := h
  have hb : X.ownBlock = some g := by rw [hX]; rfl
  have ht : Turns (ownB X) wr (wr.setCell ⟨g, j, none⟩ (.int .u8 (c.toNat : Int))) := Turns.setCell wr _ _ (by unfold ownB; rw [hb]; simp)
  exact ⟨⟨v', N', L', rs', h1.wrote h6 h4.free ht, h2, h3, h4⟩, h6.set (by rw [hX]) j c, h9.setCell (Nat.le_trans hBb (h6.grows g hb)) _, h10.trans ht (fun i hi => .inl (h4.own i hi))⟩
theorem TwoQ.byte {FF : List Nat} {b t n g cap : Nat} {w0 wr : World} {X Y : Value} {l : List UInt8} (h : TwoQ FF B b w0 bn bm rn most N t X l Y n wr) (hY : Y = .slice (some ⟨g, 0, none⟩) n cap) (j : Nat) (hj : j < n) : ∃ c : UInt8, wr.cell? ⟨g, j, none⟩ = some (.int .u8 (c.toNat : Int)) ∧ wr.frozen? ⟨g, j, none⟩ = false := by
  obtain ⟨_, _, ⟨m, hm, h7⟩, _, _⟩ := h
  exact h7.cellAt hY j (by omega)
theorem TwoP.byte {FF : List Nat} {b t n g cap : Nat} {w0 wr : World} {X : Value} {l : List UInt8} (h : TwoP FF B b w0 bn bm rn most N t X l wr) (hX : X = .slice (some ⟨g, 0, none⟩) n cap) (j : Nat) (hj : j < l.length) : ∃ c : UInt8, wr.cell? ⟨g, j, none⟩ = some (.int .u8 (c.toNat : Int)) ∧ wr.frozen? ⟨g, j, none⟩ = false := h.2.1.cellAt hX j hj
end Go.Proofs.Ytlelemjmknbnaaa
