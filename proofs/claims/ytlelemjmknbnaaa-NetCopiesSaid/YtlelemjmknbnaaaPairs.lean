/- The two calls of an act, in one form. -/
import Derived.Test.YtlelemjmknbnaaaDo
namespace Go.Proofs.Ytlelemjmknbnaaa
open Go.RowKit

def Pair (B : Nat) (w2 : World) (bn bm rn : Nat) (v : Value) (most : Int) (N : Nat) (L : List NE) (rs : List Rc) (a : Nat) (fn fd : FuncId) (an ad : Array Value) : Prop :=
  ∃ (cc : Int) (F : List Cn → List Cn), (∀ W, Turns [] w2 W → Calls Try.prog fn an W (NPost B W bn bm most (N : Int) L cc (F (L.map Prod.fst)))) ∧
    ∀ W w3 e W', Turns [] w2 W → NPost B W bn bm most (N : Int) L cc (F (L.map Prod.fst)) e w3 → Turns [] w3 W' → Calls Try.prog fd ad W' (DPost B W' rn v most N rs a cc (F (rs.map toC)))
variable {B : Nat} {w2 : World} {bn bm rn : Nat} {v : Value} {most : Int} {N : Nat} {L : List NE} {rs : List Rc}
theorem pair_accept (h : Two B w2 bn bm rn v most N L rs) (hl : rs.length ≤ 1000) (k : Int) (hk : (Lit.int .i64 k).wf = true) :
    Pair B w2 bn bm rn v most N L rs 0 15 20 #[.pointer (some ⟨bn, 0, none⟩), .int .i64 k] #[.pointer (some ⟨rn, 0, none⟩), .int .i64 k] :=
  ⟨codeR (getR rs k) 1, updM k _, fun W ht => by have := accept_any (h.kept ht).net k hk; rwa [h.link.code] at this, fun W w3 e W' ht hp ht' => raccept_any ((h.kept ht).docBehind hp ht') hl k⟩
theorem pair_refuse (h : Two B w2 bn bm rn v most N L rs) (hl : rs.length ≤ 1000) (k : Int) (hk : (Lit.int .i64 k).wf = true) :
    Pair B w2 bn bm rn v most N L rs 0 21 22 #[.pointer (some ⟨bn, 0, none⟩), .int .i64 k] #[.pointer (some ⟨rn, 0, none⟩), .int .i64 k] :=
  ⟨codeR (getR rs k) 1, updM k _, fun W ht => by have := refuse_any (h.kept ht).net k hk; rwa [h.link.code] at this, fun W w3 e W' ht hp ht' => rrefuse_any ((h.kept ht).docBehind hp ht') hl k⟩
theorem pair_reset (h : Two B w2 bn bm rn v most N L rs) (hl : rs.length ≤ 1000) (k : Int) (hk : (Lit.int .i64 k).wf = true) :
    Pair B w2 bn bm rn v most N L rs 0 23 24 #[.pointer (some ⟨bn, 0, none⟩), .int .i64 k] #[.pointer (some ⟨rn, 0, none⟩), .int .i64 k] :=
  ⟨code23 (getR rs k), updM k _, fun W ht => by have := reset_any (h.kept ht).net k hk; rwa [h.link.code23] at this, fun W w3 e W' ht hp ht' => rreset_any ((h.kept ht).docBehind hp ht') hl k⟩
theorem pair_end (h : Two B w2 bn bm rn v most N L rs) (hl : rs.length ≤ 1000) (k : Int) (hk : (Lit.int .i64 k).wf = true) :
    Pair B w2 bn bm rn v most N L rs 0 17 25 #[.pointer (some ⟨bn, 0, none⟩), .int .i64 k] #[.pointer (some ⟨rn, 0, none⟩), .int .i64 k] :=
  ⟨codeR (getR rs k) 2, updM k _, fun W ht => by have := end_any (h.kept ht).net k hk; rwa [h.link.code] at this, fun W w3 e W' ht hp ht' => rend_any ((h.kept ht).docBehind hp ht') hl k⟩
theorem pair_close (h : Two B w2 bn bm rn v most N L rs) (hl : rs.length ≤ 1000) (k : Int) (hk : (Lit.int .i64 k).wf = true) :
    Pair B w2 bn bm rn v most N L rs 0 30 31 #[.pointer (some ⟨bn, 0, none⟩), .int .i64 k] #[.pointer (some ⟨rn, 0, none⟩), .int .i64 k] :=
  ⟨there (getR rs k), closeM k, fun W ht => by have := close_any (h.kept ht).net k hk; rwa [h.link.there] at this, fun W w3 e W' ht hp ht' => rclose_any ((h.kept ht).docBehind hp ht') hl k⟩
theorem pair_arrive (h : Two B w2 bn bm rn v most N L rs) (hl : rs.length ≤ 1000) (k : Int) (hk : (Lit.int .i64 k).wf = true) {t b : Nat} (hs : SmallR t rs) (ht : t ≤ 100000) {X : Value} {l : List UInt8} (hlen : l.length ≤ 3000) (ho : Owned b w2 X l) {A : Option Addr} {c n Bx : Nat} (hn : n = l.length) (hr : BReads w2 Bx A l) (hBx : Bx ≤ w2.heap.size) (hlow : Bx ≤ B) :
    Pair B w2 bn bm rn v most N L rs l.length 16 26 #[.pointer (some ⟨bn, 0, none⟩), .int .i64 k, X] #[.pointer (some ⟨rn, 0, none⟩), .int .i64 k, .slice A n c] := by
  subst hn
  refine ⟨codeR (getR rs k) 2, updM k (fun c => if c.st = 2 then { c with inn := c.inn ++ l } else c), fun W ht => ?_, fun W w3 e W' ht' hp ht'' => ?_⟩
  rotate_left
  · have b1 := (h.kept ht')
    refine rarrive_any (b1.docBehind hp ht'') hl k Bx A l c (((hr.below (ht'.below (by simp) hBx)).below (hp.2.2.below (fun i hi => Nat.le_trans hlow (b1.net.lt i hi).1) (Nat.le_trans hBx ht'.size))).below (ht''.below (by simp) (Nat.le_trans hBx (Nat.le_trans ht'.size hp.2.2.size)))) (Nat.le_trans hBx (Nat.le_trans ht'.size (Nat.le_trans hp.2.2.size ht''.size))) (fun r hr => by have := hs r hr; omega)
  · obtain ⟨A2, c2, rfl, hr2, hc2⟩ := owned_slice (ho.turns ht (by simp))
    have := arrive_any (h.kept ht).net k hk W.heap.size A2 l c2 hr2 (Nat.le_refl _) hc2 (fun x hx => by have := hs.inn h.link x hx; omega)
    rwa [h.link.code] at this
theorem pair_send (h : Two B w2 bn bm rn v most N L rs) (hl : rs.length ≤ 1000) (k : Int) (hk : (Lit.int .i64 k).wf = true) {t b : Nat} (hs : SmallR t rs) (ht : t ≤ 100000) {X : Value} {l : List UInt8} (hlen : l.length ≤ 3000) (ho : Owned b w2 X l) {A : Option Addr} {c n Bx : Nat} (hn : n = l.length) (hr : BReads w2 Bx A l) (hBx : Bx ≤ w2.heap.size) (hlow : Bx ≤ B) :
    Pair B w2 bn bm rn v most N L rs l.length 27 28 #[.pointer (some ⟨bn, 0, none⟩), .int .i64 k, X] #[.pointer (some ⟨rn, 0, none⟩), .int .i64 k, .slice A n c] := by
  subst hn
  refine ⟨codeR (getR rs k) 2, updM k (fun c => if c.st = 2 then { c with out := c.out ++ l } else c), fun W ht => ?_, fun W w3 e W' ht' hp ht'' => ?_⟩
  rotate_left
  · have b1 := (h.kept ht')
    refine rsend_any (b1.docBehind hp ht'') hl k Bx A l c (((hr.below (ht'.below (by simp) hBx)).below (hp.2.2.below (fun i hi => Nat.le_trans hlow (b1.net.lt i hi).1) (Nat.le_trans hBx ht'.size))).below (ht''.below (by simp) (Nat.le_trans hBx (Nat.le_trans ht'.size hp.2.2.size)))) (Nat.le_trans hBx (Nat.le_trans ht'.size (Nat.le_trans hp.2.2.size ht''.size))) (fun r hr => by have := hs r hr; omega)
  · obtain ⟨A2, c2, rfl, hr2, hc2⟩ := owned_slice (ho.turns ht (by simp))
    have := send_any (h.kept ht).net k hk W.heap.size A2 l c2 hr2 (Nat.le_refl _) hc2 (fun x hx => by have := hs.inn h.link x hx; omega)
    rwa [h.link.code] at this
theorem TwoP.mono {FF : List Nat} {b : Nat} {w0 w3 : World} {t t' : Nat} {X : Value} {l : List UInt8} (h : TwoP FF B b w0 bn bm rn most N t X l w3) (ht : t ≤ t') : TwoP FF B b w0 bn bm rn most N t' X l w3 := by
  obtain ⟨⟨v', N', L', rs', h1, h2, h3, h4⟩, h5, h6⟩ := h
  exact ⟨⟨v', N', L', rs', h1, h2, h3.mono ht, h4⟩, h5, h6⟩
theorem Two.done {FF : List Nat} {b a t : Nat} {W w3 W' w4 : World} {c1 c2 : Int} {F : List Cn → List Cn} {e1 e2 : Ending} {X : Value} {l : List UInt8} (h : Two B w2 bn bm rn v most N L rs) (ho : Owned b w2 X l) (hf : FreeF FF w2.heap.size bn bm rn v X L) (hs : SmallR t rs) (hB : B ≤ w2.heap.size)
    (ht1 : Turns [] w2 W) (h1 : NPost B W bn bm most (N : Int) L c1 (F (L.map Prod.fst)) e1 w3) (ht2 : Turns [] w3 W') (h2 : DPost B W' rn v most N rs a c2 (F (rs.map toC)) e2 w4) {t' : Nat} (htt : t + a ≤ t') : TwoP FF B b w2 bn bm rn most N t' X l w4 := by
  have hlt := h.all hf
  obtain ⟨⟨v', N', L', rs', g1, g2, g3, g4⟩, h4, h5, h6⟩ := (h.kept ht1).both (FF := FF) (ho.turns ht1 (by simp)) ⟨hf.free, fun i hi => .inl (hlt i hi), hf.own⟩ hs (Nat.le_trans hB ht1.size) h1 ht2 h2
  exact TwoP.mono ⟨⟨v', N', L', rs', g1, g2, g3, ⟨g4.free, fun i hi => (g4.inn i hi).imp id (fun h => Nat.le_trans ht1.size h), g4.own⟩⟩, h4, (ht1.below (by simp) hB).trans h5, (ht1.mono (G := FF) (by simp)).trans h6 (fun i hi => .inl hi)⟩ htt
/-- A block that stands apart stands behind the net's call. -/
theorem npost_block {W w3 : World} {c1 : Int} {cs : List Cn} {e1 : Ending} {p : Nat} {o : Obj} (hb : w2.heap[p]? = some o) (hp : p ∉ bn :: bm :: footL L) (ht1 : Turns [] w2 W) (h1 : NPost B W bn bm most (N : Int) L c1 cs e1 w3) : w3.heap[p]? = some o :=
  (h1.2.2.block p (Nat.lt_of_lt_of_le (lt_of_block hb) ht1.size) hp).trans ((ht1.block p (lt_of_block hb) (by simp)).trans hb)
end Go.Proofs.Ytlelemjmknbnaaa
