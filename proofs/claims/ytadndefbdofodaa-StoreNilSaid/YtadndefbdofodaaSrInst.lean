/- The program's store keeps the contracts. -/
import Derived.Test.YtadndefbdofodaaSrSame
import Derived.Test.YtadndefbdofodaaSrCopy
namespace Go.Proofs.Ytadndefbdofodaa
open Go.RowKit

def SrA (B : Nat) (w : World) (p : Nat) (F : List Nat) (most : Nat) (L : List One) : Prop := ∃ b P, Sr B w p b F most P L
theorem getM_getP {P : PM} {L : List One} (h : Tel P L) (n : ByteArray) : getP n L = getM (P n) := by
  unfold getP
  cases hp : P n with
  | none => rw [h.none hp]; rfl
  | some q =>
    obtain ⟨g, l⟩ := q
    obtain ⟨i, y, h1, h2, _, h3⟩ := h.some hp
    rw [h1]
    simp only [h2]
    unfold getM
    rw [h3]
def srC : StC where
  At := SrA
  foot := fun ⟨_, _, h⟩ => h.foot
  low := fun {B B' w p F most L} ⟨b, P, h⟩ hB => ⟨b, P, h.sm.lower hB, h.tel, h.cov, fun i hi => ⟨Nat.le_trans hB (h.foot i hi).1, (h.foot i hi).2⟩⟩
  turns := fun {B w w' p F most L G} ⟨b, P, h⟩ ht hG => ⟨b, P, h.sm.turns ht (hG p (h.cov p (.inl rfl))) (fun i hi hin => hG i (h.cov i (.inr hin)) hi), h.tel, h.cov, fun i hi => ⟨(h.foot i hi).1, Nat.lt_of_lt_of_le (h.foot i hi).2 ht.size⟩⟩
  only := by
    rintro B w p F most L ⟨_, _, h⟩ i j y z hy hz e
    exact h.tel.only hy hz e
  names := fun ⟨_, _, h⟩ y hy => (h.names y hy).2
  new := fun most w _ _ => (newSt_any most w).mono fun e w' ⟨p, b, he, hs, hf, ht⟩ => ⟨p, [p, b], he, ⟨b, _, hs, ⟨List.Pairwise.nil, by simp, fun x q hq => (by cases hq)⟩, fun i hi => (by
    rcases hi with rfl | rfl | ⟨x, q, hq, _⟩
    · simp
    · simp
    · cases hq), fun i hi => hf i (by simpa using hi)⟩, ht⟩
  put := fun {B w p F most L l A c} ⟨b, P, h⟩ hB hL hc _ hr hA owner _ hx => (putSt_any h hB hL hc hr hA owner fun x hm => (hx x hm).1).mono fun e w' ⟨o, F', P', he, ho, hs, ht, h1, h2⟩ => ⟨o, F', he, ho, ⟨b, P', hs⟩, ht, h1, h2⟩
  get := fun {B w p F most L} ⟨b, P, h⟩ _ n hn => (getM_any h.sm (x := n) hn).mono fun e w' ⟨he, ht⟩ => ⟨by rw [he, getM_getP h.tel n], ht⟩
  len := fun {B w p F most L} ⟨b, P, h⟩ _ => lenM_any h.sm
  live := fun {B w p F most L} ⟨b, P, h⟩ hl => liveM_any h.sm h.tel.tells hl
  all := fun {B w p F most L} ⟨b, P, h⟩ hl => (allSt_any h (by omega)).mono fun e w' ⟨gf, caps, bs, he, h1, h2, h3, h4⟩ => ⟨gf, caps, bs, he, h1, h2, h3, fun W hW => h4 One (fun x => x) L (List.map_id' L) W hW⟩
  copy := fun {B w p F most L} ⟨b, P, h⟩ hl => (copySt_any h hl).mono fun e w' ⟨q, b2, G, P2, he, hs, ht⟩ => ⟨q, G, he, ⟨b2, P2, hs⟩, ht⟩
  same := fun {B1 B2 w p q F G m1 m2 L1 L2} ⟨b1, P1, h1⟩ ⟨b2, P2, h2⟩ hl1 hl2 => sameSt_any h1 h2 hl1 hl2
end Go.Proofs.Ytadndefbdofodaa
