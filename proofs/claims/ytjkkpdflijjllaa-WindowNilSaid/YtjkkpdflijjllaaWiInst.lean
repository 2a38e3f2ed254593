/- The program's windows keep the contracts that the laws' walks stand on. -/
import Derived.Test.YtjkkpdflijjllaaWiAdd
import Derived.Test.YtjkkpdflijjllaaWiCopy
import Derived.Test.YtjkkpdflijjllaaWiSameW
import Derived.Test.YtjkkpdflijjllaaWnC
namespace Go.Proofs.Ytjkkpdflijjllaa
open Go.RowKit

/-- The program's windows in memory, F their blocks. -/
def WiF (B : Nat) (w : World) (p : Nat) (F : List Nat) (S : Ws) : Prop := ∃ b P, WiA B w p b P S ∧ ∀ i, i ∈ F ↔ WiA.In p b P i
theorem WiA.blocks {B : Nat} {w : World} {p b : Nat} {P : PW} {S : Ws} (h : WiA B w p b P S) : ∃ F : List Nat, ∀ i, i ∈ F ↔ WiA.In p b P i := by
  refine ⟨p :: b :: S.L.filterMap (fun x => (P x.num).map (·.1)), fun i => ?_⟩
  simp only [List.mem_cons, List.mem_filterMap]
  constructor
  · rintro (e | e | ⟨x, hx, e⟩)
    · exact .inl e
    · exact .inr (.inl e)
    · cases hp : P x.num with
      | none => rw [hp] at e; cases e
      | some q =>
        rw [hp] at e
        exact .inr (.inr ⟨x.num, q, hp, Option.some.inj e⟩)
  · rintro (e | e | ⟨n, q, hq, e⟩)
    · exact .inl e
    · exact .inr (.inl e)
    · obtain ⟨x, hx, e2⟩ := h.tel.all n q hq
      exact .inr (.inr ⟨x, hx, by rw [e2, hq]; simp [e]⟩)
theorem WiA.note {B : Nat} {w : World} {p b : Nat} {P : PW} {S : Ws} {N : Nat} (hok : WsOk S N) (t : Int) : (if 0 ≤ t ∧ t ≤ 1125899906842624 then { S with mark := max S.mark t } else S) = noteW S t := by
  have := hok.mark
  unfold noteW
  by_cases h1 : 0 ≤ t ∧ t ≤ 1125899906842624
  · rw [if_pos h1]
    by_cases h2 : S.mark < t
    · rw [if_pos ⟨h2, h1.2⟩, show max S.mark t = t by omega]
    · rw [if_neg (fun q => h2 q.1), show max S.mark t = S.mark by omega]
  · rw [if_neg h1, if_neg]
    rintro ⟨q1, q2⟩
    exact h1 ⟨by omega, q2⟩
def wiC : WiC where
  At := WiF
  foot := fun ⟨b, P, h, hF⟩ i hi => h.lt i ((hF i).1 hi)
  low := fun ⟨b, P, h, hF⟩ hB => ⟨b, P, h.down hB, hF⟩
  turns := fun ⟨b, P, h, hF⟩ ht hG => ⟨b, P, h.turns ht fun i hi hin => hG i ((hF i).2 hin) hi, hF⟩
  new := fun len lat most w _ _ _ => (new_wi_any len lat most w).mono fun e w' h => by
    rcases h with ⟨h0, p, b, he, hw, ht⟩ | ⟨h2, he, ht⟩
    · obtain ⟨F, hF⟩ := hw.blocks
      exact ⟨fun _ => ⟨p, F, he, b, _, hw, hF⟩, fun hn => absurd h0 hn, ht⟩
    · refine ⟨fun h0 => ?_, fun _ => ?_, ht⟩
      · rw [h0] at h2; cases h2
      · rw [h2]; exact he
  note := fun {B w p F S N} ⟨b, P, h, hF⟩ hB hok t _ => (note_any h t).mono fun e w' ⟨he, hw, ht⟩ => by
    rw [WiA.note (B := B) (w := w) (p := p) (b := b) (P := P) hok t] at hw
    exact ⟨he, F, ⟨b, P, hw, hF⟩, ht.mono fun i hi => (hF i).2 (by simp at hi; exact .inl hi), fun i hi => .inl hi⟩
  add := fun {B w p F S N} ⟨b, P, h, hF⟩ hB hok hN name tm inc rs hn htm hinc => (add_wi_any h hok hN hB name hn tm inc rs htm hinc).mono fun e w' hp => by
    obtain ⟨o, H, P', he, ho, hw, hin, ⟨G, hG, hGi⟩, hH⟩ := hp
    obtain ⟨F', hF'⟩ := hw.blocks
    refine ⟨o, F', H, he, ho, ⟨b, P', hw, hF'⟩, ⟨hG.os, hG.tape, hG.output, hG.size, fun i hi hn => hG.block i hi fun hm => ?_⟩, fun i hi => (hin i ((hF' i).1 hi)).imp (hF i).2 id, fun i hi => ⟨.inr (hH i hi).1, fun hm => (hH i hi).2.2 ((hF' i).1 hm)⟩⟩
    rcases hGi i hm with h1 | h1
    · exact hn ((hF i).2 h1)
    · omega
  clock := fun {B w p F S N} ⟨b, P, h, hF⟩ hB hok hN now hnow => (clock_any h hok hN hB now hnow).mono fun e w' hp => by
    obtain ⟨o, H, P', he, ho, hw, hsub, ht, hH⟩ := hp
    obtain ⟨F', hF'⟩ := hw.blocks
    have hin : ∀ i, WiA.In p b P' i → WiA.In p b P i := fun i hi => by
      rcases hi with e | e | ⟨z, q, hq, e⟩
      · exact .inl e
      · exact .inr (.inl e)
      · exact .inr (.inr ⟨z, q, hsub z q hq, e⟩)
    refine ⟨o, F', H, he, ho, ⟨b, P', hw, hF'⟩, ht.mono fun i hi => (hF i).2 ?_, fun i hi => .inl ((hF i).2 (hin i ((hF' i).1 hi))), fun i hi => ⟨.inr (hH i hi).1, fun hm => ?_⟩⟩
    · simp only [List.mem_cons, List.not_mem_nil, or_false] at hi
      rcases hi with e | e
      · exact .inl e
      · exact .inr (.inl e)
    · have := (h.lt i (hin i ((hF' i).1 hm))).2
      have := (hH i hi).1
      omega
  opened := fun ⟨b, P, h, hF⟩ hok hN => (open_any h (SmallL.of hok (by omega))).mono fun e w' ⟨o, H, he, ho, ht, hH⟩ => ⟨o, H, he, ho, ht, hH⟩
  floor := fun ⟨b, P, h, hF⟩ => floor_any h
  mark := fun ⟨b, P, h, hF⟩ => mark_any h
  counts := fun ⟨b, P, h, hF⟩ => counts_any h
  copy := fun ⟨b, P, h, hF⟩ hok hN => (copy_wi_any h (SmallL.of hok (by omega))).mono fun e w' ⟨q, b2, P2, he, hw, ht⟩ => by
    obtain ⟨F', hF'⟩ := hw.blocks
    exact ⟨q, F', he, ⟨b2, P2, hw, hF'⟩, ht⟩
  same := fun ⟨b, P, h, hF⟩ ⟨b', P', h', hF'⟩ hok hok' _ _ => same_wi_any h h' hok.srt hok'.srt
end Go.Proofs.Ytjkkpdflijjllaa
