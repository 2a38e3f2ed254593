/- NetCopies: a copy goes on apart; no condition. -/
import Derived.Test.YtlelemjmknbnaaaPlayB
import Derived.Test.YtlelemjmknbnaaaNetCopyW
import Derived.Test.YtlelemjmknbnaaaNetSameAll
import Derived.Test.YtlelemjmknbnaaaDocSame
import Derived.Test.YtlelemjmknbnaaaOpenActs
import Derived.Test.YtlelemjmknbnaaaRows
import Derived.SizedLaws
import Derived.ProofKit
import Derived.OpenShut
import Derived.ShutString
import Derived.ChangeOld
import Derived.Below
import Derived.HandedShaped
namespace Go.Proofs.Ytlelemjmknbnaaa
open Go.RowKit

theorem NetAt.lower {B B' : Nat} {w : World} {bn bm : Nat} {most last : Int} {L : List NE} (h : NetAt B w bn bm most last L) (hB : B' ≤ B) : NetAt B' w bn bm most last L :=
  ⟨h.head, h.hmap, fun x hx => ⟨(h.conns x hx).1, (h.conns x hx).2.1.low hB, (h.conns x hx).2.2.low hB⟩, ⟨Nat.le_trans hB h.low.1, Nat.le_trans hB h.low.2.1, fun x hx => Nat.le_trans hB (h.low.2.2 x hx)⟩, h.apart, h.ids, h.rise⟩
theorem RefAt.lower {B B' : Nat} {w : World} {rn : Nat} {v : Value} {most : Int} {N : Nat} {rs : List Rc} (h : RefAt B w rn v most N rs) (hB : B' ≤ B) : RefAt B' w rn v most N rs :=
  ⟨h.head, World.ownsRow.mono h.own hB, Nat.le_trans hB h.low, h.off, h.ids, h.rise, h.ats⟩
theorem Two.lower {B B' : Nat} {w : World} {bn bm rn : Nat} {v : Value} {most : Int} {N : Nat} {L : List NE} {rs : List Rc} (h : Two B w bn bm rn v most N L rs) (hB : B' ≤ B) : Two B' w bn bm rn v most N L rs :=
  ⟨h.net.lower hB, h.doc.lower hB, h.link, h.room, h.live⟩
theorem Two.turns {B : Nat} {w w' : World} {bn bm rn : Nat} {v : Value} {most : Int} {N : Nat} {L : List NE} {rs : List Rc} {F : List Nat} (h : Two B w bn bm rn v most N L rs) (ht : Turns F w w') (hF : ∀ i ∈ footT bn bm rn v L, i ∉ F) : Two B w' bn bm rn v most N L rs :=
  ⟨h.net.kept ht (fun i hi => hF i (mem_footT.2 (.inl hi))), h.doc.kept ht (hF _ (mem_footT.2 (.inr (List.mem_cons_self ..)))) (fun i hi => hF _ (mem_footT.2 (.inr (List.mem_cons.2 (.inr hi))))), h.link, h.room, h.live⟩
theorem Two.conns {B : Nat} {w : World} {bn bm rn : Nat} {v : Value} {most : Int} {N : Nat} {L : List NE} {rs : List Rc} (h : Two B w bn bm rn v most N L rs) : ∀ x ∈ L, x.1.st ≠ 0 := fun x hx => by
  have hm : x.1 ∈ rs.map toC := by rw [← h.link]; exact List.mem_map_of_mem hx
  obtain ⟨r, hr, he⟩ := List.mem_map.1 hm
  rw [← he]
  exact h.live r hr
theorem Two.short {B : Nat} {w : World} {bn bm rn : Nat} {v : Value} {most : Int} {N : Nat} {L : List NE} {rs : List Rc} (h : Two B w bn bm rn v most N L rs) : rs.length ≤ N ∧ L.length ≤ N := ⟨h.doc.len, by rw [h.link.len]; exact h.doc.len⟩
/-- Two pairs, apart. -/
def Both (w W : World) (bn bm rn bo bp ro : Nat) (k t k' t' : Nat) : Prop :=
  ∃ v N L rs v' N' L' rs', Two w.heap.size W bn bm rn v 4 N L rs ∧ Two w.heap.size W bo bp ro v' 4 N' L' rs' ∧ (∀ i ∈ footT bn bm rn v L, i ∉ footT bo bp ro v' L') ∧ (N ≤ k ∧ SmallR t rs) ∧ N' ≤ k' ∧ SmallR t' rs'
theorem Both.symm {w W : World} {bn bm rn bo bp ro k t k' t' : Nat} (h : Both w W bn bm rn bo bp ro k t k' t') : Both w W bo bp ro bn bm rn k' t' k t := by
  obtain ⟨v, N, L, rs, v', N', L', rs', h1, h2, h3, h4, h5⟩ := h
  exact ⟨v', N', L', rs', v, N, L, rs, h2, h1, fun i hi hi' => h3 i hi' hi, h5, h4⟩
theorem Both.kept {w W W' : World} {bn bm rn bo bp ro k t k' t' : Nat} (h : Both w W bn bm rn bo bp ro k t k' t') (ht : Turns [] W W') : Both w W' bn bm rn bo bp ro k t k' t' := by
  obtain ⟨v, N, L, rs, v', N', L', rs', h1, h2, h3, h4⟩ := h
  exact ⟨v, N, L, rs, v', N', L', rs', h1.kept ht, h2.kept ht, h3, h4⟩
theorem Both.below {w W W' : World} {bn bm rn bo bp ro k t k' t' : Nat} (h : Both w W bn bm rn bo bp ro k t k' t') (hb : Below W.heap.size W W') : Both w W' bn bm rn bo bp ro k t k' t' := h.kept (Turns.of_below hb (Nat.le_refl _))
theorem both_do {w W : World} {bn bm rn bo bp ro k t k' t' : Nat} (h : Both w W bn bm rn bo bp ro k t k' t') (hB : w.heap.size ≤ W.heap.size) (hk : k ≤ 60) (ht : t ≤ 6000) (a : Ac) (hid : (Lit.int .i64 a.id).wf = true) (hs : a.b.length + a.host.size ≤ 3000) (hr : BReads W w.heap.size a.A a.b) (hc : a.A = none → a.c = 0) :
    Calls Try.prog 8 #[.pointer (some ⟨bn, 0, none⟩), .pointer (some ⟨rn, 0, none⟩), .agg #[.int .i64 a.kind, .int .i64 a.id, .string a.host, .slice a.A a.b.length a.c]] W fun e w' =>
      e = .returned (.bool true) ∧ Both w w' bn bm rn bo bp ro (k + 1) (t + (a.host.size + a.b.length)) k' t' ∧ Below w.heap.size W w' := by
  obtain ⟨v, N, L, rs, v', N', L', rs', h1, h2, h3, ⟨h4, h5⟩, h6⟩ := h
  refine (do_any h1 hB (by omega) h5 (by omega) a.kind a.id hid a.host (by omega) a.A a.b a.c hr hc (by omega)).mono ?_
  rintro e w' ⟨rfl, ⟨v1, N1, L1, rs1, g1, g2, g3, g4⟩, hb, htn⟩
  refine ⟨rfl, ⟨v1, N1, L1, rs1, v', N', L', rs', g1, h2.turns htn (fun i hi hi' => h3 i hi' hi), fun i hi hi' => ?_, ⟨by omega, g3⟩, h6⟩, hb⟩
  rcases g4 i hi with g5 | g5
  · exact h3 i g5 hi'
  · have := (h2.footLt i hi').2
    omega
theorem both_same {w W : World} {bn bm rn bo bp ro k t k' t' : Nat} (h : Both w W bn bm rn bo bp ro k t k' t') (hk : k ≤ 900) (ht : t ≤ 100000) (leave : Int) :
    Calls Try.prog 13 #[.pointer (some ⟨bn, 0, none⟩), .pointer (some ⟨rn, 0, none⟩), .int .i64 leave] W fun e w' => e = .returned (.bool true) ∧ Below W.heap.size W w' := by
  obtain ⟨v, N, L, rs, v', N', L', rs', h1, h2, h3, ⟨h4, h5⟩, h6⟩ := h
  exact same_any h1 (by omega) h5 ht leave
noncomputable def alikeB (N N' : Nat) (rs rs' : List Rc) : Bool := @decide (N = N' ∧ rs.map toC = rs'.map toC) (Classical.propDecidable _)
theorem alikeB_iff {N N' : Nat} {rs rs' : List Rc} : alikeB N N' rs rs' = true ↔ N = N' ∧ rs.map toC = rs'.map toC := by unfold alikeB; exact @decide_eq_true_iff _ (Classical.propDecidable _)
theorem Two.same {B B2 : Nat} {w : World} {bn bm rn bo bp ro : Nat} {v v' : Value} {N N' : Nat} {L L' : List NE} {rs rs' : List Rc} {t : Nat} {most : Int} (h : Two B w bn bm rn v most N L rs) (h2 : Two B2 w bo bp ro v' most N' L' rs') (hN : N ≤ 900) (hs : SmallR t rs) (ht : t ≤ 100000) :
    Calls Try.prog 11 #[.pointer (some ⟨bn, 0, none⟩), .pointer (some ⟨bo, 0, none⟩)] w fun e w' => e = .returned (.bool (alikeB N N' rs rs')) ∧ Below w.heap.size w w' := by
  refine (same_all h.net h2.net (by have := h.short; omega) (fun x hx => by have := hs.inn h.link x hx; omega) (by omega) h.conns).mono ?_
  rintro e w' ⟨⟨b, rfl, hb⟩, hbl⟩
  refine ⟨?_, hbl⟩
  rw [h.link, h2.link] at hb
  have e1 : ((N : Int) = (N' : Int)) ↔ N = N' := by omega
  rw [e1] at hb
  congr 2
  rw [Bool.eq_iff_iff, hb, alikeB_iff]
/-- What the document's Same says, both nets say. -/
theorem both_alike {w W : World} {bn bm rn bo bp ro k t k' t' : Nat} (h : Both w W bn bm rn bo bp ro k t k' t') (hk : k ≤ 900) (ht : t ≤ 100000) (hk' : k' ≤ 900) (ht' : t' ≤ 100000) :
    ∃ al : Bool, (∀ W', Turns [] W W' → Calls Try.prog 12 #[.pointer (some ⟨rn, 0, none⟩), .pointer (some ⟨ro, 0, none⟩)] W' fun e w' => e = .returned (.bool al) ∧ Turns [] W' w')
      ∧ (∀ W', Turns [] W W' → Calls Try.prog 11 #[.pointer (some ⟨bn, 0, none⟩), .pointer (some ⟨bo, 0, none⟩)] W' fun e w' => e = .returned (.bool al) ∧ Below W'.heap.size W' w')
      ∧ (∀ W', Turns [] W W' → Calls Try.prog 11 #[.pointer (some ⟨bo, 0, none⟩), .pointer (some ⟨bn, 0, none⟩)] W' fun e w' => e = .returned (.bool al) ∧ Below W'.heap.size W' w') := by
  obtain ⟨v, N, L, rs, v', N', L', rs', h1, h2, h3, ⟨h4, h5⟩, h6, h7⟩ := h
  refine ⟨alikeB N N' rs rs', fun W' hW => ?_, fun W' hW => (h1.kept hW).same (h2.kept hW) (by omega) h5 ht, fun W' hW => ?_⟩
  · refine (rsame_any (h1.kept hW).doc (h2.kept hW).doc (by have := h1.short; omega) (fun r hr => by have := h5 r hr; omega) (fun r hr => by have := h7 r hr; omega)).mono ?_
    rintro e w' ⟨⟨b, rfl, hb⟩, htt⟩
    refine ⟨?_, htt⟩
    congr 2
    rw [Bool.eq_iff_iff, hb, alikeB_iff]
  · refine ((h2.kept hW).same (h1.kept hW) (by omega) h7 ht').mono ?_
    rintro e w' ⟨rfl, hb⟩
    refine ⟨?_, hb⟩
    congr 2
    rw [Bool.eq_iff_iff, alikeB_iff, alikeB_iff]
    exact ⟨fun ⟨a, b⟩ => ⟨a.symm, b.symm⟩, fun ⟨a, b⟩ => ⟨a.symm, b.symm⟩⟩
/-- A net that is copied, its document's not yet. -/
def Mid (w W : World) (bn bm rn bo bp : Nat) (k t : Nat) : Prop :=
  ∃ v N L rs L2 Z, Two w.heap.size W bn bm rn v 4 N L rs ∧ (N ≤ k ∧ SmallR t rs) ∧ NetAt Z W bo bp 4 (N : Int) L2 ∧ L2.map Prod.fst = L.map Prod.fst ∧ (∀ i ∈ footT bn bm rn v L, i < Z) ∧ w.heap.size ≤ Z
theorem play_copy {w W : World} {bn bm rn k t : Nat} (h : Play w W bn bm rn 4 k t) (hB : w.heap.size ≤ W.heap.size) (hk : k ≤ 900) (ht : t ≤ 100000) :
    Calls Try.prog 9 #[.pointer (some ⟨bn, 0, none⟩)] W fun e w' => ∃ bo bp, e = .returned (.pointer (some ⟨bo, 0, none⟩)) ∧ Mid w w' bn bm rn bo bp k t ∧ Below W.heap.size W w' := by
  obtain ⟨v, N, L, rs, h1, h2, h3⟩ := h
  rw [show max (4 : Int) 0 = 4 by omega] at h1
  refine (copy_any h1.net hB (by omega) (by have := h1.short; omega) (fun x hx => by have := h3.inn h1.link x hx; omega) (fun x hx => by have := h3.inn h1.link x hx; omega) (by omega)).mono ?_
  rintro e w' ⟨bo, bp, L2, rfl, g1, g2, g3⟩
  exact ⟨bo, bp, rfl, ⟨v, N, L, rs, L2, W.heap.size, h1.kept (Turns.of_below g3 (Nat.le_refl _)), ⟨h2, h3⟩, g1, g2, fun i hi => (h1.footLt i hi).2, hB⟩, g3⟩
theorem mid_copy {w W : World} {bn bm rn bo bp k t : Nat} (h : Mid w W bn bm rn bo bp k t) (hB : w.heap.size ≤ W.heap.size) (hk : k ≤ 900) (ht : t ≤ 100000) :
    Calls Try.prog 10 #[.pointer (some ⟨rn, 0, none⟩)] W fun e w' => ∃ ro, e = .returned (.pointer (some ⟨ro, 0, none⟩)) ∧ Turns [] W w' ∧ Both w w' bn bm rn bo bp ro k t k t
      ∧ (∀ W', Turns [] w' W' → Calls Try.prog 11 #[.pointer (some ⟨bn, 0, none⟩), .pointer (some ⟨bo, 0, none⟩)] W' fun e w' => e = .returned (.bool true) ∧ Below W'.heap.size W' w')
      ∧ (∀ W', Turns [] w' W' → Calls Try.prog 11 #[.pointer (some ⟨bo, 0, none⟩), .pointer (some ⟨bn, 0, none⟩)] W' fun e w' => e = .returned (.bool true) ∧ Below W'.heap.size W' w') := by
  obtain ⟨v, N, L, rs, L2, Z, h1, ⟨h2, h3⟩, h4, h5, h6, h7⟩ := h
  refine (rcopy_any h1.doc (by have := h1.short; omega)).mono ?_
  rintro e w' ⟨⟨ro, v2, rfl, g1⟩, g2⟩
  have k1 : Two w.heap.size w' bn bm rn v 4 N L rs := h1.kept g2
  have k2 : Two w.heap.size w' bo bp ro v2 4 N L2 rs := ⟨(h4.kept g2 (by simp)).lower h7, g1.lower hB, by unfold Link; rw [h5]; exact h1.link, h1.room, h1.live⟩
  refine ⟨ro, rfl, g2, ⟨v, N, L, rs, v2, N, L2, rs, k1, k2, fun i hi hi' => ?_, ⟨h2, h3⟩, h2, h3⟩, fun W' hW => ?_, fun W' hW => ?_⟩
  · rcases mem_footT.1 hi' with q | q
    · have q1 := (h4.lt i q).1
      have q2 := h6 i hi
      omega
    · have q2 := (h1.footLt i hi).2
      rcases List.mem_cons.1 q with q | q
      · have := g1.low
        omega
      · have := (World.ownsRow.lt g1.own i (by unfold ownB at q; rwa [Option.mem_toList] at q)).1
        omega
  · refine ((k1.kept hW).same (k2.kept hW) (by omega) h3 ht).mono ?_
    rintro e w' ⟨rfl, hb⟩
    exact ⟨by rw [alikeB_iff.2 ⟨rfl, rfl⟩], hb⟩
  · refine ((k2.kept hW).same (k1.kept hW) (by omega) h3 ht).mono ?_
    rintro e w' ⟨rfl, hb⟩
    exact ⟨by rw [alikeB_iff.2 ⟨rfl, rfl⟩], hb⟩
end Go.Proofs.Ytlelemjmknbnaaa

namespace Go.Proofs.Ytlelemjmknbnaaa
open Go.RowKit

namespace netCopies
theorem act_step {w wr : World} {A0 : Option Addr} {l : List Ac} (hr : AReads w w.heap.size A0 l) (hb : Below w.heap.size w wr) {k : Nat} {a : Ac} (ha : l[k]? = some a) :
    ∃ g off, A0 = some ⟨g, off, none⟩ ∧ wr.cell? ⟨g, off + k * 4, none⟩ = some (.int .i64 a.kind) ∧ wr.cell? ⟨g, off + k * 4 + 1, none⟩ = some (.int .i64 a.id) ∧ wr.cell? ⟨g, off + k * 4 + 2, none⟩ = some (.string a.host) ∧ wr.cell? ⟨g, off + k * 4 + 3, none⟩ = some (.slice a.A a.b.length a.c) ∧ BReads wr w.heap.size a.A a.b ∧ (a.A = none → a.c = 0) := by
  rcases hr with rfl | ⟨g, off, rfl, hg, hc⟩
  · simp at ha
  · obtain ⟨⟨c0, c1, c2, c3⟩, hbr, hcn⟩ := hc k a ha
    exact ⟨g, off, rfl, (hb.cell (p := ⟨g, off + k * 4, none⟩) hg).trans c0, (hb.cell (p := ⟨g, off + k * 4 + 1, none⟩) hg).trans c1, (hb.cell (p := ⟨g, off + k * 4 + 2, none⟩) hg).trans c2, (hb.cell (p := ⟨g, off + k * 4 + 3, none⟩) hg).trans c3, hbr.below hb, hcn⟩
theorem areads_below {w wr : World} {A0 : Option Addr} {l : List Ac} (hr : AReads w w.heap.size A0 l) (hb : Below w.heap.size w wr) : AReads wr wr.heap.size A0 l := by
  rcases hr with rfl | ⟨g, off, rfl, hg, hc⟩
  · exact .inl rfl
  · refine .inr ⟨g, off, rfl, Nat.lt_of_lt_of_le hg hb.size, fun j a ha => ?_⟩
    obtain ⟨⟨c0, c1, c2, c3⟩, hbr, hcn⟩ := hc j a ha
    exact ⟨⟨(hb.cell (p := ⟨g, off + j * 4, none⟩) hg).trans c0, (hb.cell (p := ⟨g, off + j * 4 + 1, none⟩) hg).trans c1, (hb.cell (p := ⟨g, off + j * 4 + 2, none⟩) hg).trans c2, (hb.cell (p := ⟨g, off + j * 4 + 3, none⟩) hg).trans c3⟩, (hbr.below hb).more hb.size, hcn⟩
def Fin (w : World) (e : Ending) (w' : World) : Prop := e = .returned (.bool true) ∧ Below w.heap.size w w'
theorem few_le {l : List Ac} {n : Nat} (h : fewB l n = true) : l.length ≤ n ∧ sumA l ≤ 3000 := by
  unfold fewB at h
  simpa using h
set_option maxRecDepth 100000 in
set_option maxHeartbeats 8000000 in
theorem main (A1 A2 A3 : Option Addr) (c1 c2 c3 : Nat) (l m o : List Ac) (w : World)
    (hl : l.length ≤ 9223372036854775807) (hm : m.length ≤ 9223372036854775807) (ho : o.length ≤ 9223372036854775807)
    (hh : hugeA l) (hhm : hugeA m) (hho : hugeA o) (hr : AReads w w.heap.size A1 l) (hrm : AReads w w.heap.size A2 m) (hro : AReads w w.heap.size A3 o)
    (hid : ∀ x ∈ l, (Lit.int .i64 x.id).wf = true) (hidm : ∀ x ∈ m, (Lit.int .i64 x.id).wf = true) (hido : ∀ x ∈ o, (Lit.int .i64 x.id).wf = true)
    (hf : fewB l 30 = true) (hfm : fewB m 15 = true) (hfo : fewB o 15 = true) :
    Calls Try.prog 3 #[.slice A1 l.length c1, .slice A2 m.length c2, .slice A3 o.length c3] w (Fin w) := by
  have HF := Lib.hid (few_any A1 c1 30 l w hl (by omega) hh hr)
  rw [hf] at HF
  have HFM := Lib.hid (fun W (hb : Below w.heap.size w W) => by
    have h := few_any A2 c2 15 m W hm (by omega) hhm (areads_below hrm hb)
    rw [hfm] at h
    exact h)
  have HFO := Lib.hid (fun W (hb : Below w.heap.size w W) => by
    have h := few_any A3 c3 15 o W ho (by omega) hho (areads_below hro hb)
    rw [hfo] at h
    exact h)
  have HL1 := Lib.hid (few_le hf)
  have HL2 := Lib.hid (few_le hfm)
  have HL3 := Lib.hid (few_le hfo)
  have HR1 := Lib.hid hr
  have HR2 := Lib.hid hrm
  have HR3 := Lib.hid hro
  have HI1 := Lib.hid hid
  have HI2 := Lib.hid hidm
  have HI3 := Lib.hid hido
  have HK := Lib.hid (fun W (hW : w.heap.size ≤ W.heap.size) => known_yes w.heap.size W hW)
  have HNW : Hid (∀ W, w.heap.size ≤ W.heap.size → Calls Try.prog 6 #[.int .i64 4] W fun e w' => ∃ bn bm, e = .returned (.pointer (some ⟨bn, 0, none⟩)) ∧ NetAt w.heap.size w' bn bm (max 4 0) 0 [] ∧ Turns [] W w') := Lib.hid (fun W hW => (new_any w.heap.size 4 W hW).mono (fun e w' ⟨h1, h2, h3⟩ => ⟨_, _, h1, h2, h3⟩))
  have HRW : Hid (∀ W, w.heap.size ≤ W.heap.size → Calls Try.prog 7 #[.int .i64 4] W fun e w' => ∃ rn v, e = .returned (.pointer (some ⟨rn, 0, none⟩)) ∧ RefAt w.heap.size w' rn v (max 4 0) 0 [] ∧ Turns [] W w') := Lib.hid (fun W hW => (rnew_any w.heap.size 4 W hW).mono (fun e w' ⟨h1, h2, h3⟩ => ⟨_, _, h1, h2, h3⟩))
  obtain ⟨N1, hN1⟩ : ∃ NN, NN = l.length := ⟨_, rfl⟩
  obtain ⟨N2, hN2⟩ : ∃ NN, NN = m.length := ⟨_, rfl⟩
  obtain ⟨N3, hN3⟩ : ∃ NN, NN = o.length := ⟨_, rfl⟩
  rw [← hN1] at HF ⊢
  rw [← hN2] at HFM ⊢
  rw [← hN3] at HFO ⊢
  have HN1 := Lib.hid hN1
  have HN2 := Lib.hid hN2
  have HN3 := Lib.hid hN3
  clear hl hm ho hh hhm hho hr hrm hro hid hidm hido hf hfm hfo hN1 hN2 hN3
  go_enter Try.func3, Try.ntmps3
  go_wp2_with fail
  refine (Hid.out HF).mono ?_
  rintro e wa ⟨rfl, hba⟩
  have HBa := Lib.hid hba
  have HFMa := Lib.hid (HFM.out _ hba)
  clear HF hba HFM
  go_wp2_with fail
  refine (Hid.out HFMa).mono ?_
  rintro e wb ⟨rfl, hbb⟩
  have HBb := Lib.hid (HBa.out.trans (hbb.mono HBa.out.size))
  have HFOb := Lib.hid (HFO.out _ HBb.out)
  clear HFMa hbb HFO
  go_wp2_with fail
  refine (Hid.out HFOb).mono ?_
  rintro e w1 ⟨rfl, hb1⟩
  have HB1 := Lib.hid (HBb.out.trans (hb1.mono HBb.out.size))
  clear HFOb hb1
  go_wp2_with fail
  refine (HNW.out _ HB1.out.size).mono ?_
  rintro e w2 ⟨bn, bm, rfl, hn2, ht2⟩
  have HNT2 := Lib.hid hn2
  have HB2 := Lib.hid (HB1.out.trans (ht2.below (by simp) HB1.out.size))
  clear HNW hn2 ht2
  go_wp2_with fail
  refine (HRW.out _ HB2.out.size).mono ?_
  rintro e w3 ⟨rn, v, rfl, hr3, ht3⟩
  have HP3 := Lib.hid (play_start (w1 := w) HNT2.out ht3 hr3)
  have HB3 := Lib.hid (HB2.out.trans (ht3.below (by simp) HB2.out.size))
  clear HRW hr3 ht3 HNT2
  go_wp2_with fail
  go_loopw [9] (fun iv wr => ∃ k : Nat, k ≤ N1 ∧ iv = .int .i64 k ∧ Hid (Play w wr bn bm rn 4 k (sumA (l.take k))) ∧ Hid (Below w.heap.size w wr)) (fun iv _ => N1 - (intOf iv).toNat)
  case atStart => exact ⟨0, Nat.zero_le _, rfl, HP3, HB3⟩
  case round =>
    clear HP3 HB3
    obtain ⟨k, hk, rfl, HP, HB⟩ := hrel
    have hn30 : (N1 : Int) ≤ 30 := by have := HL1.out.1; have := HN1.out; omega
    by_cases hlt : k < N1
    · have hlt' : (k : Int) < (N1 : Int) := by omega
      have hk0 : (0 : Int) ≤ (k : Int) := by omega
      obtain ⟨a, ha⟩ : ∃ a, l[k]? = some a := ⟨_, List.getElem?_eq_getElem (by have := HN1.out; omega)⟩
      obtain ⟨g, off, rfl, d0, d1, d2, d3, hbr, hcn⟩ := act_step HR1.out HB.out ha
      have hst := sumA_step ha
      have hle1 := sumA_take_le l k
      have hle3 := HL1.out.2
      have hma := sumA_mem (List.mem_of_getElem? ha)
      have HDO := Lib.hid (fun W (hW : Turns [] wr W) => play_do (HP.out.kept hW) (Nat.le_trans HB.out.size hW.size) (by omega) (by omega) a (HI1.out a (List.mem_of_getElem? ha)) (by omega) (hbr.below (hW.below (by simp) HB.out.size)) hcn)
      rw [← hst] at HDO
      clear hst hle1 hle3 hma hbr hcn ha
      go_wp2_with fail
      refine (HDO.out _ (Turns.refl _ _)).mono ?_
      rintro e w4 ⟨rfl, hp4, hb4⟩
      have HP4 := Lib.hid hp4
      have HB4 := Lib.hid (HB.out.trans hb4)
      clear hp4 hb4 d0 d1 d2 d3 HDO
      go_wp2
      go_roundw
      case rel => exact ⟨k + 1, by omega, by go_num, HP4, HB4⟩
      case measure => simp [intOf] <;> omega
    · obtain rfl : k = N1 := by omega
      have hS1 : sumA (l.take k) ≤ 3000 := by have := sumA_take_le l k; have := HL1.out.2; omega
      obtain ⟨S1, hS⟩ : ∃ S1, S1 = sumA (l.take k) := ⟨_, rfl⟩
      rw [← hS] at HP hS1
      have HS1 := Lib.hid hS1
      have HC := Lib.hid (play_copy HP.out HB.out.size (by omega) (by omega))
      clear hlt hk hS hS1
      go_wp2_with fail
      refine (Hid.out HC).mono ?_
      rintro e w4 ⟨bo, bp, rfl, hm4, hb4⟩
      have HB4 := Lib.hid (HB.out.trans (hb4.mono HB.out.size))
      have HD := Lib.hid (mid_copy hm4 HB4.out.size (by omega) (by have := HS1.out; omega))
      clear hm4 hb4 HC HP
      go_wp2_with fail
      refine (Hid.out HD).mono ?_
      rintro e w5 ⟨ro, rfl, ht5, hb5, hs5, hs6⟩
      have HB5 := Lib.hid (HB4.out.trans (ht5.below (by simp) HB4.out.size))
      have HY := Lib.hid hb5
      have HSA := Lib.hid (hs5 _ (Turns.refl _ _))
      have HSB := Lib.hid hs6
      clear ht5 hb5 hs5 hs6 HD
      go_wp2_with fail
      refine (Hid.out HSA).mono ?_
      rintro e w6 ⟨rfl, hb6⟩
      have HB6 := Lib.hid (HB5.out.trans (hb6.mono HB5.out.size))
      have HY6 := Lib.hid (HY.out.below hb6)
      have HSB6 := Lib.hid (HSB.out _ (Turns.of_below hb6 (Nat.le_refl _)))
      clear hb6 HSA HSB HY
      go_wp2_with fail
      refine (Hid.out HSB6).mono ?_
      rintro e w7 ⟨rfl, hb7⟩
      have HB7 := Lib.hid (HB6.out.trans (hb7.mono HB6.out.size))
      have HY7 := Lib.hid (HY6.out.below hb7)
      clear hb7 HSB6 HY6 HB HB4 HB5 HB6
      go_wp2
      go_loopw [12] (fun iv wr => ∃ j : Nat, j ≤ N2 ∧ iv = .int .i64 j ∧ Hid (Both w wr bn bm rn bo bp ro (k + j) (S1 + sumA (m.take j)) k S1) ∧ Hid (Below w.heap.size w wr)) (fun iv _ => N2 - (intOf iv).toNat)
      case atStart => exact ⟨0, Nat.zero_le _, rfl, by simpa [sumA] using HY7, HB7⟩
      case round =>
        clear HY7 HB7
        obtain ⟨j, hj, rfl, HY, HB⟩ := hrel
        have hn15 : (N2 : Int) ≤ 15 := by have := HL2.out.1; have := HN2.out; omega
        by_cases hlt : j < N2
        · have hlt' : (j : Int) < (N2 : Int) := by omega
          have hk0 : (0 : Int) ≤ (j : Int) := by omega
          obtain ⟨a, ha⟩ : ∃ a, m[j]? = some a := ⟨_, List.getElem?_eq_getElem (by have := HN2.out; omega)⟩
          obtain ⟨g, off, rfl, d0, d1, d2, d3, hbr, hcn⟩ := act_step HR2.out HB.out ha
          have hst := sumA_step ha
          have hle1 := sumA_take_le m j
          have hle3 := HL2.out.2
          have hs1 := HS1.out
          have hma := sumA_mem (List.mem_of_getElem? ha)
          have HDO := Lib.hid (fun W (hW : Turns [] wr W) => both_do (HY.out.kept hW) (Nat.le_trans HB.out.size hW.size) (by omega) (by omega) a (HI2.out a (List.mem_of_getElem? ha)) (by omega) (hbr.below (hW.below (by simp) HB.out.size)) hcn)
          rw [Nat.add_assoc S1, ← hst, Nat.add_assoc k] at HDO
          clear hst hle1 hle3 hma hbr hcn ha hs1
          go_wp2_with fail
          refine (HDO.out _ (Turns.refl _ _)).mono ?_
          rintro e w4 ⟨rfl, hp4, hb4⟩
          have HP4 := Lib.hid hp4
          have HB4 := Lib.hid (HB.out.trans hb4)
          clear hp4 hb4 d0 d1 d2 d3 HDO
          go_wp2
          go_roundw
          case rel => exact ⟨j + 1, by omega, by go_num, HP4, HB4⟩
          case measure => simp [intOf] <;> omega
        · obtain rfl : j = N2 := by omega
          have hS2 : sumA (m.take j) ≤ 3000 := by have := sumA_take_le m j; have := HL2.out.2; omega
          obtain ⟨S2, hS⟩ : ∃ S2, S2 = S1 + sumA (m.take j) := ⟨_, rfl⟩
          rw [← hS] at HY
          have HS2 : Hid (S2 ≤ 6000) := Lib.hid (by have := HS1.out; omega)
          obtain ⟨K2, hK2⟩ : ∃ K2, K2 = k + j := ⟨_, rfl⟩
          rw [← hK2] at HY
          have HK2 : Hid (K2 ≤ 45) := Lib.hid (by omega)
          clear hlt hj hS hS2 hK2
          go_wp2
          go_loopw [13] (fun iv wr => ∃ i : Nat, i ≤ N3 ∧ iv = .int .i64 i ∧ Hid (Both w wr bo bp ro bn bm rn (k + i) (S1 + sumA (o.take i)) K2 S2) ∧ Hid (Below w.heap.size w wr)) (fun iv _ => N3 - (intOf iv).toNat)
          case atStart => exact ⟨0, Nat.zero_le _, rfl, by simpa [sumA] using Lib.hid HY.out.symm, HB⟩
          case round =>
            clear HY HB
            obtain ⟨i, hi, rfl, HY, HB⟩ := hrel
            have hn15' : (N3 : Int) ≤ 15 := by have := HL3.out.1; have := HN3.out; omega
            by_cases hlt : i < N3
            · have hlt' : (i : Int) < (N3 : Int) := by omega
              have hk0 : (0 : Int) ≤ (i : Int) := by omega
              obtain ⟨a, ha⟩ : ∃ a, o[i]? = some a := ⟨_, List.getElem?_eq_getElem (by have := HN3.out; omega)⟩
              obtain ⟨g, off, rfl, d0, d1, d2, d3, hbr, hcn⟩ := act_step HR3.out HB.out ha
              have hst := sumA_step ha
              have hle1 := sumA_take_le o i
              have hle3 := HL3.out.2
              have hs1 := HS1.out
              have hma := sumA_mem (List.mem_of_getElem? ha)
              have HDO := Lib.hid (fun W (hW : Turns [] wr W) => both_do (HY.out.kept hW) (Nat.le_trans HB.out.size hW.size) (by omega) (by omega) a (HI3.out a (List.mem_of_getElem? ha)) (by omega) (hbr.below (hW.below (by simp) HB.out.size)) hcn)
              rw [Nat.add_assoc S1, ← hst, Nat.add_assoc k] at HDO
              clear hst hle1 hle3 hma hbr hcn ha hs1
              go_wp2_with fail
              refine (HDO.out _ (Turns.refl _ _)).mono ?_
              rintro e w4 ⟨rfl, hp4, hb4⟩
              have HP4 := Lib.hid hp4
              have HB4 := Lib.hid (HB.out.trans hb4)
              clear hp4 hb4 d0 d1 d2 d3 HDO
              go_wp2
              go_roundw
              case rel => exact ⟨i + 1, by omega, by go_num, HP4, HB4⟩
              case measure => simp [intOf] <;> omega
            · obtain rfl : i = N3 := by omega
              have hS3 : sumA (o.take i) ≤ 3000 := by have := sumA_take_le o i; have := HL3.out.2; omega
              obtain ⟨S3, hS⟩ : ∃ S3, S3 = S1 + sumA (o.take i) := ⟨_, rfl⟩
              rw [← hS] at HY
              have HS3 : Hid (S3 ≤ 6000) := Lib.hid (by have := HS1.out; omega)
              obtain ⟨K3, hK3⟩ : ∃ K3, K3 = k + i := ⟨_, rfl⟩
              rw [← hK3] at HY
              have HK3 : Hid (K3 ≤ 45) := Lib.hid (by omega)
              obtain ⟨al, hA1, hA2, hA3⟩ := both_alike HY.out.symm (by have := HK2.out; omega) (by have := HS2.out; omega) (by have := HK3.out; omega) (by have := HS3.out; omega)
              have HA1 := Lib.hid (hA1 _ (Turns.refl _ _))
              have HA2 := Lib.hid hA2
              have HA3 := Lib.hid hA3
              clear hlt hi hS hS3 hK3 hA1 hA2 hA3
              go_wp2_with fail
              refine (Hid.out HA1).mono ?_
              rintro e x1 ⟨rfl, ht1⟩
              have HT1 := Lib.hid ht1
              have HB1 := Lib.hid (HB.out.trans (ht1.below (by simp) HB.out.size))
              have HY1 := Lib.hid (HY.out.kept ht1)
              have HS := Lib.hid (both_same HY1.out.symm (by have := HK2.out; omega) (by have := HS2.out; omega) 0)
              clear ht1 HA1
              go_wp2_with fail
              refine (Hid.out HS).mono ?_
              rintro e x2 ⟨rfl, hb2⟩
              have HT2 := Lib.hid (HT1.out.trans (Turns.of_below hb2 (Nat.le_refl _)) (by simp))
              have HB2 := Lib.hid (HB1.out.trans (hb2.mono HB1.out.size))
              have HY2 := Lib.hid (HY1.out.below hb2)
              have HSS := Lib.hid (both_same HY2.out (by have := HK3.out; omega) (by have := HS3.out; omega) 0)
              clear hb2 HS HY1 HT1
              go_wp2_with fail
              refine (Hid.out HSS).mono ?_
              rintro e x3 ⟨rfl, hb3⟩
              have HT3 := Lib.hid (HT2.out.trans (Turns.of_below hb3 (Nat.le_refl _)) (by simp))
              have HB3 := Lib.hid (HB2.out.trans (hb3.mono HB2.out.size))
              have HA2' := Lib.hid (HA2.out _ HT3.out)
              clear hb3 HSS HY2 HT2 HA2
              go_wp2_with fail
              refine (Hid.out HA2').mono ?_
              rintro e x4 ⟨rfl, hb4⟩
              have HT4 := Lib.hid (HT3.out.trans (Turns.of_below hb4 (Nat.le_refl _)) (by simp))
              have HB4 := Lib.hid (HB3.out.trans (hb4.mono HB3.out.size))
              have HA3' := Lib.hid (HA3.out _ HT4.out)
              clear hb4 HT3 HA2' HA3
              go_wp2_with fail
              refine (Hid.out HA3').mono ?_
              rintro e x5 ⟨rfl, hb5⟩
              have HB5 := Lib.hid (HB4.out.trans (hb5.mono HB4.out.size))
              have HK5 := Lib.hid (HK.out _ HB5.out.size)
              clear hb5 HT4 HA3'
              go_wp2_with fail
              refine (Hid.out HK5).mono ?_
              rintro e x6 ⟨rfl, hb6⟩
              have HB6 := Lib.hid (HB5.out.trans hb6)
              clear hb6
              go_wp2
              go_ret
              exact ⟨rfl, HB6.out⟩
set_option maxRecDepth 100000 in
set_option maxHeartbeats 2000000 in
theorem early1 (A1 A2 A3 : Option Addr) (c1 c2 c3 : Nat) (l m o : List Ac) (w : World)
    (hl : l.length ≤ 9223372036854775807) (hm : m.length ≤ 9223372036854775807) (ho : o.length ≤ 9223372036854775807)
    (hh : hugeA l) (hhm : hugeA m) (hho : hugeA o) (hr : AReads w w.heap.size A1 l) (hrm : AReads w w.heap.size A2 m) (hro : AReads w w.heap.size A3 o)
    (hf : fewB l 30 = false) :
    Calls Try.prog 3 #[.slice A1 l.length c1, .slice A2 m.length c2, .slice A3 o.length c3] w (Fin w) := by
  have HF := Lib.hid (few_any A1 c1 30 l w hl (by omega) hh hr)
  rw [hf] at HF
  have HFM := Lib.hid (fun W (hb : Below w.heap.size w W) => few_any A2 c2 15 m W hm (by omega) hhm (areads_below hrm hb))
  have HFO := Lib.hid (fun W (hb : Below w.heap.size w W) => few_any A3 c3 15 o W ho (by omega) hho (areads_below hro hb))
  clear hf
  have HK := Lib.hid (fun W (hW : w.heap.size ≤ W.heap.size) => known_yes w.heap.size W hW)
  obtain ⟨N1, hN1⟩ : ∃ NN, NN = l.length := ⟨_, rfl⟩
  obtain ⟨N2, hN2⟩ : ∃ NN, NN = m.length := ⟨_, rfl⟩
  obtain ⟨N3, hN3⟩ : ∃ NN, NN = o.length := ⟨_, rfl⟩
  rw [← hN1] at HF ⊢
  rw [← hN2] at HFM ⊢
  rw [← hN3] at HFO ⊢
  clear hl hm ho hh hhm hho hr hrm hro hN1 hN2 hN3
  go_enter Try.func3, Try.ntmps3
  go_wp2_with fail
  refine (Hid.out HF).mono ?_
  rintro e wa ⟨rfl, hba⟩
  have HBa := Lib.hid hba
  have HFMa := Lib.hid (HFM.out _ hba)
  clear HF hba HFM
  have HKe := Lib.hid (HK.out _ HBa.out.size)
  go_wp2_with fail
  refine (Hid.out HKe).mono ?_
  rintro e we ⟨rfl, hbe⟩
  have HBe := Lib.hid (HBa.out.trans hbe)
  clear hbe
  go_wp2
  go_ret
  exact ⟨rfl, HBe.out⟩
set_option maxRecDepth 100000 in
set_option maxHeartbeats 2000000 in
theorem early2 (A1 A2 A3 : Option Addr) (c1 c2 c3 : Nat) (l m o : List Ac) (w : World)
    (hl : l.length ≤ 9223372036854775807) (hm : m.length ≤ 9223372036854775807) (ho : o.length ≤ 9223372036854775807)
    (hh : hugeA l) (hhm : hugeA m) (hho : hugeA o) (hr : AReads w w.heap.size A1 l) (hrm : AReads w w.heap.size A2 m) (hro : AReads w w.heap.size A3 o)
    (hf : fewB l 30 = true) (hfm : fewB m 15 = false) :
    Calls Try.prog 3 #[.slice A1 l.length c1, .slice A2 m.length c2, .slice A3 o.length c3] w (Fin w) := by
  have HF := Lib.hid (few_any A1 c1 30 l w hl (by omega) hh hr)
  rw [hf] at HF
  have HFM := Lib.hid (fun W (hb : Below w.heap.size w W) => few_any A2 c2 15 m W hm (by omega) hhm (areads_below hrm hb))
  have HFO := Lib.hid (fun W (hb : Below w.heap.size w W) => few_any A3 c3 15 o W ho (by omega) hho (areads_below hro hb))
  have HFM := Lib.hid (fun W (hb : Below w.heap.size w W) => by
    have h := HFM.out W hb
    rw [hfm] at h
    exact h)
  clear hf hfm
  have HK := Lib.hid (fun W (hW : w.heap.size ≤ W.heap.size) => known_yes w.heap.size W hW)
  obtain ⟨N1, hN1⟩ : ∃ NN, NN = l.length := ⟨_, rfl⟩
  obtain ⟨N2, hN2⟩ : ∃ NN, NN = m.length := ⟨_, rfl⟩
  obtain ⟨N3, hN3⟩ : ∃ NN, NN = o.length := ⟨_, rfl⟩
  rw [← hN1] at HF ⊢
  rw [← hN2] at HFM ⊢
  rw [← hN3] at HFO ⊢
  clear hl hm ho hh hhm hho hr hrm hro hN1 hN2 hN3
  go_enter Try.func3, Try.ntmps3
  go_wp2_with fail
  refine (Hid.out HF).mono ?_
  rintro e wa ⟨rfl, hba⟩
  have HBa := Lib.hid hba
  have HFMa := Lib.hid (HFM.out _ hba)
  clear HF hba HFM
  go_wp2_with fail
  refine (Hid.out HFMa).mono ?_
  rintro e wb ⟨rfl, hbb⟩
  have HBb := Lib.hid (HBa.out.trans (hbb.mono HBa.out.size))
  have HFOb := Lib.hid (HFO.out _ HBb.out)
  clear HFMa hbb HFO
  have HKe := Lib.hid (HK.out _ HBb.out.size)
  go_wp2_with fail
  refine (Hid.out HKe).mono ?_
  rintro e we ⟨rfl, hbe⟩
  have HBe := Lib.hid (HBb.out.trans hbe)
  clear hbe
  go_wp2
  go_ret
  exact ⟨rfl, HBe.out⟩
set_option maxRecDepth 100000 in
set_option maxHeartbeats 2000000 in
theorem early3 (A1 A2 A3 : Option Addr) (c1 c2 c3 : Nat) (l m o : List Ac) (w : World)
    (hl : l.length ≤ 9223372036854775807) (hm : m.length ≤ 9223372036854775807) (ho : o.length ≤ 9223372036854775807)
    (hh : hugeA l) (hhm : hugeA m) (hho : hugeA o) (hr : AReads w w.heap.size A1 l) (hrm : AReads w w.heap.size A2 m) (hro : AReads w w.heap.size A3 o)
    (hf : fewB l 30 = true) (hfm : fewB m 15 = true) (hfo : fewB o 15 = false) :
    Calls Try.prog 3 #[.slice A1 l.length c1, .slice A2 m.length c2, .slice A3 o.length c3] w (Fin w) := by
  have HF := Lib.hid (few_any A1 c1 30 l w hl (by omega) hh hr)
  rw [hf] at HF
  have HFM := Lib.hid (fun W (hb : Below w.heap.size w W) => few_any A2 c2 15 m W hm (by omega) hhm (areads_below hrm hb))
  have HFO := Lib.hid (fun W (hb : Below w.heap.size w W) => few_any A3 c3 15 o W ho (by omega) hho (areads_below hro hb))
  have HFM := Lib.hid (fun W (hb : Below w.heap.size w W) => by
    have h := HFM.out W hb
    rw [hfm] at h
    exact h)
  have HFO := Lib.hid (fun W (hb : Below w.heap.size w W) => by
    have h := HFO.out W hb
    rw [hfo] at h
    exact h)
  clear hf hfm hfo
  have HK := Lib.hid (fun W (hW : w.heap.size ≤ W.heap.size) => known_yes w.heap.size W hW)
  obtain ⟨N1, hN1⟩ : ∃ NN, NN = l.length := ⟨_, rfl⟩
  obtain ⟨N2, hN2⟩ : ∃ NN, NN = m.length := ⟨_, rfl⟩
  obtain ⟨N3, hN3⟩ : ∃ NN, NN = o.length := ⟨_, rfl⟩
  rw [← hN1] at HF ⊢
  rw [← hN2] at HFM ⊢
  rw [← hN3] at HFO ⊢
  clear hl hm ho hh hhm hho hr hrm hro hN1 hN2 hN3
  go_enter Try.func3, Try.ntmps3
  go_wp2_with fail
  refine (Hid.out HF).mono ?_
  rintro e wa ⟨rfl, hba⟩
  have HBa := Lib.hid hba
  have HFMa := Lib.hid (HFM.out _ hba)
  clear HF hba HFM
  go_wp2_with fail
  refine (Hid.out HFMa).mono ?_
  rintro e wb ⟨rfl, hbb⟩
  have HBb := Lib.hid (HBa.out.trans (hbb.mono HBa.out.size))
  have HFOb := Lib.hid (HFO.out _ HBb.out)
  clear HFMa hbb HFO
  go_wp2_with fail
  refine (Hid.out HFOb).mono ?_
  rintro e w1 ⟨rfl, hb1⟩
  have HBc := Lib.hid (HBb.out.trans (hb1.mono HBb.out.size))
  clear HFOb hb1
  have HKe := Lib.hid (HK.out _ HBc.out.size)
  go_wp2_with fail
  refine (Hid.out HKe).mono ?_
  rintro e we ⟨rfl, hbe⟩
  have HBe := Lib.hid (HBc.out.trans hbe)
  clear hbe
  go_wp2
  go_ret
  exact ⟨rfl, HBe.out⟩
end netCopies
end Go.Proofs.Ytlelemjmknbnaaa

namespace Go.Proofs.Ytlelemjmknbnaaa
open Go.ChangeShapes Go.WideShapes Go.ChangeAt Go.RowKit Go.Deep

theorem mem_weightsAll2 {H : Type} {P : Program} {e : TypeId} {n : Nat} : ∀ {ds : List (DataW H)} {d : DataW H}, d ∈ ds → n ∈ d.weights P e → n ∈ DataW.weightsAll P e ds
  | x :: ds, d, hd, hn => by
    unfold DataW.weightsAll
    rw [List.mem_append]
    rcases List.mem_cons.1 hd with rfl | h
    · exact .inl hn
    · exact .inr (mem_weightsAll2 h hn)
theorem act_weights {H : Type} (d0 d1 d2 d3 : DataW H) : (DataW.agg [d0, d1, d2, d3] : DataW H).weights Try.prog 32 = d0.weights Try.prog 3 ++ (d1.weights Try.prog 3 ++ (d2.weights Try.prog 9 ++ (d3.weights Try.prog 30 ++ []))) := by
  simp [DataW.weights, Try.underlying32, DataW.weightsEach]
theorem u8_bytes : Try.prog.bytesOf 5 = 1 := by kernel_rfl
theorem slice_of2 {H : Type} {enc : TypeId × Value → H} {W : World} {n : Nat} {c3 : Value} {y : DataW H × List MemPlace} (h : DataW.trod enc Try.prog W 0 (fun _ => true) true n 30 [c3] = some y) :
    ∃ (A : Option Addr) (l : List UInt8) (c : Nat), c3 = .slice A l.length c ∧ BReads W W.heap.size A l ∧ (A = none → c = 0) ∧ (l.length = 0 ∨ ∃ q ∈ y.1.weights Try.prog 30, l.length ≤ q) := by
  obtain ⟨A, l, c, h1, h2, h3⟩ := slice_of h
  refine ⟨A, l, c, h1, h2, h3, ?_⟩
  rcases open_slice Try.underlying30 h with ⟨e, _⟩ | ⟨a, len, cap, m, n', D, Pl, e, _, hl, _, hm, hy, _⟩
  · left
    rw [h1] at e
    simp at e
    simp [e]
  · right
    rw [h1] at e
    simp at e
    refine ⟨_, by rw [hy]; simp only [DataW.weights, Try.underlying30]; exact List.mem_cons_self .., ?_⟩
    rw [u8_bytes]
    simp
    omega
set_option maxRecDepth 100000 in
theorem open_acts2 {H : Type} {enc : TypeId × Value → H} {W : World} {a : Option Addr} {len cap : Nat} {d : DataW H} {p : List MemPlace}
    (h : DataW.Trod enc Try.prog W 0 (fun _ => true) true 22 (.slice a len cap) d p) :
    ∃ l : List Ac, l.length = len ∧ len ≤ maxLen ∧ AReads W W.heap.size a l ∧ ∀ x ∈ l, (Lit.int .i64 x.id).wf = true ∧ x.host.size ∈ d.weights Try.prog 22 ∧ (x.b.length = 0 ∨ ∃ n ∈ d.weights Try.prog 22, x.b.length ≤ n) := by
  obtain ⟨fuel, hf⟩ := h
  rcases open_slice Try.underlying22 hf with ⟨hcs, _⟩ | ⟨x, ln, c, m, n, D, Pl, hcs, _, hl, hm, hmm, hx, hi⟩
  · simp [Value.cells] at hcs
    obtain ⟨rfl, rfl, rfl⟩ := hcs
    exact ⟨[], rfl, Nat.zero_le _, .inl rfl, fun x hx => by cases hx⟩
  · simp [Value.cells] at hcs
    obtain ⟨rfl, rfl, rfl⟩ := hcs
    have hmc : m = cap := by simpa using hmm
    subst hmc
    have each : ∀ i, i < m → ∃ y : Ac, (W.cell? (x.add (i * 4)) = some (.int .i64 y.kind) ∧ W.cell? (x.add (i * 4 + 1)) = some (.int .i64 y.id) ∧ W.cell? (x.add (i * 4 + 2)) = some (.string y.host) ∧ W.cell? (x.add (i * 4 + 3)) = some (.slice y.A y.b.length y.c)) ∧ BReads W W.heap.size y.A y.b ∧ (y.A = none → y.c = 0) ∧ (Lit.int .i64 y.id).wf = true ∧ y.host.size ∈ (D i).weights Try.prog 32 ∧ (y.b.length = 0 ∨ ∃ n ∈ (D i).weights Try.prog 32, y.b.length ≤ n) := fun i him => by
      obtain ⟨cs', h1, h2⟩ := hi i him
      rw [cells_act] at h1
      obtain ⟨_, hlen, hcell⟩ := World.cells?_some h1
      obtain ⟨y0, y1, y2, y3, n', hD, _, t0, t1, t2, t3⟩ := Go.Joins.trod_struct4 Try.underlying32 h2
      obtain ⟨c0, c1, c2, c3, rfl⟩ := list4 hlen
      simp only [cells_i, cells_s, cells_b] at t0 t1 t2 t3
      obtain ⟨k0, e0, _, _⟩ := DataW.trod_int Try.underlying3 t0
      obtain ⟨k1, e1, _, w1⟩ := DataW.trod_int Try.underlying3 t1
      obtain ⟨s2, e2, g2, _⟩ := DataW.trod_string Try.underlying9 t2
      obtain ⟨A, l, c, e3, hr, hn, hw3⟩ := slice_of2 (c3 := c3) (by simpa using t3)
      have hD' : D i = .agg [y0.1, y1.1, y2.1, y3.1] := (Prod.mk.inj hD).1
      have g2' : y2.1 = .lit (.string s2.data.toList) := by rw [g2]
      have hWh : s2.size ∈ (D i).weights Try.prog 32 := by
        rw [hD', act_weights, g2', Lib.size_eq]
        simp [DataW.weights]
      have hWb : l.length = 0 ∨ ∃ n ∈ (D i).weights Try.prog 32, l.length ≤ n := by
        rcases hw3 with h0 | ⟨q, h3, h4⟩
        · exact .inl h0
        · refine .inr ⟨q, ?_, h4⟩
          rw [hD', act_weights]
          simp [h3]
      have q0 := hcell 0 (by omega)
      have q1 := hcell 1 (by omega)
      have q2 := hcell 2 (by omega)
      have q3 := hcell 3 (by omega)
      simp at e0 e1 e2
      subst e0 e1 e2 e3
      rw [add_add] at q0 q1 q2 q3
      exact ⟨⟨k0, k1, s2, A, l, c⟩, ⟨by simpa using q0, by simpa using q1, by simpa using q2, by simpa using q3⟩, hr, hn, w1, hWh, hWb⟩
    obtain ⟨Y, hY⟩ := choose_lt each
    refine ⟨(List.range len).map Y, by simp, Nat.le_trans hl hm, ?_, fun z hz => ?_⟩
    · rcases Nat.eq_zero_or_pos len with h0 | h0
      · subst h0
        exact .inl rfl
      · obtain ⟨b, off, spot⟩ := x
        have h1 := (hY 0 (by omega)).1.1
        obtain rfl : spot = none := by simpa [Addr.add] using World.cell?_spot h1
        have hb : b < W.heap.size := by
          have := World.block_lt_of_cell? _ _ h1
          simpa [Addr.add] using this
        refine .inr ⟨b, off, rfl, hb, fun j q hj => ?_⟩
        have hjl : j < len := by
          have := (List.getElem?_eq_some_iff.1 hj).1
          simpa using this
        have e : q = Y j := by
          simp [hjl] at hj
          exact hj.symm
        subst e
        obtain ⟨⟨c0, c1, c2, c3⟩, hr, hn, _, _, _⟩ := hY j (by omega)
        rw [add_plain'] at c0 c1 c2 c3
        exact ⟨⟨c0, by rw [Nat.add_assoc]; exact c1, by rw [Nat.add_assoc]; exact c2, by rw [Nat.add_assoc]; exact c3⟩, hr, hn⟩
    · obtain ⟨i, hin, rfl⟩ := List.mem_map.1 hz
      have hil := List.mem_range.1 hin
      obtain ⟨_, _, _, hwf, hh, hb⟩ := hY i (by omega)
      have hd : D i ∈ (List.range len).map D := List.mem_map.2 ⟨i, hin, rfl⟩
      have hx1 := (Prod.mk.inj hx).1
      have up : ∀ q, q ∈ (D i).weights Try.prog 32 → q ∈ d.weights Try.prog 22 := fun q hq => by
        rw [hx1]
        simp only [DataW.weights, Try.underlying22, List.mem_cons, List.mem_append]
        exact .inr (.inl (mem_weightsAll2 hd hq))
      refine ⟨hwf, up _ hh, ?_⟩
      rcases hb with h0 | ⟨n, h1, h2⟩
      · exact .inl h0
      · exact .inr ⟨n, up _ h1, h2⟩


theorem huge_of {H : Type} {enc : TypeId × Value → H} {W : World} {ds : List (DataW H)} {ts : List TypeId} {j : Nat} {d : DataW H} {l : List Ac} (hsz : (DataW.weightsEach Try.prog ts ds).all (· ≤ reachBytes) = true) (ht : ts[j]? = some 22) (hd : ds[j]? = some d)
    (hx : ∀ x ∈ l, (Lit.int .i64 x.id).wf = true ∧ x.host.size ∈ d.weights Try.prog 22 ∧ (x.b.length = 0 ∨ ∃ n ∈ d.weights Try.prog 22, x.b.length ≤ n)) : hugeA l := fun x hxl => by
  obtain ⟨_, e1, e2⟩ := hx x hxl
  have f1 := List.all_eq_true.1 hsz _ (DataW.weights_mem_each (j := j) (t := 22) ht hd _ e1)
  unfold reachBytes at f1 hsz
  simp only [decide_eq_true_eq] at f1
  rcases e2 with e2 | ⟨q, e3, e4⟩
  · omega
  · have f2 := List.all_eq_true.1 hsz _ (DataW.weights_mem_each (j := j) (t := 22) ht hd _ e3)
    simp only [decide_eq_true_eq] at f2
    omega
namespace netCopies
theorem own : ownKnob Try.prog.godebug = none := by kernel_rfl
theorem laidOut : laidOutB Try.prog = true := by kernel_rfl
theorem law (A1 A2 A3 : Option Addr) (c1 c2 c3 : Nat) (l m o : List Ac) (w : World)
    (hl : l.length ≤ maxLen) (hm : m.length ≤ maxLen) (ho : o.length ≤ maxLen)
    (hh : hugeA l) (hhm : hugeA m) (hho : hugeA o) (hr : AReads w w.heap.size A1 l) (hrm : AReads w w.heap.size A2 m) (hro : AReads w w.heap.size A3 o)
    (hid : ∀ x ∈ l, (Lit.int .i64 x.id).wf = true) (hidm : ∀ x ∈ m, (Lit.int .i64 x.id).wf = true) (hido : ∀ x ∈ o, (Lit.int .i64 x.id).wf = true) :
    Calls Try.prog 3 #[.slice A1 l.length c1, .slice A2 m.length c2, .slice A3 o.length c3] w (Fin w) := by
  unfold maxLen at hl hm ho
  cases hf : fewB l 30 with
  | false => exact early1 A1 A2 A3 c1 c2 c3 l m o w (by omega) (by omega) (by omega) hh hhm hho hr hrm hro hf
  | true =>
    cases hfm : fewB m 15 with
    | false => exact early2 A1 A2 A3 c1 c2 c3 l m o w (by omega) (by omega) (by omega) hh hhm hho hr hrm hro hf hfm
    | true =>
      cases hfo : fewB o 15 with
      | false => exact early3 A1 A2 A3 c1 c2 c3 l m o w (by omega) (by omega) (by omega) hh hhm hho hr hrm hro hf hfm hfo
      | true => exact main A1 A2 A3 c1 c2 c3 l m o w (by omega) (by omega) (by omega) hh hhm hho hr hrm hro hid hidm hido hf hfm hfo

set_option maxRecDepth 100000 in
theorem lifted (os : Os) (started : os.Started) (H : Type) (enc : TypeId × Value → H) :
    ReturnsInHanded {} Try.checked os 3 .any (Rows.netCopiesSpec.pre6 enc Try.prog Try.f3 Rows.netCopiesRow.domain false) (Rows.netCopiesSpec.post enc Try.prog Try.f3 false true false false) := by
  refine returnsInHanded_of_change_shaped (C := Try.checked) own started (by kernel_rfl) Try.func3
    (ChangeSpec.witness6 (enc := enc) (C := Try.checked) false ⟨#[], #[.slice none 0 0, .slice none 0 0, .slice none 0 0], []⟩ 8 (by kernel_rfl) (by kernel_rfl) (by kernel_rfl) (by kernel_rfl)) ?_
  intro W base args ds gs before hval0 hW hcnd hsz0 hsh _
  have hval : ∀ (j : Nat) t v, Try.f3.params[j]? = some t → args[j]? = some v → Value.okWide Try.prog W .any base t v := hval0
  have hsz : (DataW.weightsEach Try.prog (Try.f3.params.toList ++ Rows.netCopiesSpec.plain.varTypes Try.prog) (ds ++ gs)).all (· ≤ reachBytes) = true := hsz0
  have hW' := hW
  obtain ⟨p, q, hA0, hV, rfl, hfz, hnd⟩ := hW
  have hA : DataW.TrodAll enc Try.prog W 0 (fun _ => true) true Try.f3.params.toList args.toList ds p := hA0
  rw [Try.params3] at hA hval hsz
  obtain ⟨v0, vs0, d0, ds0, p0, q0, hargs, rfl, rfl, h0, r0⟩ := trodAll_cons hA
  obtain ⟨v1, vs1, d1, ds1, p1, q1, rfl, rfl, rfl, h1, r1⟩ := trodAll_cons r0
  obtain ⟨v2, vs2, d2, ds2, p2, q2, rfl, rfl, rfl, h2, r2⟩ := trodAll_cons r1
  obtain ⟨rfl, rfl, rfl⟩ := trodAll_nil r2
  obtain rfl : args = #[v0, v1, v2] := by cases args; simp_all
  obtain ⟨rfl, rfl⟩ := trodVars_none hV
  obtain ⟨a0, len0, cap0, rfl⟩ := okWide_slice Try.underlying22 (hval 0 22 v0 rfl rfl)
  obtain ⟨a1, len1, cap1, rfl⟩ := okWide_slice Try.underlying22 (hval 1 22 v1 rfl rfl)
  obtain ⟨a2, len2, cap2, rfl⟩ := okWide_slice Try.underlying22 (hval 2 22 v2 rfl rfl)
  have k0 := h0
  have k1 := h1
  have k2 := h2
  have lt0 : ∀ x ∈ p0, x.block < W.heap.size := by obtain ⟨m, hm⟩ := k0; exact DataW.trod_lt m _ _ _ hm
  have lt1 : ∀ x ∈ p1, x.block < W.heap.size := by obtain ⟨m, hm⟩ := k1; exact DataW.trod_lt m _ _ _ hm
  have lt2 : ∀ x ∈ p2, x.block < W.heap.size := by obtain ⟨m, hm⟩ := k2; exact DataW.trod_lt m _ _ _ hm
  obtain ⟨l, rfl, hm0, hr0, hx0⟩ := open_acts2 h0
  obtain ⟨m, rfl, hm1, hr1, hx1⟩ := open_acts2 h1
  obtain ⟨o, rfl, hm2, hr2, hx2⟩ := open_acts2 h2
  have hh0 := huge_of (enc := enc) (W := W) (j := 0) hsz rfl rfl hx0
  have hh1 := huge_of (enc := enc) (W := W) (j := 1) hsz rfl rfl hx1
  have hh2 := huge_of (enc := enc) (W := W) (j := 2) hsz rfl rfl hx2
  clear hA0 hval0 hsz0
  refine (law a0 a1 a2 cap0 cap1 cap2 l m o W hm0 hm1 hm2 hh0 hh1 hh2 hr0 hr1 hr2 (fun x hxl => (hx0 x hxl).1) (fun x hxl => (hx1 x hxl).1) (fun x hxl => (hx2 x hxl).1)).mono fun e W' ⟨he, bel⟩ => ?_
  subst he
  exact ⟨_, rfl, _, _, _, [], _, [], hW', trodAll_mk1 (shut_bool Try.underlying4 _), (trodAll_cons_mk (Below.trod laidOut (by kernel_rfl) (of_decide_eq_true (by kernel_rfl)) k0 bel lt0) (trodAll_cons_mk (Below.trod laidOut (by kernel_rfl) (of_decide_eq_true (by kernel_rfl)) k1 bel lt1) (trodAll_cons_mk (Below.trod laidOut (by kernel_rfl) (of_decide_eq_true (by kernel_rfl)) k2 bel lt2) trodAll_mk0))), rfl, bel.frame _, fun h => by cases h⟩

theorem holds : Rows.NetCopiesSaid :=
  OpenClaim.holds_of_wide 3 Try.f3 rfl rfl rfl rfl rfl rfl rfl ⟨rfl, rfl, rfl, rfl, rfl⟩ rfl rfl rfl rfl rfl (by kernel_rfl) Try.func3 (by kernel_rfl)
    (of_decide_eq_true (by kernel_rfl)) (by unfold Func.isWrapper; first | (rw [if_pos (by decide +kernel)]; kernel_rfl) | (rw [if_neg (by decide +kernel)]; exact ⟨rfl, rfl⟩))
    (fun os started H enc _ => lifted os started H enc)
#print axioms holds
end netCopies
end Go.Proofs.Ytlelemjmknbnaaa
