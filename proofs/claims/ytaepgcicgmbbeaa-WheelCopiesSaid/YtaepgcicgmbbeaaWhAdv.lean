/- The program's Advance. -/
import Derived.Test.YtaepgcicgmbbeaaWhReachW
namespace Go.Proofs.Ytaepgcicgmbbeaa
open Go.RowKit

/-- What Advance leaves: what it tells is a slice of its own, apart from the wheel. -/
def AdvP (B : Nat) (w : World) (bw : Nat) (T' : Int) (L' : List Fi) (F : List Nat) (l : List Fi) (e : Ending) (w' : World) : Prop :=
  ∃ v, e = .returned v ∧ fK.Own w.heap.size w' v l ∧ WhAt B w' bw T' L' F ∧ Turns F w w'
theorem WhAt.setNow {B : Nat} {w : World} {bw : Nat} {T : Int} {L : List Fi} {F : List Nat} (h : WhAt B w bw T L F) (T' : Int) : WhAt B (w.setCell ⟨bw, 0, none⟩ (.int .i64 T')) bw T' L F := by
  obtain ⟨h1, h2, h3⟩ := h
  have ht : Turns [bw] w (w.setCell ⟨bw, 0, none⟩ (.int .i64 T')) := Turns.setCell _ _ _ (List.mem_singleton.2 rfl)
  refine ⟨fun i hi => ⟨(h1 i hi).1, Nat.lt_of_lt_of_le (h1 i hi).2 ht.size⟩, h2, ?_⟩
  rcases h3 with ⟨h3, h4⟩ | ⟨bs, bp, S, P, h3⟩
  · exact .inl ⟨heap_setCell_same w bw 0 _ _ _ h3, h4⟩
  · obtain ⟨n, hs⟩ := h3.slots
    obtain ⟨d1, d2, _⟩ := h3.heads
    exact .inr ⟨bs, bp, S, P, heap_setCell_same w bw 0 _ _ _ h3.head, ⟨n, hs.turns ht (by simpa using fun e : bs = bw => d1 e.symm)⟩, h3.places.turns ht (by simpa using fun e : bp = bw => d2 e.symm),
      fun k v l e => ⟨(h3.own k v l e).1.turns ht fun g hg hm => (h3.apart k v l e g (by unfold ownB; rw [hg]; simp)).2.1 (by simpa using hm), (h3.own k v l e).2⟩, h3.apart, h3.heads, h3.perm, h3.place⟩
theorem due_drop {T tu : Int} {L : List Fi} (hok : WOk T L) {j : Nat} {x : Fi} (hx : (dueL tu L)[j]? = some x) : ((dueL tu L).drop j ++ restL tu L).Perm (x :: ((dueL tu L).drop (j + 1) ++ restL tu L)) := by
  have hj : j < (dueL tu L).length := (List.getElem?_eq_some_iff.1 hx).1
  have e : (dueL tu L).drop j = x :: (dueL tu L).drop (j + 1) := by
    rw [List.drop_eq_getElem_cons hj]
    congr 1
    exact (List.getElem?_eq_some_iff.1 hx).2
  rw [e]
  exact List.Perm.refl _
theorem due_sorted {T tu : Int} {L : List Fi} (hok : WOk T L) (j : Nat) (hT : T ≤ tu) : WOk T ((dueL tu L).drop j ++ restL tu L) := by
  have e := @srt_cut tu L hok.srt
  have hsub : ((dueL tu L).drop j ++ restL tu L).Sublist L := by
    conv => rhs; rw [e]
    exact List.Sublist.append (List.drop_sublist _ _) (List.Sublist.refl _)
  exact ⟨List.Pairwise.sublist hsub hok.srt, List.Pairwise.sublist hsub hok.ids, fun x hx => hok.low x (hsub.subset hx), fun x hx => hok.high x (hsub.subset hx), fun x hx => hok.wf x (hsub.subset hx), hok.now⟩
theorem take_any2 {B : Nat} {w : World} {bw : Nat} {T T' : Int} {L L' : List Fi} {F : List Nat} (h : WhAt B w bw T' L F) (hok : WOk T L) {x : Fi} (hp : L.Perm (x :: L')) (hL : L.length ≤ 1000) :
    Calls Try.prog 28 #[.pointer (some ⟨bw, 0, none⟩), .int .i64 x.1] w (TakeP B w bw T' L' F) := by
  have hx : x ∈ L := hp.symm.subset (List.mem_cons_self ..)
  rcases h.2.2 with ⟨_, h0⟩ | ⟨bs, bp, S, P, h3⟩
  · rw [h0] at hx; cases hx
  · exact take_laid h h3 hok.ids hp (hok.wf x hx) (hpOf hok x hx) hok.wf hL
set_option maxRecDepth 100000 in
set_option maxHeartbeats 4000000 in
theorem adv_any {B : Nat} {w : World} {bw : Nat} {T : Int} {L : List Fi} {F : List Nat} (h : WhAt B w bw T L F) (hok : WOk T L) (tu : Int) (hw : -9223372036854775808 ≤ tu ∧ tu ≤ 9223372036854775807) (hL : L.length ≤ 1000) :
    Calls Try.prog 16 #[.pointer (some ⟨bw, 0, none⟩), .int .i64 tu] w (AdvP B w bw (advL T L tu).2.1 (advL T L tu).2.2 F (advL T L tu).1) := by
  have c0 := h.cells.1
  unfold advL
  by_cases h1 : tu < T
  · rw [if_pos h1]
    have HE : Hid (AdvP B w bw T L F [] (.returned (.slice none 0 0)) w) := Lib.hid ⟨_, rfl, EK.Own.nil _ _ (Nat.zero_le _), h, Turns.refl _ _⟩
    clear h hok
    go_enter Try.func16, Try.ntmps16
    go_wp2
    go_ret
    exact HE.out
  · rw [if_neg h1]
    have e1 : decide (tu < T) = false := by simpa using h1
    have HR := Lib.hid (reach_any h hok tu (by omega) hw.2 hL)
    have H := Lib.hid h
    have HOK := Lib.hid hok
    have HL := Lib.hid hL
    have HTT := Lib.hid (show T ≤ tu by omega)
    have hbw := h.cells.2.2
    clear h hok hL hw h1
    show Calls _ _ _ _ (AdvP B w bw tu (restL tu L) F (dueL tu L))
    go_enter Try.func16, Try.ntmps16
    go_wp2_with fail
    refine (Hid.out HR).mono ?_
    rintro e w1 ⟨v, rfl, a1, a2⟩
    have k0 := (a2.cell hbw (by simp) 0).trans c0
    have kf := (a2.frozen hbw (by simp) 0).trans (H.out.cells.2.1 0)
    have HA1 := Lib.hid a1
    have HA2 := Lib.hid a2
    have HLN := Lib.hid (show (dueL tu L).length ≤ 1000 from Nat.le_trans (List.length_filter_le _ _) HL.out)
    obtain ⟨A, c, rfl, hrd, -⟩ := a1.reads
    obtain ⟨D, hD⟩ : ∃ D, D = dueL tu L := ⟨_, rfl⟩
    have HDD := Lib.hid hD
    rw [← hD] at HA1 HLN hrd ⊢
    have HRD := Lib.hid hrd
    clear a1 a2 hD hrd
    go_wp2
    obtain ⟨W2, hW2⟩ : ∃ W2, W2 = w1.setCell ⟨bw, 0, none⟩ (.int .i64 tu) := ⟨_, rfl⟩
    have hbF := H.out.2.1
    have HW2 : Hid (WhAt B W2 bw tu L F ∧ Turns F w1 W2) := Lib.hid ⟨by rw [hW2]; exact (H.out.pre HA2.out).setNow tu, by rw [hW2]; exact Turns.setCell _ _ _ hbF⟩
    rw [← hW2]
    clear hW2 k0 kf hbF
    have hcut := @srt_cut tu L HOK.out.srt
    have HC0 := Lib.hid hcut
    clear hcut
    go_loopw [27] (fun u wr => ∃ j : Nat, u = .int .i64 (j : Int) ∧ j ≤ D.length ∧ Hid (WhAt B wr bw tu (D.drop j ++ restL tu L) F ∧ Turns F w1 wr)) (fun u _ => D.length - (intOf u).toNat)
    case atStart => exact ⟨0, rfl, Nat.zero_le _, Lib.hid ⟨by rw [List.drop_zero, HDD.out, ← HC0.out]; exact HW2.out.1, HW2.out.2⟩⟩
    case round =>
      obtain ⟨j, rfl, hj, HQ⟩ := hrel
      have hnF : ∀ g, w.heap.size ≤ g → g ∉ F := fun g hg hm => by have := (H.out.1 g hm).2; omega
      have hown : fK.Own w.heap.size wr (.slice A D.length c) D := HA1.out.turns HQ.out.2 fun g hg => hnF g (World.ownsRow.lt HA1.out g hg).1
      by_cases hlt : j < D.length
      · obtain ⟨x, hx⟩ : ∃ x, D[j]? = some x := ⟨_, List.getElem?_eq_getElem hlt⟩
        obtain ⟨g, cap, hv, hg1, hg2⟩ : ∃ g cap, Value.slice A D.length c = .slice (some ⟨g, 0, none⟩) D.length cap ∧ w.heap.size ≤ g ∧ g < wr.heap.size := by
          rcases hown.form with ⟨_, h0⟩ | ⟨g, cap, e, b1, b2, _⟩
          · rw [h0] at hlt; simp at hlt
          · exact ⟨g, cap, e, b1, b2⟩
        cases hv
        have d0 := World.ownsRow.cells hown (g := g) rfl _ _ (fK_flat_at hx).1
        have d1 := World.ownsRow.cells hown (g := g) rfl _ _ (fK_flat_at hx).2
        rw [add_plain', Nat.zero_add] at d0 d1
        have hx' : (dueL tu L)[j]? = some x := by rw [← HDD.out]; exact hx
        have hp := due_drop HOK.out hx'
        have hok2 := due_sorted HOK.out j HTT.out (tu := tu)
        rw [← HDD.out] at hp hok2
        have hlen : (D.drop j ++ restL tu L).length ≤ 1000 := by
          rw [List.length_append, List.length_drop]
          have h1 := congrArg List.length HC0.out
          rw [← HDD.out, List.length_append] at h1
          have := HL.out
          omega
        have HTK := Lib.hid (fun C => take_any2 ((HQ.out.1.pre (Turns.alloc wr C))) hok2 hp hlen)
        have HTA := Lib.hid (fun (C : Obj) => (Turns.alloc (F := F) wr C))
        have HWJ := Lib.hid (wrapS (i := j) (by have := HLN.out; omega))
        have HJL := Lib.hid hlt
        have f2 : (j : Int) < (D.length : Int) := by omega
        have f3 : (0 : Int) ≤ (j : Int) := by omega
        clear hx hx' hp hok2 hlen hown hnF hlt hg1 hg2
        go_wp2_with (go_at_call 28; refine (HTK.out _).mono ?_; rintro e w3 htk; have HTK3 := Lib.hid htk; obtain ⟨rfl, -, -⟩ := htk)
        go_roundw
        case rel => exact ⟨j + 1, congrArg (Value.int .i64) HWJ.out, HJL.out, Lib.hid ⟨HTK3.out.2.1, HQ.out.2.then ((HTA.out _).then HTK3.out.2.2)⟩⟩
        case measure => exact measS HJL.out HWJ.out
      · have hge : decide ((j : Int) < (D.length : Int)) = false := by simp; omega
        have hje : j = D.length := by omega
        subst hje
        have HE := Lib.hid (And.intro (EK.Own.low hown (Nat.le_refl _)) (And.intro HQ.out.1 HQ.out.2))
        clear hown hnF hlt hj
        go_wp2
        go_ret
        refine ⟨.slice A D.length c, rfl, by rw [← HDD.out]; exact HE.out.1, ?_, (HA2.out.mono (by simp)).then HE.out.2.2⟩
        have := HE.out.2.1
        rwa [List.drop_length, List.nil_append] at this
end Go.Proofs.Ytaepgcicgmbbeaa
