/- One scrape upon both meters (layer 17). -/
import Derived.Test.YtcjmieofmogeiaaDlC
import Derived.Deep.RegionHeld3
namespace Go.Proofs.Ytcjmieofmogeiaa
open Go.RowKit

section
variable {C : MeC} {b : Base} {X Y Z : World} {p rm m : Nat} {T T1 T2 : Tl} {L L1 L2 : List One}
theorem PairM.stay (h : PairM C b X p m T1 L1 rm T2 L2) : b.Z.heap.size ≤ X.heap.size ∧ ∀ k ∈ b.K, k < b.Z.heap.size ∧ X.heap[k]? = b.Z.heap[k]? := by
  obtain ⟨F, rs, v, _, _, _, _, s⟩ := h
  exact ⟨s.1, fun k hk => ⟨(s.2 k hk).1, (s.2 k hk).2.2⟩⟩
theorem PairM.cells (h : PairM C b X p m T1 L1 rm T2 L2) : X.cell? ⟨rm, 1, none⟩ = some (.int .i64 (T2.p : Int)) ∧ X.cell? ⟨rm, 2, none⟩ = some (.int .i64 (T2.a : Int)) ∧ X.cell? ⟨rm, 3, none⟩ = some (.int .i64 (T2.o : Int)) ∧ X.cell? ⟨rm, 4, none⟩ = some (.int .i64 (T2.t : Int)) ∧ X.cell? ⟨rm, 5, none⟩ = some (.int .i64 (T2.f : Int)) ∧ X.cell? ⟨rm, 6, none⟩ = some (.int .i64 (T2.g : Int)) ∧ X.cell? ⟨rm, 7, none⟩ = some (.int .i64 (T2.r : Int)) := by
  obtain ⟨F, rs, v, _, a, _⟩ := h
  obtain ⟨c0, c1, c2, c3, c4, c5, c6, c7, _⟩ := a.cells
  exact ⟨c1, c2, c3, c4, c5, c6, c7⟩
theorem PairM.tally (h : PairM C b X p m T1 L1 rm T2 L2) : Calls Try.prog 13 #[ptr p] X fun e w' => e = .returned T1.val' ∧ Turns [] X w' := by
  obtain ⟨F, rs, v, a, _⟩ := h
  exact C.tally a
end
set_option maxRecDepth 100000 in
set_option maxHeartbeats 4000000 in
theorem doM_any (C : MeC) {b : Base} {X : World} {p m rm : Nat} {T : Tl} {L : List One} (h : PairM C b X p m T L rm T L) {l : List Smp} {A : Option Addr} {c N : Nat} (own : Int) (hl : L.length + l.length ≤ 80000) (hT : T.Le N) (hN : N + l.length ≤ 1000000) (hc : l.length ≤ c) (hm : c ≤ maxLen) (hr : sK.Reads b.w b.w.heap.size A l) (ho : -9223372036854775808 ≤ own ∧ own ≤ 9223372036854775807) (hok : ∀ x ∈ l, x.Ok) (hL : LOk L) :
    Calls Try.prog 12 #[ptr p, ptr rm, .agg #[.int .i64 own, .slice A l.length c]] X fun e Y => e = .returned (.bool true) ∧ PairM C b Y p m (tallyL T (putP m own l L).1) (putP m own l L).2 rm (tallyL T (putP m own l L).1) (putP m own l L).2 := by
  have HH := Lib.hid h
  have HRA := Lib.hid (fun Y (ht : Turns [] b.w Y) => (hr.turns (Nat.le_refl _) ht (by simp)).more ht.size)
  have HAL : Hid (l = [] ∨ ∀ a', A = some a' → a'.block < b.w.heap.size) := Lib.hid (by
    rcases hr with h | ⟨b, o, e2, hb, _⟩
    · exact .inl h
    · exact .inr fun a' e => by rw [e2] at e; cases e; exact hb)
  have HB := Lib.hid (And.intro hl (And.intro hT (And.intro hN (And.intro hc (And.intro hm (And.intro ho (And.intro hok hL)))))))
  obtain ⟨q, hq⟩ : ∃ q, q = putP m own l L := ⟨_, rfl⟩
  have HQL := Lib.hid (show q.1.length = l.length by rw [hq]; exact (putP_lens m own l L).2)
  rw [← hq]
  have HQ := Lib.hid hq
  obtain ⟨T', hT'⟩ : ∃ T', T' = tallyL T q.1 := ⟨_, rfl⟩
  rw [← hT']
  have HT' := Lib.hid hT'
  have hgd := tl_guard
  have hnq := fun W => tl_eql T' T' W
  rw [show tlE T' T' = true from tlE_iff.2 rfl] at hnq
  unfold Tl.val' at hnq
  obtain ⟨n, hn⟩ : ∃ n, n = l.length := ⟨_, rfl⟩
  rw [← hn]
  have HN := Lib.hid hn
  clear hl hT hN hc hm hr ho hok hL hq hT' hn h
  have H1 := Lib.hid (HH.out.hold (Turns.alloc X (.cells #[.int .i64 own, .slice A n c] 32)) [X.heap.size] (by simp))
  have HX1 : Hid (∀ Y, Turns [] (X.alloc (.cells #[.int .i64 own, .slice A n c] 32)) Y → Y.cell? ⟨X.heap.size, 0, none⟩ = some (.int .i64 own) ∧ Y.cell? ⟨X.heap.size, 1, none⟩ = some (.slice A n c)) := Lib.hid (fun Y ht => ⟨lone_cells _ _ ht 0 _ rfl, lone_cells _ _ ht 1 _ rfl⟩)
  obtain ⟨x0, x1⟩ := HX1.out _ (Turns.refl _ _)
  have HPT := Lib.hid (pairM_put H1.out (l := l) (A := A) (c := c) (N := N) (by have := HB.out.1; omega) HB.out.2.1 HB.out.2.2.1 HB.out.2.2.2.1 HB.out.2.2.2.2.1 (HRA.out _ H1.out.turns) (HAL.out.imp id fun h a' e => .inl (h a' e)) own HB.out.2.2.2.2.2.1 HB.out.2.2.2.2.2.2.1 HB.out.2.2.2.2.2.2.2)
  rw [← HQ.out, ← HT'.out, ← HN.out] at HPT
  go_enter Try.func12, Try.ntmps12
  go_wp2_with fail
  refine HPT.out.mono ?_
  rintro e W2 ⟨o, og, rfl, ho2, hog2, h2, hk2, hsz2⟩
  have hx2 : W2.heap[X.heap.size]? = (X.alloc (.cells #[.int .i64 own, .slice A n c] 32)).heap[X.heap.size]? := hk2 _ (by simp)
  have y0 : W2.cell? ⟨X.heap.size, 0, none⟩ = some (.int .i64 own) := (World.cell?_of_block (a := ⟨X.heap.size, 0, none⟩) hx2).trans x0
  have y1 : W2.cell? ⟨X.heap.size, 1, none⟩ = some (.slice A n c) := (World.cell?_of_block (a := ⟨X.heap.size, 1, none⟩) hx2).trans x1
  have HO2 := Lib.hid ho2
  have HG2 := Lib.hid hog2
  have HP2 := Lib.hid h2
  have HK2 := Lib.hid (And.intro hk2 hsz2)
  have HRP := Lib.hid (pairM_rput h2 (l := l) (A := A) (c := c) (N := N) (by have := HB.out.1; omega) HB.out.2.1 HB.out.2.2.1 HB.out.2.2.2.1 (HRA.out _ h2.turns) (HAL.out.imp id fun h a' e => .inl (h a' e)) own HB.out.2.2.2.2.2.2.1 HB.out.2.2.2.2.2.2.2)
  rw [← HQ.out, ← HT'.out, ← HN.out] at HRP
  clear ho2 hog2 h2 hk2 hsz2 hx2 x0 x1 HPT
  generalize hXA : X.alloc (.cells #[.int .i64 own, .slice A n c] 32) = X1 at *
  have HXA := Lib.hid hXA
  clear hXA
  go_wp2_with fail
  refine HRP.out.mono ?_
  rintro e W3 ⟨o3, og3, rfl, ho3, hog3, h3⟩
  have hk3 := h3.stays
  have HP3 := Lib.hid h3
  obtain ⟨A2, c2, rfl, -⟩ := HO2.out.reads
  obtain ⟨B2, d2, rfl, -⟩ := HG2.out.reads
  have HRD : Hid (sK.Reads W3 W3.heap.size none []) := Lib.hid (.inl rfl)
  have HS2 : Hid (nK.Reads W3 W3.heap.size A2 q.1) := Lib.hid (by
    obtain ⟨A', c', e, hr', _⟩ := (HO2.out.keepB (w' := W3) fun i hi => hk3 i (by simp [hi])).reads
    injection e with e1 e2 e3
    subst e1
    exact hr')
  have HG2' : Hid (gK.Reads W3 W3.heap.size B2 (gainsL q.1)) := Lib.hid (by
    obtain ⟨A', c', e, hr', _⟩ := (HG2.out.keepB (w' := W3) fun i hi => hk3 i (by simp [hi])).reads
    injection e with e1 e2 e3
    subst e1
    exact hr')
  obtain ⟨A3, c3, rfl, hr3, -⟩ := ho3.reads
  obtain ⟨B3, d3, rfl, hs3, -⟩ := hog3.reads
  have HQ9 := Lib.hid (show q.1.length ≤ 80000 ∧ (gainsL q.1).length ≤ 80000 by
    have := HB.out.1
    have := HQL.out
    have := gainsL_len q.1
    omega)
  have HSS : Hid (∀ Y, Turns [] W3 Y → Calls Try.prog 26 #[.slice A2 q.1.length c2, .slice A3 q.1.length c3] Y fun e w' => e = .returned (.bool true) ∧ Turns [] Y w') := Lib.hid (fun Y ht => by
    have := rsameSn_any A2 A3 c2 c3 q.1 q.1 Y (by have := HQ9.out.1; omega) ((HS2.out.turns (Nat.le_refl _) ht (by simp)).more ht.size) ((hr3.turns (Nat.le_refl _) ht (by simp)).more ht.size)
    rwa [decide_eq_true (rfl : q.1 = q.1)] at this)
  have HSG : Hid (∀ Y, Turns [] W3 Y → Calls Try.prog 27 #[.slice B2 (gainsL q.1).length d2, .slice B3 (gainsL q.1).length d3] Y fun e w' => e = .returned (.bool true) ∧ Turns [] Y w') := Lib.hid (fun Y ht => by
    have := rsameGn_any B2 B3 d2 d3 (gainsL q.1) (gainsL q.1) Y (by have := HQ9.out.2; omega) ((HG2'.out.turns (Nat.le_refl _) ht (by simp)).more ht.size) ((hs3.turns (Nat.le_refl _) ht (by simp)).more ht.size)
    rwa [decide_eq_true (rfl : gainsL q.1 = gainsL q.1)] at this)
  have HTL := Lib.hid (fun Y (ht : Turns [] W3 Y) => (HP3.out.pre ht).tally)
  unfold Tl.val' at HTL
  have HC := Lib.hid (fun Y (ht : Turns [] W3 Y) => (HP3.out.pre ht).cells)
  have HE : Hid (∀ Y, Turns [] W3 Y → PairM C b Y p m T' q.2 rm T' q.2) := Lib.hid (fun Y ht => by
    have hs := HH.out.stay
    have hk2 := HK2.out
    rw [← HXA.out] at hk2
    refine (HP3.out.pre ht).less (fun k hk => List.mem_append.2 (.inr (List.mem_append.2 (.inr hk)))) (fun k hk => ⟨(hs.2 k hk).1, ?_⟩) ?_
    · have h1 := (hs.2 k hk).1
      have h2 := hs.1
      refine (hk2.1 k (List.mem_append.2 (.inr hk))).trans (Eq.trans ?_ (hs.2 k hk).2)
      exact (Turns.alloc (F := []) X (.cells #[.int .i64 own, .slice A n c] 32)).block k (by omega) (by simp)
    · have h2 := hs.1
      have h3 := hk2.2
      simp at h3
      show _ ≤ W2.heap.size
      omega)
  have HD : Hid (Turns [] W3 W3.drew) := Lib.hid (Turns.refl [] W3).drew
  have hd0 := HC.out W3 (Turns.refl _ _)
  generalize (gainsL q.1).length = ng at HSG ⊢
  generalize q.1.length = nq at HSS ⊢
  clear hk3 ho3 hog3 h3 hr3 hs3 HRD HS2 HG2' HRP HO2 HG2 HP2 HK2 HXA HX1 H1 HP3 HQ9 HQL HQ HT' HN HB HAL HRA HH y0 y1
  go_wp2_with fail
  refine wp_region_noPanic ?_
  go_region_held (fun w' => w'.cell? ⟨rm, 1, none⟩ = some (.int .i64 (T'.p : Int)) ∧ w'.cell? ⟨rm, 2, none⟩ = some (.int .i64 (T'.a : Int)) ∧ w'.cell? ⟨rm, 3, none⟩ = some (.int .i64 (T'.o : Int)) ∧ w'.cell? ⟨rm, 4, none⟩ = some (.int .i64 (T'.t : Int)) ∧ w'.cell? ⟨rm, 5, none⟩ = some (.int .i64 (T'.f : Int)) ∧ w'.cell? ⟨rm, 6, none⟩ = some (.int .i64 (T'.g : Int)) ∧ w'.cell? ⟨rm, 7, none⟩ = some (.int .i64 (T'.r : Int))) (first | exact hd0 | exact hd5 | exact hd6 | exact hd7 | assumption) ((first | (go_at_call 26; refine (HSS.out _ (by first | exact Turns.refl _ _ | exact (Turns.refl _ _).drew)).mono ?_; rintro e w5 ⟨rfl, t5⟩; have HT5 := Lib.hid (HD.out.then t5); have hd5 := HC.out w5 HT5.out; clear t5) | (go_at_call 27; refine (HSG.out _ HT5.out).mono ?_; rintro e w6 ⟨rfl, t6⟩; have HT6 := Lib.hid (HT5.out.then t6); have hd6 := HC.out w6 HT6.out; clear t6) | (go_at_call 13; refine (HTL.out _ HT6.out).mono ?_; rintro e w7 ⟨rfl, t7⟩; have HT7 := Lib.hid (HT6.out.then t7); have hd7 := HC.out w7 HT7.out; clear t7)))
  all_goals
    refine NoPanic.normal ?_
    go_wp2
    go_ret
    exact ⟨rfl, HE.out _ HT7.out⟩
end Go.Proofs.Ytcjmieofmogeiaa
