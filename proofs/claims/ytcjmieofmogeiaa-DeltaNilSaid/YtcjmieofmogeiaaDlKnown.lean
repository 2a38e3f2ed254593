/- The chapter's row (layer 17). -/
import Derived.Test.YtcjmieofmogeiaaDlC
namespace Go.Proofs.Ytcjmieofmogeiaa
open Go.RowKit

/-- A meter alone, made since w. -/
def LoneM (C : MeC) (b : Base) (X : World) (p m : Nat) (T : Tl) (L : List One) : Prop := ∃ F, C.At b.w.heap.size X p F m T L ∧ Turns [] b.w X ∧ Stay b X F
section
variable {C : MeC} {b : Base} {X Y : World} {p m : Nat} {T : Tl} {L : List One}
theorem LoneM.turns (h : LoneM C b X p m T L) : Turns [] b.w X := by
  obtain ⟨F, _, h, _⟩ := h
  exact h
theorem LoneM.cell (h : LoneM C b X p m T L) {k : Nat} (hk : k ∈ b.K) (j : Nat) : X.cell? ⟨k, j, none⟩ = b.Z.cell? ⟨k, j, none⟩ := by
  obtain ⟨F, _, _, s⟩ := h
  exact s.cell hk j
theorem LoneM.pre (h : LoneM C b X p m T L) (ht : Turns [] X Y) : LoneM C b Y p m T L := by
  obtain ⟨F, a, t, s⟩ := h
  exact ⟨F, C.pre a ht, t.then ht, s.pre ht⟩
theorem LoneM.hold (h : LoneM C b X p m T L) (ht : Turns [] X Y) (K : List Nat) (hK : ∀ k ∈ K, X.heap.size ≤ k ∧ k < Y.heap.size) : LoneM C ⟨b.w, K ++ b.K, Y⟩ Y p m T L := by
  obtain ⟨F, a, t, s⟩ := h
  exact ⟨F, C.pre a ht, t.then ht, s.hold ht K hK fun i hi => (C.foot a i hi).2⟩
theorem loneM_new {w : World} (h : Turns [] w X) (most : Int) (h1 : -9223372036854775808 ≤ most) (h2 : most ≤ 9223372036854775807) :
    Calls Try.prog 10 #[.int .i64 most] X fun e Y => ∃ p, e = .returned (ptr p) ∧ LoneM C (.plain w) Y p most.toNat .zero [] :=
  (C.new most X h1 h2).mono fun e Y ⟨p, F, e1, a, t⟩ => ⟨p, e1, F, C.low a h.size, h.then t, Stay.plain (h.then t).size _⟩
theorem loneM_put (hp : LoneM C b Y p m T L) (hY : Turns [] Y X) {l : List Smp} {A : Option Addr} {c N : Nat} (hl : L.length + l.length ≤ 90000) (hT : T.Le N) (hN : N + l.length ≤ 1000000) (hc : l.length ≤ c) (hm : c ≤ maxLen) (hr : sK.Reads X X.heap.size A l)
    (hA : ∀ a, A = some a → Y.heap.size ≤ a.block) (owner : Int) (ho : -9223372036854775808 ≤ owner ∧ owner ≤ 9223372036854775807) (hok : ∀ x ∈ l, x.Ok) (hL : LOk L) :
    Calls Try.prog 16 #[ptr p, .int .i64 owner, .slice A l.length c] X fun e Z => ∃ o og, e = .returned (.tuple #[o, og]) ∧ nK.Own X.heap.size Z o (putP m owner l L).1 ∧ gK.Own X.heap.size Z og (gainsL (putP m owner l L).1) ∧ LoneM C b Z p m (tallyL T (putP m owner l L).1) (putP m owner l L).2 := by
  obtain ⟨F, a1, t, s⟩ := hp
  refine (C.put (C.pre a1 hY) (t.then hY).size hl hT hN hc hm hr (.inr fun a' e hF => by have := (C.foot a1 _ hF).2; have := hA a' e; omega) owner ho hok (putP_ok hok hL).1).mono ?_
  rintro e Z ⟨o, og, F', rfl, ho, hog, a', tz, hf, hof, hogf⟩
  exact ⟨o, og, rfl, ho, hog, F', a', (t.then hY).trans tz fun i hi => .inr (C.foot a1 i hi).1, (s.pre hY).next tz (fun i hi => hi) hf⟩
theorem loneM_tally (h : LoneM C b X p m T L) : Calls Try.prog 13 #[ptr p] X fun e w' => e = .returned T.val' ∧ Turns [] X w' := by
  obtain ⟨F, a, _⟩ := h
  exact C.tally a
end
def vlD : Nat → Int
  | 0 => 5
  | 1 => 9
  | 2 => 2
  | _ => 4
def wtD : Nat → Int
  | 0 => 0
  | 1 => 4
  | 2 => 2
  | _ => 2
def smD (k : Nat) : Smp := ⟨⟨#[97]⟩, vlD k, k, true⟩
def lsD : Nat → List One
  | 0 => []
  | k + 1 => [⟨⟨#[97]⟩, ⟨smD k, true, 1⟩⟩]
def snD : Nat → Sn
  | 0 => ⟨smD 0, 1, false, 0⟩
  | k + 1 => ⟨smD (k + 1), 1, true, vlD k⟩
def gnD : Nat → List Gn
  | 0 => []
  | k + 1 => [⟨⟨#[97]⟩, ((k + 1 : Nat) : Int), wtD (k + 1), decide (k + 1 = 2)⟩]
def tlD : Nat → Tl
  | 0 => .zero
  | 1 => ⟨1, 1, 0, 0, 0, 0, 0⟩
  | 2 => ⟨2, 2, 0, 0, 0, 1, 0⟩
  | 3 => ⟨3, 3, 0, 0, 0, 2, 1⟩
  | _ => ⟨4, 4, 0, 0, 0, 3, 1⟩
theorem stepD : ∀ k, k < 4 → putP 3 1 [smD k] (lsD k) = ([snD k], lsD (k + 1)) ∧ tallyL (tlD k) [snD k] = tlD (k + 1) ∧ gainsL [snD k] = gnD k
  | 0, _ => by refine ⟨?_, ?_, ?_⟩ <;> simp [putP, putsP, oneP, ofN, atN, lsD, vlD, smD, snD, nowL, staleB, amongB, eqN_self, tallyL, tlD, Tl.one, hasG, Tl.seen, Tl.gain, Tl.zero, gainsL, gnD, gainS, gainL, wtD]
  | 1, _ => by refine ⟨?_, ?_, ?_⟩ <;> simp [putP, putsP, oneP, ofN, atN, lsD, vlD, smD, snD, nowL, staleB, amongB, eqN_self, tallyL, tlD, Tl.one, hasG, Tl.seen, Tl.gain, Tl.zero, gainsL, gnD, gainS, gainL, wtD]
  | 2, _ => by refine ⟨?_, ?_, ?_⟩ <;> simp [putP, putsP, oneP, ofN, atN, lsD, vlD, smD, snD, nowL, staleB, amongB, eqN_self, tallyL, tlD, Tl.one, hasG, Tl.seen, Tl.gain, Tl.zero, gainsL, gnD, gainS, gainL, wtD]
  | 3, _ => by refine ⟨?_, ?_, ?_⟩ <;> simp [putP, putsP, oneP, ofN, atN, lsD, vlD, smD, snD, nowL, staleB, amongB, eqN_self, tallyL, tlD, Tl.one, hasG, Tl.seen, Tl.gain, Tl.zero, gainsL, gnD, gainS, gainL, wtD]
theorem vlD_in (k : Nat) : 2 ≤ vlD k ∧ vlD k ≤ 9 := by unfold vlD; split <;> omega
theorem smD_ok {k : Nat} (hk : k ≤ 1000) : (smD k).Ok := by
  have := vlD_in k
  exact ⟨by show ([97] : List UInt8).toArray.size ≤ _; simp, ⟨by show _ ≤ vlD k; omega, by show vlD k ≤ _; omega⟩, by show _ ≤ (k : Int); omega, by show (k : Int) ≤ _; omega⟩
theorem lsD_ok {k : Nat} (hk : k ≤ 1000) : LOk (lsD k) ∧ (lsD k).length ≤ 1 := by
  cases k with
  | zero => exact ⟨fun y hy => (by cases hy), (by simp [lsD])⟩
  | succ k =>
    refine ⟨fun y hy => ?_, by simp [lsD]⟩
    rw [lsD, List.mem_singleton] at hy
    subst hy
    exact smD_ok (by omega)
theorem tlD_le (k : Nat) : (tlD k).Le 4 := by unfold tlD Tl.zero Tl.Le; split <;> simp
theorem lone_smD {X : World} (k : Nat) : sK.Reads (X.alloc (.cells #[.string ⟨#[97]⟩, .int .i64 (vlD k), .int .i64 (k : Int), .bool true] 52)) (X.alloc (.cells #[.string ⟨#[97]⟩, .int .i64 (vlD k), .int .i64 (k : Int), .bool true] 52)).heap.size (some ⟨X.heap.size, 0, none⟩) [smD k] := by
  have := EK.Reads.lone sOk (smD k) #[.string ⟨#[97]⟩, .int .i64 (vlD k), .int .i64 (k : Int), .bool true] 52 rfl (W := X) rfl
  rwa [show (X.alloc (.cells #[.string ⟨#[97]⟩, .int .i64 (vlD k), .int .i64 (k : Int), .bool true] 52)).heap.size = X.heap.size + 1 by simp]
/-- The cells of one gain. -/
theorem one_gain {B : Nat} {W : World} {o : Value} {x : Gn} (h : gK.Own B W o [x]) : ∃ g c, o = .slice (some ⟨g, 0, none⟩) 1 c ∧ ∀ Y, Turns [] W Y → Y.cell? ⟨g, 2, none⟩ = some (.int .i64 x.inc) ∧ Y.cell? ⟨g, 3, none⟩ = some (.bool x.reset) := by
  rcases h.form with ⟨_, e⟩ | ⟨g, c, e, _, hg, _⟩
  · cases e
  · refine ⟨g, c, e, fun Y ht => ?_⟩
    rw [e] at h
    have hc : ∀ j u, (gK.flat [x])[j]? = some u → Y.cell? ⟨g, j, none⟩ = some u := fun j u hj => by
      have := World.ownsRow.cells h (g := g) rfl j u hj
      rw [add_plain', Nat.zero_add] at this
      exact (ht.cell hg (by simp) j).trans this
    exact ⟨hc 2 _ rfl, hc 3 _ rfl⟩
theorem no_gain {B : Nat} {W : World} {o : Value} (h : gK.Own B W o []) : ∃ A c, o = .slice A 0 c := by
  obtain ⟨A, c, e, _⟩ := h.reads
  exact ⟨A, c, e⟩
set_option maxRecDepth 100000 in
set_option maxHeartbeats 4000000 in
theorem knownM_any (C : MeC) (w : World) : Calls Try.prog 9 #[] w fun e w' => e = .returned (.bool true) ∧ Turns [] w w' := by
  have HN := Lib.hid (loneM_new (C := C) (Turns.refl [] w) 3 (by omega) (by omega))
  go_enter Try.func9, Try.ntmps9
  go_wp2_with fail
  refine (Hid.out HN).mono ?_
  rintro e W2 ⟨p, rfl, h1⟩
  change LoneM C (.plain w) W2 p 3 (tlD 0) (lsD 0) at h1
  have H2 := Lib.hid h1
  clear h1 HN
  go_wp2_with fail
  obtain ⟨W3, hW3⟩ : ∃ W3, W2.alloc (.cells #[.int .i64 5, .int .i64 9, .int .i64 2, .int .i64 4] 2) = W3 := ⟨_, rfl⟩
  obtain ⟨W4, hW4⟩ : ∃ W4, W3.alloc (.cells #[.int .i64 0, .int .i64 4, .int .i64 2, .int .i64 2] 2) = W4 := ⟨_, rfl⟩
  have ht3 : Turns [] W2 W3 := by rw [← hW3]; exact Turns.alloc _ _
  have ht4 : Turns [] W3 W4 := by rw [← hW4]; exact Turns.alloc _ _
  have hs3 : W3.heap.size = W2.heap.size + 1 := by rw [← hW3]; simp
  have hs4 : W4.heap.size = W2.heap.size + 2 := by rw [← hW4]; simp [hs3]
  have H4 := Lib.hid (H2.out.hold (ht3.then ht4) [W2.heap.size, W2.heap.size + 1] (by simp; omega))
  have HTM : Hid (∀ k, k < 4 → W4.cell? ⟨W2.heap.size, k, none⟩ = some (.int .i64 (vlD k))) := Lib.hid (fun k hk => by
    have hh : Turns [] (W2.alloc (.cells #[.int .i64 5, .int .i64 9, .int .i64 2, .int .i64 4] 2)) W4 := by rw [hW3]; exact ht4
    refine lone_cells _ _ hh k _ ?_
    match k, hk with
    | 0, _ => rfl
    | 1, _ => rfl
    | 2, _ => rfl
    | 3, _ => rfl)
  have HVD : Hid (∀ k, k < 4 → W4.cell? ⟨W2.heap.size + 1, k, none⟩ = some (.int .i64 (wtD k))) := Lib.hid (fun k hk => by
    have hh : Turns [] (W3.alloc (.cells #[.int .i64 0, .int .i64 4, .int .i64 2, .int .i64 2] 2)) W4 := by rw [hW4]; exact Turns.refl _ _
    rw [← hs3]
    refine lone_cells _ _ hh k _ ?_
    match k, hk with
    | 0, _ => rfl
    | 1, _ => rfl
    | 2, _ => rfl
    | 3, _ => rfl)
  rw [hW3, hW4]
  clear hW3 hW4 ht3 ht4 hs3 hs4 H2
  go_loopw [4] (fun i wr => ∃ k : Nat, k ≤ 4 ∧ i = .int .i64 (k : Int) ∧ Hid (LoneM C ⟨w, [W2.heap.size, W2.heap.size + 1], W4⟩ wr p 3 (tlD k) (lsD k))) (fun i _ => 4 - (intOf i).toNat)
  case atStart => exact ⟨0, by omega, rfl, H4⟩
  case round =>
    obtain ⟨k, hk, rfl, HT⟩ := hrel
    have hk0 : (0 : Int) ≤ (k : Int) := by omega
    by_cases hlt : k < 4
    · have hlt' : (k : Int) < 4 := by omega
      have c0 : wr.cell? ⟨W2.heap.size, k, none⟩ = some (.int .i64 (vlD k)) := (HT.out.cell (by simp) k).trans (HTM.out k hlt)
      have ht2 : Turns [] wr (wr.alloc (.cells #[.string ⟨#[97]⟩, .int .i64 (vlD k), .int .i64 (k : Int), .bool true] 52)) := Turns.alloc _ _
      have HP := Lib.hid (loneM_put HT.out ht2 (l := [smD k]) (A := some ⟨wr.heap.size, 0, none⟩) (c := 1) (N := 4) (by have := (lsD_ok (k := k) (by omega)).2; simp; omega) (tlD_le k) (by simp) (by simp) (by decide) (lone_smD k) (fun a e => by cases e; exact Nat.le_refl _) 1 (by omega) (fun x hx => by
        rw [List.mem_singleton] at hx
        subst hx
        exact smD_ok (by omega)) (lsD_ok (by omega)).1)
      obtain ⟨hs1, hs2, hs3⟩ := stepD k hlt
      rw [hs1] at HP
      simp only at HP
      rw [hs2, hs3] at HP
      clear ht2 hs1 hs2 hs3
      go_wp2_with fail
      refine HP.out.mono ?_
      rintro e w2 ⟨o, og, rfl, -, ho, h2⟩
      have HT2 := Lib.hid h2
      have d0 : w2.cell? ⟨W2.heap.size + 1, k, none⟩ = some (.int .i64 (wtD k)) := (HT2.out.cell (by simp) k).trans (HVD.out k hlt)
      have HT3 := Lib.hid (fun nq => HT2.out.pre ((Turns.refl [] w2).drewN nq))
      cases k with
      | zero =>
        obtain ⟨A, c, rfl⟩ := no_gain ho
        obtain ⟨k, hkk⟩ : ∃ k, k = 0 := ⟨_, rfl⟩
        rw [← hkk] at d0 HT3 hk0 hlt hlt' ⊢
        have e0 : ((k : Int) == 0) = true := by rw [hkk]; rfl
        have e1 : decide ((0 : Int) < (k : Int)) = false := by rw [hkk]; rfl
        have e2 : ((0 : Int) != 0) = false := rfl
        clear h2 ho HP c0 HT2 HT
        go_wp2_with fail
        go_quiet (fail)
        go_wp2_with fail
        go_roundw
        case rel => exact ⟨k + 1, by omega, by go_num, Lib.hid (HT3.out _)⟩
        case measure => simp [intOf] <;> omega
      | succ k' =>
        obtain ⟨g, c, rfl, hs⟩ := one_gain ho
        obtain ⟨q2, q3⟩ := hs w2 (Turns.refl _ _)
        simp only at q2 q3
        obtain ⟨k, hkk⟩ : ∃ k, k = k' + 1 := ⟨_, rfl⟩
        rw [← hkk] at q2 q3 d0 HT3 hk0 hlt hlt' ⊢
        have e0 : ((k : Int) == 0) = false := by rw [beq_eq_false_iff_ne]; omega
        have e1 : decide ((0 : Int) < (k : Int)) = true := by simp; omega
        have e1n : decide (0 < k) = true := by simp; omega
        have e2 : ((k : Int) == 2) = decide (k = 2) := by rw [Bool.eq_iff_iff]; simp; omega
        generalize decide (k = 2) = rs at q3 e2
        generalize wtD k = wt at q2 d0
        have n1 : (wt != wt) = false := bne_self_eq_false _
        have n2 : (rs != rs) = false := bne_self_eq_false _
        have HK := Lib.hid hkk
        clear h2 ho hs HP HT2 HT c0 hkk
        go_wp2_with fail
        go_quiet (fail)
        go_wp2_with fail
        go_roundw
        case rel => exact ⟨k + 1, by omega, by go_num, Lib.hid (HT3.out _)⟩
        case measure =>
          have := HK.out
          simp [intOf] <;> omega
    · obtain rfl : k = 4 := by omega
      have HTL := Lib.hid (loneM_tally HT.out)
      have hnq := fun W => tl_eql (tlD 4) (tlD 4) W
      rw [show tlE (tlD 4) (tlD 4) = true from tlE_iff.2 rfl] at hnq
      have hgd := tl_guard
      simp only [tlD, Tl.val'] at HTL hnq
      have HTT := Lib.hid HT.out.turns
      clear hlt
      go_wp2_with fail
      refine HTL.out.mono ?_
      rintro e w1 ⟨rfl, t1⟩
      have HX := Lib.hid (HTT.out.then t1)
      clear t1
      go_wp2_with fail
      go_ret
      exact ⟨rfl, HX.out⟩
end Go.Proofs.Ytcjmieofmogeiaa
