/- The chapter's rows. -/
import Derived.Test.YtadndefbdofodaaStActs
namespace Go.Proofs.Ytadndefbdofodaa
open Go.RowKit

/-- A store alone, made since w. -/
def LoneS (C : StC) (b : Base) (X : World) (p : Nat) (most : Nat) (L : List One) : Prop := ∃ F, C.At b.w.heap.size X p F most L ∧ Turns [] b.w X ∧ Stay b X F
/-- Two stores, apart. -/
def TwoS (C : StC) (b : Base) (X : World) (p : Nat) (m1 : Nat) (L1 : List One) (q : Nat) (m2 : Nat) (L2 : List One) : Prop :=
  ∃ F G, C.At b.w.heap.size X p F m1 L1 ∧ C.At b.w.heap.size X q G m2 L2 ∧ (∀ i ∈ F, i ∉ G) ∧ Turns [] b.w X ∧ Stay b X (F ++ G)
section
variable {C : StC} {b : Base} {X Y : World} {p q most m1 m2 : Nat} {L L1 L2 : List One}
theorem LoneS.turns (h : LoneS C b X p most L) : Turns [] b.w X := by
  obtain ⟨F, _, h, _⟩ := h
  exact h
theorem LoneS.pre (h : LoneS C b X p most L) (ht : Turns [] X Y) : LoneS C b Y p most L := by
  obtain ⟨F, a, t, s⟩ := h
  exact ⟨F, C.pre a ht, t.then ht, s.pre ht⟩
theorem TwoS.turns (h : TwoS C b X p m1 L1 q m2 L2) : Turns [] b.w X := by
  obtain ⟨F, G, _, _, _, h, _⟩ := h
  exact h
theorem TwoS.cell (h : TwoS C b X p m1 L1 q m2 L2) {k : Nat} (hk : k ∈ b.K) (j : Nat) : X.cell? ⟨k, j, none⟩ = b.Z.cell? ⟨k, j, none⟩ := by
  obtain ⟨F, G, _, _, _, _, s⟩ := h
  exact s.cell hk j
theorem TwoS.pre (h : TwoS C b X p m1 L1 q m2 L2) (ht : Turns [] X Y) : TwoS C b Y p m1 L1 q m2 L2 := by
  obtain ⟨F, G, a1, a2, c, d, s⟩ := h
  exact ⟨F, G, C.pre a1 ht, C.pre a2 ht, c, d.then ht, s.pre ht⟩
theorem TwoS.swap (h : TwoS C b X p m1 L1 q m2 L2) : TwoS C b X q m2 L2 p m1 L1 := by
  obtain ⟨F, G, a1, a2, c, d, s⟩ := h
  exact ⟨G, F, a2, a1, fun i hi hm => c i hm hi, d, s.mono fun i hi => by rw [List.mem_append] at hi ⊢; exact hi.symm⟩
theorem TwoS.hold (h : TwoS C b X p m1 L1 q m2 L2) (ht : Turns [] X Y) (K : List Nat) (hK : ∀ k ∈ K, X.heap.size ≤ k ∧ k < Y.heap.size) : TwoS C ⟨b.w, K ++ b.K, Y⟩ Y p m1 L1 q m2 L2 := by
  obtain ⟨F, G, a1, a2, c, d, s⟩ := h
  exact ⟨F, G, C.pre a1 ht, C.pre a2 ht, c, d.then ht, s.hold ht K hK fun i hi => by
    rcases List.mem_append.1 hi with h | h
    · exact (C.foot a1 i h).2
    · exact (C.foot a2 i h).2⟩
theorem lone_newS {w : World} (h : Turns [] w X) (most : Int) (h1 : -9223372036854775808 ≤ most) (h2 : most ≤ 9223372036854775807) :
    Calls Try.prog 9 #[.int .i64 most] X fun e Y => ∃ p, e = .returned (ptr p) ∧ LoneS C (.plain w) Y p most.toNat [] :=
  (C.new most X h1 h2).mono fun e Y ⟨p, F, e1, a, t⟩ => ⟨p, e1, F, C.low a h.size, h.then t, Stay.plain (h.then t).size _⟩
theorem two_newS {w : World} (h : LoneS C (.plain w) X p m1 L1) (most : Int) (h1 : -9223372036854775808 ≤ most) (h2 : most ≤ 9223372036854775807) :
    Calls Try.prog 9 #[.int .i64 most] X fun e Y => ∃ q, e = .returned (ptr q) ∧ TwoS C (.plain w) Y p m1 L1 q most.toNat [] := by
  obtain ⟨F, a, t, _⟩ := h
  exact (C.new most X h1 h2).mono fun e Y ⟨q, G, e1, a2, ty⟩ => ⟨q, e1, F, G, C.pre a ty, C.low a2 t.size, fun i hi hm => by have := (C.foot a i hi).2; have := (C.foot a2 i hm).1; omega, t.then ty, Stay.plain (t.then ty).size _⟩
theorem two_putS (hp : TwoS C b Y p m1 L1 q m2 L2) (hY : Turns [] Y X) {l : List Smp} {A : Option Addr} {c : Nat} (hl : L1.length + l.length ≤ 90000) (hc : l.length ≤ c) (hm : c ≤ maxLen) (hr : sK.Reads X X.heap.size A l)
    (hA : ∀ a, A = some a → Y.heap.size ≤ a.block) (owner : Int) (ho : -9223372036854775808 ≤ owner ∧ owner ≤ 9223372036854775807) (hok : ∀ x ∈ l, x.Ok) :
    Calls Try.prog 12 #[ptr p, .int .i64 owner, .slice A l.length c] X fun e Z => ∃ o, e = .returned o ∧ nK.Own X.heap.size Z o (putP m1 owner l L1).1 ∧ TwoS C b Z p m1 (putP m1 owner l L1).2 q m2 L2 := by
  obtain ⟨F, G, a1, a2, d, t, s⟩ := hp
  refine (C.put (C.pre a1 hY) (t.then hY).size hl hc hm hr (.inr fun a' e hF => by have := (C.foot a1 _ hF).2; have := hA a' e; omega) owner ho hok).mono ?_
  rintro e Z ⟨o, F', rfl, ho, a', tz, hf, _⟩
  refine ⟨o, rfl, ho, F', G, a', C.turns (C.pre a2 hY) tz fun i hi hm => d i hm hi, fun i hi hm => ?_, (t.then hY).trans tz fun i hi => .inr (C.foot a1 i hi).1, (s.pre hY).next tz (fun i hi => List.mem_append.2 (.inl hi)) fun i hi => ?_⟩
  · rcases hf i hi with h | h
    · exact d i h hm
    · have := (C.foot (C.pre a2 hY) i hm).2; omega
  · rcases List.mem_append.1 hi with h | h
    · exact (hf i h).imp (fun h => List.mem_append.2 (.inl h)) id
    · exact .inl (List.mem_append.2 (.inr h))
end
def smK (t : Int) : Smp := ⟨⟨#[97]⟩, t, t, false⟩
def tmK : Nat → Int
  | 0 => 5
  | 1 => 5
  | 2 => 3
  | _ => 9
def vdK : Nat → Int
  | 0 => 1
  | 1 => 3
  | 2 => 2
  | _ => 1
def snK (k : Nat) : Sn := ⟨smK (tmK k), vdK k, decide (k = 3), if k = 3 then 5 else 0⟩
def lsK : Nat → List One
  | 0 => []
  | 1 => [⟨⟨#[97]⟩, ⟨smK 5, true, 1⟩⟩]
  | 2 => [⟨⟨#[97]⟩, ⟨smK 5, true, 1⟩⟩]
  | 3 => [⟨⟨#[97]⟩, ⟨smK 5, true, 1⟩⟩]
  | _ => [⟨⟨#[97]⟩, ⟨smK 9, true, 1⟩⟩]
theorem stepK : ∀ k, k < 4 → putP 5 1 [smK (tmK k)] (lsK k) = ([snK k], lsK (k + 1))
  | 0, _ => by simp [putP, putsP, oneP, ofN, atN, lsK, tmK, smK, snK, vdK, nowL, staleB, amongB, eqN_self]
  | 1, _ => by simp [putP, putsP, oneP, ofN, atN, lsK, tmK, smK, snK, vdK, nowL, staleB, amongB, eqN_self]
  | 2, _ => by simp [putP, putsP, oneP, ofN, atN, lsK, tmK, smK, snK, vdK, nowL, staleB, amongB, eqN_self]
  | 3, _ => by simp [putP, putsP, oneP, ofN, atN, lsK, tmK, smK, snK, vdK, nowL, staleB, amongB, eqN_self]
theorem stepO1 : putP 5 1 [] (lsK 1) = ([], [⟨⟨#[97]⟩, ⟨smK 5, false, 1⟩⟩]) := by simp [putP, putsP, lsK, smK, staleB, amongB]
theorem stepO2 : putP 5 1 [smK 9] [⟨⟨#[97]⟩, ⟨smK 5, false, 1⟩⟩] = ([⟨smK 9, 1, false, 0⟩], lsK 4) := by simp [putP, putsP, oneP, ofN, atN, lsK, smK, nowL, staleB, amongB, eqN_self]
set_option maxRecDepth 100000 in
set_option maxHeartbeats 1000000 in
theorem made_any (t : Int) (w : World) : Calls Try.prog 23 #[.int .i64 t] w fun e w' => e = .returned (.agg #[.string ⟨#[97]⟩, .int .i64 t, .int .i64 t, .bool false]) ∧ Turns [] w w' := by
  have HT := Lib.hid (fun C => Turns.alloc (F := []) w (.cells C 38))
  have HF := Lib.hid (heap_alloc_new w (.cells #[.string ⟨#[97]⟩, .int .i64 t, .int .i64 t, .bool false] 38))
  go_enter Try.func23, Try.ntmps23
  go_wp2_with fail
  refine bodyPost_ret (results_cell_row (P := Try.prog) rfl _ _ w.heap.size 38 _ (0, 0) _ rfl HF.out smp_struct rfl (by kernel_rfl)) rfl ?_
  exact ⟨rfl, HT.out _⟩
theorem smK_ok {t : Int} (h1 : -9223372036854775808 ≤ t) (h2 : t ≤ 9223372036854775807) : (smK t).Ok := ⟨by show ([97] : List UInt8).toArray.size ≤ _; simp, ⟨h1, h2⟩, h1, h2⟩
theorem tmK_in (k : Nat) : 3 ≤ tmK k ∧ tmK k ≤ 9 := by unfold tmK; split <;> omega
theorem lsK_len (k : Nat) : (lsK k).length ≤ 1 := by unfold lsK; split <;> simp
/-- A sample that was just laid. -/
theorem lone_smp {X : World} (t : Int) : sK.Reads (X.alloc (.cells #[.string ⟨#[97]⟩, .int .i64 t, .int .i64 t, .bool false] 38)) (X.alloc (.cells #[.string ⟨#[97]⟩, .int .i64 t, .int .i64 t, .bool false] 38)).heap.size (some ⟨X.heap.size, 0, none⟩) [smK t] := by
  have := EK.Reads.lone sOk (smK t) #[.string ⟨#[97]⟩, .int .i64 t, .int .i64 t, .bool false] 38 rfl (W := X) rfl
  rwa [show (X.alloc (.cells #[.string ⟨#[97]⟩, .int .i64 t, .int .i64 t, .bool false] 38)).heap.size = X.heap.size + 1 by simp]
/-- The cells of one verdict. -/
theorem one_seen {B : Nat} {W : World} {o : Value} {x : Sn} (h : nK.Own B W o [x]) : ∃ g c, o = .slice (some ⟨g, 0, none⟩) 1 c ∧ ∀ Y, Turns [] W Y → Y.cell? ⟨g, 4, none⟩ = some (.int .i64 x.v) ∧ Y.cell? ⟨g, 5, none⟩ = some (.bool x.chain) ∧ Y.cell? ⟨g, 6, none⟩ = some (.int .i64 x.ahead) := by
  rcases h.form with ⟨_, e⟩ | ⟨g, c, e, _, hg, _⟩
  · cases e
  · refine ⟨g, c, e, fun Y ht => ?_⟩
    rw [e] at h
    have hc : ∀ j u, (nK.flat [x])[j]? = some u → Y.cell? ⟨g, j, none⟩ = some u := fun j u hj => by
      have := World.ownsRow.cells h (g := g) rfl j u hj
      rw [add_plain', Nat.zero_add] at this
      exact (ht.cell hg (by simp) j).trans this
    exact ⟨hc 4 _ rfl, hc 5 _ rfl, hc 6 _ rfl⟩
set_option maxRecDepth 100000 in
set_option maxHeartbeats 4000000 in
theorem known_any (C : StC) (w : World) : Calls Try.prog 8 #[] w fun e w' => e = .returned (.bool true) ∧ Turns [] w w' := by
  have HN := Lib.hid (lone_newS (C := C) (Turns.refl [] w) 5 (by omega) (by omega))
  have HM := Lib.hid (fun t X => made_any t X)
  go_enter Try.func8, Try.ntmps8
  go_wp2_with fail
  refine (Hid.out HN).mono ?_
  rintro e W1 ⟨p, rfl, h1⟩
  have H1 := Lib.hid (two_newS h1 5 (by omega) (by omega))
  clear h1 HN
  go_wp2_with fail
  refine (Hid.out H1).mono ?_
  rintro e W2 ⟨q, rfl, h2⟩
  change TwoS C (.plain w) W2 p 5 (lsK 0) q 5 [] at h2
  have H2 := Lib.hid h2
  clear h2 H1
  go_wp2_with fail
  obtain ⟨W3, hW3⟩ : ∃ W3, W2.alloc (.cells #[.int .i64 5, .int .i64 5, .int .i64 3, .int .i64 9] 2) = W3 := ⟨_, rfl⟩
  obtain ⟨W4, hW4⟩ : ∃ W4, W3.alloc (.cells #[.int .i64 1, .int .i64 3, .int .i64 2, .int .i64 1] 41) = W4 := ⟨_, rfl⟩
  have ht3 : Turns [] W2 W3 := by rw [← hW3]; exact Turns.alloc _ _
  have ht4 : Turns [] W3 W4 := by rw [← hW4]; exact Turns.alloc _ _
  have hs3 : W3.heap.size = W2.heap.size + 1 := by rw [← hW3]; simp
  have hs4 : W4.heap.size = W2.heap.size + 2 := by rw [← hW4]; simp [hs3]
  have H4 := Lib.hid (H2.out.hold (ht3.then ht4) [W2.heap.size, W2.heap.size + 1] (by simp; omega))
  have HTM : Hid (∀ k, k < 4 → W4.cell? ⟨W2.heap.size, k, none⟩ = some (.int .i64 (tmK k))) := Lib.hid (fun k hk => by
    have hh : Turns [] (W2.alloc (.cells #[.int .i64 5, .int .i64 5, .int .i64 3, .int .i64 9] 2)) W4 := by rw [hW3]; exact ht4
    refine lone_cells _ _ hh k _ ?_
    match k, hk with
    | 0, _ => rfl
    | 1, _ => rfl
    | 2, _ => rfl
    | 3, _ => rfl)
  have HVD : Hid (∀ k, k < 4 → W4.cell? ⟨W2.heap.size + 1, k, none⟩ = some (.int .i64 (vdK k))) := Lib.hid (fun k hk => by
    have hh : Turns [] (W3.alloc (.cells #[.int .i64 1, .int .i64 3, .int .i64 2, .int .i64 1] 41)) W4 := by rw [hW4]; exact Turns.refl _ _
    rw [← hs3]
    refine lone_cells _ _ hh k _ ?_
    match k, hk with
    | 0, _ => rfl
    | 1, _ => rfl
    | 2, _ => rfl
    | 3, _ => rfl)
  rw [hW3, hW4]
  clear hW3 hW4 ht3 ht4 hs3 hs4 H2
  go_loopw [6] (fun i wr => ∃ k : Nat, k ≤ 4 ∧ i = .int .i64 (k : Int) ∧ Hid (TwoS C ⟨w, [W2.heap.size, W2.heap.size + 1], W4⟩ wr p 5 (lsK k) q 5 [])) (fun i _ => 4 - (intOf i).toNat)
  case atStart => exact ⟨0, by omega, rfl, H4⟩
  case round =>
    obtain ⟨k, hk, rfl, HT⟩ := hrel
    have hk0 : (0 : Int) ≤ (k : Int) := by omega
    by_cases hlt : k < 4
    · have hlt' : (k : Int) < 4 := by omega
      have c0 : wr.cell? ⟨W2.heap.size, k, none⟩ = some (.int .i64 (tmK k)) := (HT.out.cell (by simp) k).trans (HTM.out k hlt)
      go_wp2_with fail
      refine (HM.out _ _).mono ?_
      rintro e w1 ⟨rfl, t1⟩
      have HT1 := Lib.hid (HT.out.pre t1)
      have ht2 : Turns [] wr (w1.alloc (.cells #[.string ⟨#[97]⟩, .int .i64 (tmK k), .int .i64 (tmK k), .bool false] 38)) := t1.then (Turns.alloc _ _)
      have HP := Lib.hid (two_putS HT.out ht2 (l := [smK (tmK k)]) (A := some ⟨w1.heap.size, 0, none⟩) (c := 1) (by have := lsK_len k; simp; omega) (by simp) (by decide) (lone_smp (tmK k)) (fun a e => by cases e; exact t1.size) 1 (by omega) (fun x hx => by
        rw [List.mem_singleton] at hx
        subst hx
        have := tmK_in k
        exact smK_ok (by omega) (by omega)))
      rw [stepK k hlt] at HP
      clear t1 ht2 c0
      go_wp2_with fail
      refine HP.out.mono ?_
      rintro e w2 ⟨o, rfl, ho, h2⟩
      obtain ⟨g, c, rfl, hs⟩ := one_seen ho
      have HT2 := Lib.hid h2
      obtain ⟨q4, q5, q6⟩ := hs w2 (Turns.refl _ _)
      have d0 : w2.cell? ⟨W2.heap.size + 1, k, none⟩ = some (.int .i64 (vdK k)) := (HT2.out.cell (by simp) k).trans (HVD.out k hlt)
      have hc3 : ((k : Int) == 3) = decide (k = 3) := by rw [Bool.eq_iff_iff]; simp; omega
      change w2.cell? ⟨g, 4, none⟩ = some (.int .i64 (vdK k)) at q4
      change w2.cell? ⟨g, 5, none⟩ = some (.bool (decide (k = 3))) at q5
      change w2.cell? ⟨g, 6, none⟩ = some (.int .i64 (if k = 3 then 5 else 0)) at q6
      have ha : decide (k = 3) = true → (if k = 3 then (5 : Int) else 0) = 5 := fun h => if_pos (by simpa using h)
      generalize decide (k = 3) = c3 at hc3 q5 ha
      generalize (if k = 3 then (5 : Int) else 0) = ah at q6 ha
      generalize vdK k = vd at q4 d0
      have n1 : (vd != vd) = false := bne_self_eq_false _
      have n2 : (c3 != c3) = false := bne_self_eq_false _
      clear h2 ho hs HP HT1
      cases c3 with
      | true =>
        obtain rfl := ha rfl
        clear ha
        go_wp2_with fail
        go_quiet (fail)
        have HT3 := Lib.hid (HT2.out.pre ((Turns.refl [] w2).drewN nq))
        go_wp2_with fail
        go_roundw
        case rel => exact ⟨k + 1, by omega, by go_num, HT3⟩
        case measure => simp [intOf] <;> omega
      | false =>
        clear ha
        go_wp2_with fail
        go_quiet (fail)
        have HT3 := Lib.hid (HT2.out.pre ((Turns.refl [] w2).drewN nq))
        go_wp2_with fail
        go_roundw
        case rel => exact ⟨k + 1, by omega, by go_num, HT3⟩
        case measure => simp [intOf] <;> omega
    · obtain rfl : k = 4 := by omega
      have HS := Lib.hid (HT.out.swap)
      clear hlt
      go_wp2_with fail
      refine (HM.out _ _).mono ?_
      rintro e w1 ⟨rfl, t1⟩
      have HT1 := Lib.hid (HS.out.pre t1)
      have HP := Lib.hid (two_putS HT1.out (Turns.alloc (F := []) w1 (.cells #[.string ⟨#[97]⟩, .int .i64 5, .int .i64 5, .bool false] 38)) (l := [smK 5]) (A := some ⟨w1.heap.size, 0, none⟩) (c := 1) (by simp) (by simp) (by decide) (lone_smp 5) (fun a e => by cases e; exact Nat.le_refl _) 1 (by omega) (fun x hx => by
        rw [List.mem_singleton] at hx
        subst hx
        exact smK_ok (by omega) (by omega)))
      rw [show putP 5 1 [smK 5] [] = ([snK 0], lsK 1) from stepK 0 (by omega)] at HP
      clear t1
      go_wp2_with fail
      refine HP.out.mono ?_
      rintro e w2 ⟨o, rfl, -, h2⟩
      have HP2 := Lib.hid (two_putS h2 (Turns.refl _ _) (l := []) (A := none) (c := 0) (by have := lsK_len 1; simp; omega) (by simp) (by decide) (.inl rfl) (fun a e => by cases e) 1 (by omega) (fun x hx => by cases hx))
      rw [stepO1] at HP2
      clear h2 HP
      go_wp2_with fail
      refine HP2.out.mono ?_
      rintro e w3 ⟨o3, rfl, -, h3⟩
      have HT3 := Lib.hid h3
      clear h3 HP2
      go_wp2_with fail
      refine (HM.out _ _).mono ?_
      rintro e w4 ⟨rfl, t4⟩
      have HP4 := Lib.hid (two_putS (HT3.out.pre t4) (Turns.alloc (F := []) w4 (.cells #[.string ⟨#[97]⟩, .int .i64 9, .int .i64 9, .bool false] 38)) (l := [smK 9]) (A := some ⟨w4.heap.size, 0, none⟩) (c := 1) (by simp) (by simp) (by decide) (lone_smp 9) (fun a e => by cases e; exact Nat.le_refl _) 1 (by omega) (fun x hx => by
        rw [List.mem_singleton] at hx
        subst hx
        exact smK_ok (by omega) (by omega)))
      rw [stepO2] at HP4
      clear t4
      go_wp2_with fail
      refine HP4.out.mono ?_
      rintro e w5 ⟨o5, rfl, ho, h5⟩
      obtain ⟨g, c, rfl, hs⟩ := one_seen ho
      have HT5 := Lib.hid h5
      obtain ⟨q4, q5, -⟩ := hs w5 (Turns.refl _ _)
      clear ho hs h5 HP4
      go_wp2_with fail
      go_ret
      exact ⟨rfl, HT5.out.turns⟩
end Go.Proofs.Ytadndefbdofodaa
