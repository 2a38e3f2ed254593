/- Which texts are numbers: the program's reading, place by place, and the text's parts. No walk. -/
import Derived.Test.YtmbdggbppbkojaaDoorFixPlain
namespace Go.Proofs.YtmbdggbppbkojaaDoor

structure Shape where
  neg : Bool
  ahead : List UInt8
  behind : List UInt8
  down : Bool
  exp : List UInt8
def signOf : List UInt8 → Bool × List UInt8
  | [] => (false, [])
  | c :: l => if c.toNat = 45 then (true, l) else if c.toNat = 43 then (false, l) else (false, c :: l)
def tailS (neg : Bool) (A B : List UInt8) : List UInt8 → Option Shape
  | [] => some ⟨neg, A, B, false, []⟩
  | c :: l => if c.toNat = 101 ∨ c.toNat = 69 then
      (if (signOf l).2 = [] ∨ (signOf l).2.all isD = false then none else some ⟨neg, A, B, (signOf l).1, (signOf l).2⟩)
    else none
def bodyS (neg : Bool) (l : List UInt8) : Option Shape :=
  match l.dropWhile isD with
  | [] => if l.takeWhile isD = [] then none else tailS neg (l.takeWhile isD) [] []
  | c :: t =>
    if c.toNat = 46 then
      (if l.takeWhile isD = [] ∧ t.takeWhile isD = [] then none else tailS neg (l.takeWhile isD) (t.takeWhile isD) (t.dropWhile isD))
    else if l.takeWhile isD = [] then none else tailS neg (l.takeWhile isD) [] (c :: t)
def shape (l : List UInt8) : Option Shape := bodyS (signOf l).1 (signOf l).2

def resF (x : Nat × Num) : Int × Int := if x.1 = 2 ∨ x.1 = 4 ∨ x.1 = 7 then millF x.2 else (0, 3)
theorem resF_ok {a : Nat} {N : Num} (h : a = 2 ∨ a = 4 ∨ a = 7) : resF (a, N) = millF N := by unfold resF; exact if_pos h
/-- The power's digits, as the program reads them on. -/
def pwF (p : Nat) (l : List UInt8) : Nat := l.foldl (fun p c => if p < 1099511627776 then p * 10 + (c.toNat - 48) else p) p
def powS (s : Shape) : Int := (if s.down then -(pwF 0 s.exp : Int) else pwF 0 s.exp) + 6 - s.behind.length
/-- The answer is that of the text's parts. -/
def Meets (o : Option Shape) (r : Int × Int) : Prop :=
  match o with
  | none => r = (0, 3)
  | some s => Ans s.neg (valF 0 (s.ahead ++ s.behind)) (powS s) r

structure St (N : Num) (neg : Bool) (v bh : Nat) (down : Bool) (pw : Nat) : Prop where
  below : N.below = neg
  dinv : DInv N v
  behind : N.behind = bh
  less : N.less = down
  power : N.power = pw

theorem sub48 (c : UInt8) : ((c.toNat : Int) - 48).toNat = c.toNat - 48 := by omega
theorem digitF_keep (N : Num) (d : Nat) : (digitF N d).below = N.below ∧ (digitF N d).behind = N.behind ∧ (digitF N d).less = N.less ∧ (digitF N d).power = N.power := by
  unfold digitF; split
  · exact ⟨rfl, rfl, rfl, rfl⟩
  · split <;> exact ⟨rfl, rfl, rfl, rfl⟩
theorem St.digit {N : Num} {neg down : Bool} {v bh pw : Nat} (h : St N neg v bh down pw) {c : UInt8} (hc : isD c = true) : St (digitF N (c.toNat - 48)) neg (10 * v + (c.toNat - 48)) bh down pw := by
  have hk := digitF_keep N (c.toNat - 48)
  have h9 := (isD_iff c).1 hc
  exact ⟨hk.1.trans h.below, h.dinv.digit (by omega), hk.2.1.trans h.behind, hk.2.2.1.trans h.less, hk.2.2.2.trans h.power⟩
theorem St.back {N : Num} {neg down : Bool} {v bh pw : Nat} (h : St N neg v bh down pw) : St { N with behind := N.behind + 1 } neg v (bh + 1) down pw :=
  ⟨h.below, h.dinv.keep rfl rfl rfl, by simp [h.behind], h.less, h.power⟩

theorem run_cons (a : Nat) (N : Num) (c : UInt8) (l : List UInt8) : runP a N (c :: l) = if nextF a c.toNat = 8 then (8, N) else runP (nextF a c.toNat) (takeF N (nextF a c.toNat) c.toNat) l := rfl
theorem run_go {a b : Nat} {N N' : Num} {c : UInt8} {l : List UInt8} (h : nextF a c.toNat = b) (hb : b ≠ 8) (hN : takeF N b c.toNat = N') : runP a N (c :: l) = runP b N' l := by
  rw [run_cons, h, if_neg hb, hN]
theorem run_stop {a : Nat} {N : Num} {c : UInt8} {l : List UInt8} (h : nextF a c.toNat = 8) : runP a N (c :: l) = (8, N) := by
  rw [run_cons, if_pos h]
theorem sg (c : UInt8) : isSignB (c.toNat : Int) = decide (c.toNat = 43 ∨ c.toNat = 45) := by
  unfold isSignB; apply decide_eq_decide.2; omega
theorem sg_no {c : UInt8} (h : isD c = true) : isSignB (c.toNat : Int) = false := by
  have := (isD_iff c).1 h
  rw [sg]; apply decide_eq_false; omega

theorem run2 : ∀ (D : List UInt8) (N : Num) (t : List UInt8) (neg down : Bool) (v bh pw : Nat), (∀ c ∈ D, isD c = true) → St N neg v bh down pw →
    ∃ N', runP 2 N (D ++ t) = runP 2 N' t ∧ St N' neg (valF v D) bh down pw
  | [], N, t, _, _, _, _, _, _, h => ⟨N, rfl, h⟩
  | c :: D, N, t, neg, down, v, bh, pw, hD, h => by
    have hc := hD c (List.mem_cons_self ..)
    have h9 := (isD_iff c).1 hc
    obtain ⟨N', e, h'⟩ := run2 D (digitF N (c.toNat - 48)) t neg down _ bh pw (fun x hx => hD x (List.mem_cons_of_mem _ hx)) (h.digit hc)
    refine ⟨N', ?_, by rw [valF_cons]; exact h'⟩
    rw [List.cons_append, run_go (b := 2) (N' := digitF N (c.toNat - 48)) (by simp [nextF, isDigitB_eq, hc]; omega) (by omega) (by simp [takeF, sub48]), e]
theorem run4 : ∀ (D : List UInt8) (N : Num) (t : List UInt8) (neg down : Bool) (v bh pw : Nat), (∀ c ∈ D, isD c = true) → St N neg v bh down pw →
    ∃ N', runP 4 N (D ++ t) = runP 4 N' t ∧ St N' neg (valF v D) (bh + D.length) down pw
  | [], N, t, _, _, _, _, _, _, h => ⟨N, rfl, h⟩
  | c :: D, N, t, neg, down, v, bh, pw, hD, h => by
    have hc := hD c (List.mem_cons_self ..)
    have h9 := (isD_iff c).1 hc
    obtain ⟨N', e, h'⟩ := run4 D (digitF { N with behind := N.behind + 1 } (c.toNat - 48)) t neg down _ (bh + 1) pw (fun x hx => hD x (List.mem_cons_of_mem _ hx)) (h.back.digit hc)
    refine ⟨N', ?_, by rw [valF_cons, List.length_cons, show bh + (D.length + 1) = bh + 1 + D.length by omega]; exact h'⟩
    rw [List.cons_append, run_go (b := 4) (N' := digitF { N with behind := N.behind + 1 } (c.toNat - 48)) (by simp [nextF, isDigitB_eq, hc]; omega) (by omega) (by simp [takeF, sub48, isDigitB_eq, hc]), e]
theorem run7 : ∀ (D : List UInt8) (N : Num) (t : List UInt8) (neg down : Bool) (v bh pw : Nat), (∀ c ∈ D, isD c = true) → St N neg v bh down pw →
    ∃ N', runP 7 N (D ++ t) = runP 7 N' t ∧ St N' neg v bh down (pwF pw D)
  | [], N, t, _, _, _, _, _, _, h => ⟨N, rfl, h⟩
  | c :: D, N, t, neg, down, v, bh, pw, hD, h => by
    have hc := hD c (List.mem_cons_self ..)
    have h9 := (isD_iff c).1 hc
    obtain ⟨N1, hN1, h1⟩ : ∃ N1, takeF N 7 c.toNat = N1 ∧ St N1 neg v bh down (if pw < 1099511627776 then pw * 10 + (c.toNat - 48) else pw) := by
      refine ⟨_, rfl, ?_⟩
      simp only [takeF, sub48, h.power]
      by_cases hp : pw < 1099511627776
      · simp only [hp, if_true]
        exact ⟨h.below, h.dinv.keep rfl rfl rfl, h.behind, h.less, rfl⟩
      · simp only [hp, if_false]
        exact h
    obtain ⟨N', e, h'⟩ := run7 D N1 t neg down _ bh _ (fun x hx => hD x (List.mem_cons_of_mem _ hx)) h1
    refine ⟨N', ?_, h'⟩
    rw [List.cons_append, run_go (b := 7) (N' := N1) (by simp [nextF, isDigitB_eq, hc]) (by omega) hN1, e]

theorem span_eq (l : List UInt8) : l = l.takeWhile isD ++ l.dropWhile isD := (List.takeWhile_append_dropWhile).symm
theorem span_all (l : List UInt8) : ∀ c ∈ l.takeWhile isD, isD c = true := fun c hc => by
  have := List.all_takeWhile (l := l) (p := isD)
  exact List.all_eq_true.1 this c hc
theorem span_head {l : List UInt8} {c : UInt8} {t : List UInt8} (h : l.dropWhile isD = c :: t) : isD c = false := by
  have := List.head?_dropWhile_not isD l
  rw [h] at this
  simpa using this

theorem St.ans {N : Num} {neg down : Bool} {v bh pw : Nat} (h : St N neg v bh down pw) : Ans neg v ((if down then -(pw : Int) else pw) + 6 - bh) (millF N) := by
  have := mill_ans N v ((if down then -(pw : Int) else pw) + 6 - bh) h.dinv (.inl (by unfold upF; rw [h.less, h.power, h.behind]; omega))
  rw [h.below] at this
  exact this

/-- From a place where the number may end, on: the exponent. -/
theorem tail_meets (a : Nat) (ha : a = 2 ∨ a = 4) (N : Num) (A B t : List UInt8) (neg : Bool) (h : St N neg (valF 0 (A ++ B)) B.length false 0)
    (ht : ∀ c t', t = c :: t' → isD c = false ∧ (a = 2 → c.toNat ≠ 46)) : Meets (tailS neg A B t) (resF (runP a N t)) := by
  cases t with
  | nil =>
    have := h.ans
    rw [show runP a N [] = (a, N) from rfl, resF_ok (by omega)]
    simp only [tailS, Meets, powS, pwF, List.foldl_nil]
    simpa using this
  | cons c l =>
    obtain ⟨hnd, hnp⟩ := ht c l rfl
    have hnp' : a = 2 → ¬ ((c.toNat : Int) = 46) := fun e => by have := hnp e; omega
    by_cases he : c.toNat = 101 ∨ c.toNat = 69
    · have hstep : runP a N (c :: l) = runP 5 N l := by
        have he' : (c.toNat : Int) = 101 ∨ (c.toNat : Int) = 69 := by omega
        rcases ha with rfl | rfl
        · exact run_go (by simp [nextF, isDigitB_eq, hnd, hnp' rfl, he']) (by omega) (by simp [takeF])
        · exact run_go (by simp [nextF, isDigitB_eq, hnd, he']) (by omega) (by simp [takeF])
      simp only [tailS, if_pos he]
      rw [hstep]
      -- the sign of the exponent
      have key : ∀ (b : Nat) (M : Num) (E : List UInt8) (down : Bool), (b = 5 ∨ b = 6) → (b = 5 → ∀ c t', E = c :: t' → ¬ (c.toNat = 43 ∨ c.toNat = 45)) → St M neg (valF 0 (A ++ B)) B.length down 0 →
          Meets (if E = [] ∨ E.all isD = false then none else some ⟨neg, A, B, down, E⟩) (resF (runP b M E)) := by
        intro b M E down hb hsg hM
        have hb8 : resF (8, M) = (0, 3) := by simp [resF]
        cases E with
        | nil => rcases hb with rfl | rfl <;> simp [Meets, runP, resF]
        | cons x E =>
          by_cases hx : isD x = true
          · have h9 := (isD_iff x).1 hx
            obtain ⟨N1, hN1, h1⟩ : ∃ N1, runP b M (x :: E) = runP 7 N1 E ∧ St N1 neg (valF 0 (A ++ B)) B.length down (pwF 0 [x]) := by
              obtain ⟨N1, e, h1⟩ := run7 [x] M E neg down _ _ 0 (fun y hy => by simp at hy; rw [hy]; exact hx) hM
              refine ⟨N1, ?_, h1⟩
              rw [← e]
              show runP b M (x :: E) = runP 7 M (x :: E)
              rw [run_cons, run_cons]
              have e1 : nextF b x.toNat = 7 := by rcases hb with rfl | rfl <;> simp [nextF, isDigitB_eq, hx, sg_no hx]
              have e2 : nextF 7 x.toNat = 7 := by simp [nextF, isDigitB_eq, hx]
              rw [e1, e2]
            rw [hN1]
            have hsp := span_eq E
            obtain ⟨N2, e2, h2⟩ := run7 (E.takeWhile isD) N1 (E.dropWhile isD) neg down _ _ _ (span_all E) h1
            rw [hsp.symm] at e2
            rw [e2]
            cases hr : E.dropWhile isD with
            | nil =>
              have hall : E.all isD = true := by rw [hsp, hr, List.append_nil]; exact List.all_takeWhile
              have hE : E.takeWhile isD = E := by rw [hr, List.append_nil] at hsp; exact hsp.symm
              have := h2.ans
              rw [hE] at this
              have hcond : ¬ (x :: E = [] ∨ (x :: E).all isD = false) := by simp [hx, hall]
              rw [if_neg hcond]
              rw [show runP 7 N2 [] = (7, N2) from rfl, resF_ok (by omega)]
              exact this
            | cons y r =>
              have hy := span_head hr
              have hall : (x :: E).all isD = false := by
                rw [hsp, hr]; simp [hy]
              rw [if_pos (.inr hall), run_stop (by simp [nextF, isDigitB_eq, hy])]
              simp [Meets, resF]
          · have hx : isD x = false := by simpa using hx
            have hall : (x :: E).all isD = false := by simp [hx]
            have e1 : nextF b x.toNat = 8 := by
              rcases hb with rfl | rfl
              · have := hsg rfl x E rfl
                simp [nextF, isDigitB_eq, hx, sg, this]
              · simp [nextF, isDigitB_eq, hx]
            rw [if_pos (.inr hall), run_stop e1]
            simp [Meets, resF]
      cases l with
      | nil => exact key 5 N [] false (.inl rfl) (fun _ c t' e => by cases e) h
      | cons s l =>
        by_cases h45 : s.toNat = 45
        · have e : signOf (s :: l) = (true, l) := by simp [signOf, h45]
          rw [e, run_go (b := 6) (N' := { N with less := true }) (by simp [nextF, show isSignB (s.toNat : Int) = true by rw [sg]; simp [h45]]) (by omega) (by simp [takeF, h45])]
          exact key 6 _ l true (.inr rfl) (fun e => by omega) ⟨h.below, h.dinv.keep rfl rfl rfl, h.behind, rfl, h.power⟩
        · by_cases h43 : s.toNat = 43
          · have e : signOf (s :: l) = (false, l) := by simp [signOf, h43]
            rw [e, run_go (b := 6) (N' := { N with less := false }) (by simp [nextF, show isSignB (s.toNat : Int) = true by rw [sg]; simp [h43]]) (by omega) (by simp [takeF, h43])]
            exact key 6 _ l false (.inr rfl) (fun e => by omega) ⟨h.below, h.dinv.keep rfl rfl rfl, h.behind, rfl, h.power⟩
          · have e : signOf (s :: l) = (false, s :: l) := by simp [signOf, h45, h43]
            rw [e]
            exact key 5 N (s :: l) false (.inl rfl) (fun _ c t' e => by cases e; omega) h
    · simp only [tailS, if_neg he, Meets]
      have he1 : ¬ ((c.toNat : Int) = 101) := by omega
      have he2 : ¬ ((c.toNat : Int) = 69) := by omega
      rw [run_stop (by
        rcases ha with rfl | rfl
        · simp [nextF, isDigitB_eq, hnd, hnp' rfl, he1, he2]
        · simp [nextF, isDigitB_eq, hnd, he1, he2])]
      simp [resF]

/-- Behind the sign. -/
theorem body_meets (l : List UInt8) (N : Num) (neg : Bool) (h : St N neg 0 0 false 0) : Meets (bodyS neg l) (resF (runP 1 N l)) := by
  have hsp := span_eq l
  have hall := span_all l
  have hhead : ∀ c t, l.dropWhile isD = c :: t → isD c = false := fun c t e => span_head e
  unfold bodyS
  generalize hA : l.takeWhile isD = A at *
  generalize hT : l.dropWhile isD = T at *
  cases A with
  | nil =>
    have hl : l = T := hsp
    cases T with
    | nil => rw [hl]; simp [Meets, runP, resF]
    | cons c t =>
      have hnd := hhead c t rfl
      rw [hl]
      by_cases h46 : c.toNat = 46
      · have h46' : (c.toNat : Int) = 46 := by omega
        rw [run_go (b := 3) (N' := N) (by simp [nextF, h46']) (by omega) (by simp [takeF])]
        simp only [if_pos h46]
        have hsp2 := span_eq t
        have hall2 := span_all t
        have hhead2 : ∀ c u, t.dropWhile isD = c :: u → isD c = false := fun c u e => span_head e
        generalize t.takeWhile isD = B at *
        generalize t.dropWhile isD = U at *
        cases B with
        | nil =>
          have ht : t = U := hsp2
          rw [ht, if_pos (by simp)]
          cases U with
          | nil => simp [Meets, runP, resF]
          | cons d u =>
            have hd := hhead2 d u rfl
            rw [run_stop (by simp [nextF, isDigitB_eq, hd])]
            simp [Meets, resF]
        | cons b B =>
          rw [if_neg (by simp), hsp2]
          have hb := hall2 b (List.mem_cons_self ..)
          have h9 := (isD_iff b).1 hb
          obtain ⟨N1, e1, h1⟩ := run4 (b :: B) N U neg false 0 0 0 hall2 h
          have e0 : runP 3 N ((b :: B) ++ U) = runP 4 N ((b :: B) ++ U) := by
            rw [List.cons_append, run_cons, run_cons]
            have x3 : nextF 3 b.toNat = 4 := by simp [nextF, isDigitB_eq, hb]
            have x4 : nextF 4 b.toNat = 4 := by simp [nextF, isDigitB_eq, hb]; omega
            rw [x3, x4]
          rw [e0, e1]
          exact tail_meets 4 (.inr rfl) N1 [] (b :: B) U neg (by simpa using h1) (fun c t' e => ⟨hhead2 c t' e, fun h => by omega⟩)
      · simp only [if_neg h46]
        have h46' : ¬ ((c.toNat : Int) = 46) := by omega
        rw [run_stop (by simp [nextF, isDigitB_eq, hnd, h46'])]
        simp [Meets, resF]
  | cons a A =>
    have ha := hall a (List.mem_cons_self ..)
    have h9 := (isD_iff a).1 ha
    obtain ⟨N1, e1, h1⟩ := run2 (a :: A) N T neg false 0 0 0 hall h
    have e0 : runP 1 N ((a :: A) ++ T) = runP 2 N ((a :: A) ++ T) := by
      rw [List.cons_append, run_cons, run_cons]
      have hi : ¬ ((a.toNat : Int) = 46) := by omega
      have x1 : nextF 1 a.toNat = 2 := by simp [nextF, isDigitB_eq, ha, hi]
      have x2 : nextF 2 a.toNat = 2 := by simp [nextF, isDigitB_eq, ha, hi]
      rw [x1, x2]
    rw [hsp, e0, e1]
    cases T with
    | nil =>
      simp only [if_neg (show ¬ (a :: A = []) by simp)]
      exact tail_meets 2 (.inl rfl) N1 (a :: A) [] [] neg (by simpa using h1) (fun c t' e => by cases e)
    | cons c t =>
      have hnd := hhead c t rfl
      by_cases h46 : c.toNat = 46
      · have h46' : (c.toNat : Int) = 46 := by omega
        simp only [if_pos h46]
        rw [if_neg (by simp), run_go (b := 4) (N' := N1) (by simp [nextF, h46']) (by omega) (by simp [takeF, isDigitB_eq, hnd])]
        have hsp2 := span_eq t
        have hall2 := span_all t
        have hhead2 : ∀ c u, t.dropWhile isD = c :: u → isD c = false := fun c u e => span_head e
        generalize t.takeWhile isD = B at *
        generalize t.dropWhile isD = U at *
        obtain ⟨N2, e2, h2⟩ := run4 B N1 U neg false _ 0 0 hall2 h1
        rw [hsp2, e2]
        exact tail_meets 4 (.inr rfl) N2 (a :: A) B U neg (by rw [valF_append]; simpa using h2) (fun c t' e => ⟨hhead2 c t' e, fun h => by omega⟩)
      · simp only [if_neg h46]
        rw [if_neg (by simp)]
        exact tail_meets 2 (.inl rfl) N1 (a :: A) [] (c :: t) neg (by simpa using h1) (fun c' t' e => by cases e; exact ⟨hnd, fun _ => h46⟩)

theorem St.num0 (neg : Bool) : St { num0 with below := neg } neg 0 0 false 0 := ⟨rfl, DInv.zero.keep rfl rfl rfl, rfl, rfl, rfl⟩
/-- What the program answers of a text that is no word: that of the text's parts. -/
theorem parse_meets (l : List UInt8) (hw : isWordB l = false) : Meets (shape l) (parseF l) := by
  have hp : parseF l = resF (runP 0 num0 l) := by simp [parseF, hw, resF]
  rw [hp]
  unfold shape
  cases l with
  | nil => exact body_meets [] { num0 with below := false } false (St.num0 false)
  | cons c l =>
    by_cases h45 : c.toNat = 45
    · have e : signOf (c :: l) = (true, l) := by simp [signOf, h45]
      have hs : isSignB (c.toNat : Int) = true := by rw [sg]; simp [h45]
      rw [e, run_go (b := 1) (N' := { num0 with below := true }) (by simp [nextF, hs]) (by omega) (by simp [takeF, h45])]
      exact body_meets l _ true (St.num0 true)
    · by_cases h43 : c.toNat = 43
      · have e : signOf (c :: l) = (false, l) := by simp [signOf, h43]
        have hs : isSignB (c.toNat : Int) = true := by rw [sg]; simp [h43]
        rw [e, run_go (b := 1) (N' := { num0 with below := false }) (by simp [nextF, hs]) (by omega) (by simp [takeF, h43])]
        exact body_meets l _ false (St.num0 false)
      · have e : signOf (c :: l) = (false, c :: l) := by simp [signOf, h45, h43]
        have hs : isSignB (c.toNat : Int) = false := by rw [sg]; simp [h45, h43]
        have x : runP 0 num0 (c :: l) = runP 1 num0 (c :: l) := by
          rw [run_cons, run_cons]
          have : nextF 0 c.toNat = nextF 1 c.toNat := by simp [nextF, hs]
          rw [this]
        rw [e, x]
        exact body_meets (c :: l) { num0 with below := false } false (St.num0 false)

/-! ### The document's reading of the power stops elsewhere. -/
def capF (p : Nat) (l : List UInt8) : Nat := l.foldl (fun p c => min (10 * p + (c.toNat - 48)) 1099511627776) p
theorem cap_pw : ∀ (l : List UInt8) (p q : Nat), ((p = q ∧ p ≤ 1099511627776) ∨ (1099511627776 ≤ p ∧ q = 1099511627776)) →
    (pwF p l = capF q l ∧ capF q l ≤ 1099511627776) ∨ (1099511627776 ≤ pwF p l ∧ capF q l = 1099511627776)
  | [], p, q, h => by simp only [pwF, capF, List.foldl_nil]; omega
  | c :: l, p, q, h => by
    show (pwF (if p < 1099511627776 then p * 10 + (c.toNat - 48) else p) l = capF (min (10 * q + (c.toNat - 48)) 1099511627776) l ∧ _) ∨ _
    refine cap_pw l _ _ ?_
    by_cases hp : p < 1099511627776
    · rw [if_pos hp]; omega
    · rw [if_neg hp]; omega
theorem cap_pw0 (l : List UInt8) : pwF 0 l = capF 0 l ∨ (1099511627776 ≤ pwF 0 l ∧ capF 0 l = 1099511627776) := by
  rcases cap_pw l 0 0 (.inl ⟨rfl, by omega⟩) with h | h
  · exact .inl h.1
  · exact .inr h
theorem valF_lt : ∀ (l : List UInt8) (n k : Nat), (∀ c ∈ l, isD c = true) → n < 10 ^ k → valF n l < 10 ^ (k + l.length)
  | [], n, k, _, h => h
  | c :: l, n, k, hl, h => by
    have h9 := (isD_iff c).1 (hl c (List.mem_cons_self ..))
    rw [valF_cons, List.length_cons, show k + (l.length + 1) = (k + 1) + l.length by omega]
    refine valF_lt l _ _ (fun x hx => hl x (List.mem_cons_of_mem _ hx)) ?_
    rw [Nat.pow_succ]
    omega
def powR (s : Shape) : Int := (if s.down then -(capF 0 s.exp : Int) else capF 0 s.exp) + 6 - s.behind.length
theorem Ans.capped {s : Shape} {r : Int × Int} (hd : ∀ c ∈ s.ahead ++ s.behind, isD c = true) (hn : (s.ahead ++ s.behind).length ≤ 1000000) (h : Ans s.neg (valF 0 (s.ahead ++ s.behind)) (powS s) r) :
    Ans s.neg (valF 0 (s.ahead ++ s.behind)) (powR s) r := by
  rcases cap_pw0 s.exp with e | ⟨h1, h2⟩
  · unfold powS at h; rw [e] at h; exact h
  · have hv := valF_lt (s.ahead ++ s.behind) 0 0 hd (by simp)
    have hb : s.behind.length ≤ 1000000 := by simp at hn; omega
    unfold powS at h
    unfold powR
    rw [h2]
    cases hdn : s.down with
    | false =>
      rw [hdn] at h
      exact h.far_up (by simp; omega) (by simp; omega)
    | true =>
      rw [hdn] at h
      exact h.far_down hv (by simp at hn ⊢; omega) (by simp at hn ⊢; omega)
end Go.Proofs.YtmbdggbppbkojaaDoor
