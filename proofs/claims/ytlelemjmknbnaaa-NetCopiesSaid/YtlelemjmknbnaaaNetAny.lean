/- Each call of a net, and of the document's, in one form: the code, and what becomes of the contents. -/
import Derived.Test.YtlelemjmknbnaaaNetTwo
namespace Go.Proofs.Ytlelemjmknbnaaa
open Go.RowKit

/-- What becomes of the one whose number is k. -/
def updM (k : Int) (g : Cn → Cn) (cs : List Cn) : List Cn := cs.map fun c => if (c.id : Int) = k then g c else c
theorem updM_other {k : Int} {g : Cn → Cn} {cs : List Cn} (h : ∀ c ∈ cs, (c.id : Int) ≠ k) : updM k g cs = cs := by
  unfold updM
  conv => rhs; rw [← List.map_id cs]
  exact List.map_congr_left fun c hc => if_neg (h c hc)
theorem updM_same {k : Int} {g : Cn → Cn} {cs : List Cn} (h : ∀ c ∈ cs, (c.id : Int) = k → g c = c) : updM k g cs = cs := by
  unfold updM
  conv => rhs; rw [← List.map_id cs]
  refine List.map_congr_left fun c hc => ?_
  by_cases hk : (c.id : Int) = k
  · rw [if_pos hk]; exact h c hc hk
  · exact if_neg hk
theorem updM_mid {C1 C2 : List Cn} {x x' : Cn} {k : Int} {g : Cn → Cn} (hx : (x.id : Int) = k) (hg : g x = x') (hr : (C1 ++ x :: C2).Pairwise fun a b => a.id < b.id) : updM k g (C1 ++ x :: C2) = C1 ++ x' :: C2 := by
  rw [List.pairwise_append, List.pairwise_cons] at hr
  have e1 : updM k g C1 = C1 := updM_other fun c hc => by
    have := hr.2.2 c hc x (List.mem_cons_self ..)
    omega
  have e2 : updM k g C2 = C2 := updM_other fun c hc => by
    have := hr.2.1.1 c hc
    omega
  unfold updM at e1 e2 ⊢
  rw [List.map_append, List.map_cons, e1, e2, if_pos hx, hg]
theorem rise_fst {L : List NE} (h : L.Pairwise fun x y => x.1.id < y.1.id) : (L.map Prod.fst).Pairwise fun a b => a.id < b.id := List.pairwise_map.2 h
theorem rise_toC {rs : List Rc} (h : rs.Pairwise fun x y => x.id < y.id) : (rs.map toC).Pairwise fun a b => a.id < b.id := List.pairwise_map.2 h
theorem mem_getE {L : List NE} (hr : L.Pairwise fun x y => x.1.id < y.1.id) {c : Cn} {k : Int} (hc : c ∈ L.map Prod.fst) (hk : (c.id : Int) = k) : ∃ x, getE L k = some x ∧ x.1 = c := by
  obtain ⟨x, hx, rfl⟩ := List.mem_map.1 hc
  exact ⟨x, by rw [← hk]; exact getE_of_mem hr hx, rfl⟩
theorem mem_getR {rs : List Rc} (hr : rs.Pairwise fun x y => x.id < y.id) {c : Cn} {k : Int} (hc : c ∈ rs.map toC) (hk : (c.id : Int) = k) : ∃ r, getR rs k = some r ∧ toC r = c := by
  obtain ⟨r, hx, rfl⟩ := List.mem_map.1 hc
  obtain ⟨i, hi⟩ := List.getElem?_of_mem hx
  exact ⟨r, getR_at hr hi hk, rfl⟩
/-- The net behind a call. -/
def NPost (B : Nat) (w : World) (bn bm : Nat) (most last : Int) (L : List NE) (code : Int) (cs : List Cn) (e : Ending) (w' : World) : Prop :=
  e = .returned (.int .i64 code) ∧ (∃ L', NetAt B w' bn bm most last L' ∧ L'.map Prod.fst = cs ∧ ∀ i ∈ footL L', i ∈ footL L ∨ w.heap.size ≤ i) ∧ Turns (bn :: bm :: footL L) w w'
/-- No text is longer than it was by more than a, and there are no more. -/
def Grow (a : Nat) (rs rs' : List Rc) : Prop := rs'.length ≤ rs.length ∧ ∀ r' ∈ rs', ∃ r ∈ rs, r'.inn.length ≤ r.inn.length + a ∧ r'.out.length ≤ r.out.length + a ∧ r'.host = r.host ∧ (r.st ≠ 0 → r'.st ≠ 0)
theorem Grow.refl (a : Nat) (rs : List Rc) : Grow a rs rs := ⟨Nat.le_refl _, fun r hr => ⟨r, hr, Nat.le_add_right .., Nat.le_add_right .., rfl, id⟩⟩
theorem Grow.mid {a : Nat} {R1 R2 : List Rc} {r r' : Rc} (h : r'.inn.length ≤ r.inn.length + a ∧ r'.out.length ≤ r.out.length + a ∧ r'.host = r.host ∧ (r.st ≠ 0 → r'.st ≠ 0)) : Grow a (R1 ++ r :: R2) (R1 ++ r' :: R2) := by
  refine ⟨by simp, fun x hx => ?_⟩
  rcases List.mem_append.1 hx with hx | hx
  · exact ⟨x, List.mem_append.2 (.inl hx), Nat.le_add_right .., Nat.le_add_right .., rfl, id⟩
  · rcases List.mem_cons.1 hx with rfl | hx
    · exact ⟨r, by simp, h⟩
    · exact ⟨x, by simp [hx], Nat.le_add_right .., Nat.le_add_right .., rfl, id⟩
theorem Grow.drop (a : Nat) (R1 R2 : List Rc) (r : Rc) : Grow a (R1 ++ r :: R2) (R1 ++ R2) := by
  refine ⟨by simp, fun x hx => ⟨x, ?_, Nat.le_add_right .., Nat.le_add_right .., rfl, id⟩⟩
  rcases List.mem_append.1 hx with hx | hx
  · exact List.mem_append.2 (.inl hx)
  · exact List.mem_append.2 (.inr (List.mem_cons.2 (.inr hx)))
/-- The document's behind a call. -/
def DPost (B : Nat) (w : World) (rn : Nat) (v : Value) (most : Int) (N : Nat) (rs : List Rc) (a : Nat) (code : Int) (cs : List Cn) (e : Ending) (w' : World) : Prop :=
  e = .returned (.int .i64 code) ∧ (∃ v' rs', RefAt B w' rn v' most N rs' ∧ rs'.map toC = cs ∧ Grow a rs rs' ∧ ∀ i ∈ ownB v', i ∈ ownB v ∨ w.heap.size ≤ i) ∧ Turns (rn :: ownB v) w w'
theorem foot_mem {L1 L2 : List NE} {x : NE} : ∀ i ∈ x.2.foot, i ∈ footL (L1 ++ x :: L2) := fun i hi => mem_footL.2 ⟨x, by simp, hi⟩
theorem foot_grow {L1 L2 : List NE} {x x' : NE} {m : Nat} (hf : ∀ i ∈ x'.2.foot, i ∈ x.2.foot ∨ m ≤ i) : ∀ i ∈ footL (L1 ++ x' :: L2), i ∈ footL (L1 ++ x :: L2) ∨ m ≤ i := by
  intro i hi
  rw [footL_mid] at hi ⊢
  rcases List.mem_append.1 hi with h1 | h1
  · exact .inl (List.mem_append.2 (.inl h1))
  · rcases List.mem_append.1 h1 with h2 | h2
    · rcases hf i h2 with h3 | h3
      · exact .inl (List.mem_append.2 (.inr (List.mem_append.2 (.inl h3))))
      · exact .inr h3
    · exact .inl (List.mem_append.2 (.inr (List.mem_append.2 (.inr h2))))
theorem np_ok {B : Nat} {w w' : World} {bn bm : Nat} {most last : Int} {L1 L2 : List NE} {x x' : NE} {g : Cn → Cn} {e : Ending} (hr : (L1 ++ x :: L2).Pairwise fun x y => x.1.id < y.1.id) (hg : g x.1 = x'.1) (hf : ∀ i ∈ x'.2.foot, i ∈ x.2.foot ∨ w.heap.size ≤ i) (h : TurnPost B w bn bm most last L1 L2 x x' e w') :
    NPost B w bn bm most last (L1 ++ x :: L2) 0 (updM (x.1.id : Int) g ((L1 ++ x :: L2).map Prod.fst)) e w' := by
  obtain ⟨he, hn, ht⟩ := h
  refine ⟨he, ⟨_, hn, ?_, foot_grow hf⟩, ht.mono fun i hi => by simp [foot_mem i hi]⟩
  have hr' := rise_fst hr
  rw [List.map_append, List.map_cons] at hr' ⊢
  rw [List.map_append, List.map_cons, updM_mid rfl hg hr']
theorem va_foot {p : Pl} : ∀ i ∈ ({ p with va := .slice none 0 0 } : Pl).foot, i ∈ p.foot := fun i hi => by
  rcases Pl.mem_foot.1 hi with h1 | h1 | h1
  · exact Pl.mem_foot.2 (.inl h1)
  · simp [ownB, Value.ownBlock] at h1
  · exact Pl.mem_foot.2 (.inr (.inr h1))
theorem np_no {B : Nat} {w w' : World} {bn bm : Nat} {most last : Int} {L : List NE} {k c : Int} {g : Cn → Cn} {e : Ending} (h : NetAt B w bn bm most last L) (he : e = .returned (.int .i64 c)) (hs : ∀ x, getE L k = some x → g x.1 = x.1) (ht : Turns [] w w') :
    NPost B w bn bm most last L c (updM k g (L.map Prod.fst)) e w' := by
  refine ⟨he, ⟨L, h.kept ht (by simp), ?_, fun i hi => .inl hi⟩, ht.mono (by simp)⟩
  refine (updM_same fun c hc hk => ?_).symm
  obtain ⟨x, hx, rfl⟩ := mem_getE h.rise hc hk
  exact hs x hx
theorem dp_ok {B : Nat} {w w' : World} {rn : Nat} {v : Value} {most : Int} {N : Nat} {R1 R2 : List Rc} {r r' : Rc} {g : Cn → Cn} {e : Ending} {a : Nat} (hr : (R1 ++ r :: R2).Pairwise fun x y => x.id < y.id) (hg : g (toC r) = toC r') (hb : r'.inn.length ≤ r.inn.length + a ∧ r'.out.length ≤ r.out.length + a ∧ r'.host = r.host ∧ (r.st ≠ 0 → r'.st ≠ 0)) (h : DTurn B w rn v most N R1 R2 r r' e w') :
    DPost B w rn v most N (R1 ++ r :: R2) a 0 (updM (r.id : Int) g ((R1 ++ r :: R2).map toC)) e w' := by
  obtain ⟨he, hn, ht⟩ := h
  refine ⟨he, ⟨_, _, hn, ?_, Grow.mid hb, fun i hi => .inl hi⟩, ht.mono fun i hi => List.mem_cons.2 (.inr hi)⟩
  have hr' := rise_toC hr
  rw [List.map_append, List.map_cons] at hr' ⊢
  rw [List.map_append, List.map_cons]
  exact (updM_mid (x := toC r) (k := (r.id : Int)) rfl hg hr').symm
theorem dp_no {B : Nat} {w w' : World} {rn : Nat} {v : Value} {most : Int} {N : Nat} {rs : List Rc} {k c : Int} {g : Cn → Cn} {e : Ending} {a : Nat} (h : RefAt B w rn v most N rs) (he : e = .returned (.int .i64 c)) (hs : ∀ r, getR rs k = some r → g (toC r) = toC r) (ht : Turns [] w w') :
    DPost B w rn v most N rs a c (updM k g (rs.map toC)) e w' := by
  refine ⟨he, ⟨v, rs, h.kept ht (by simp) (by simp), ?_, Grow.refl _ _, fun i hi => .inl hi⟩, ht.mono (by simp)⟩
  refine (updM_same fun c hc hk => ?_).symm
  obtain ⟨r, hx, rfl⟩ := mem_getR h.rise hc hk
  exact hs r hx
theorem getR_mem {rs : List Rc} {k : Int} {r : Rc} (h : getR rs k = some r) : r ∈ rs := List.mem_of_find?_eq_some h
theorem accept_any {B : Nat} {w : World} {bn bm : Nat} {most last : Int} {L : List NE} (h : NetAt B w bn bm most last L) (k : Int) (hk : (Lit.int .i64 k).wf = true) :
    Calls Try.prog 15 #[.pointer (some ⟨bn, 0, none⟩), .int .i64 k] w (NPost B w bn bm most last L (codeV (getE L k) [1]) (updM k (fun c => if c.st = 1 then { c with st := 2 } else c) (L.map Prod.fst))) := by
  by_cases hz : codeV (getE L k) [1] = 0
  · rw [hz]
    cases hg : getE L k with
    | none => rw [hg] at hz; cases hz
    | some x =>
      rw [hg] at hz
      have hs : x.1.st = 1 := by
        by_cases hm : x.1.st ∈ [(1 : Int)]
        · simpa using hm
        · exact absurd ((if_neg hm).symm.trans hz) (by decide)
      obtain ⟨L1, L2, rfl, rfl⟩ := getE_split hg
      exact (accept_ok h hk hs).mono fun e w' hp => np_ok h.rise (x' := ({ x.1 with st := 2 }, x.2)) (by simp [hs]) (fun i hi => .inl hi) hp
  · refine (accept_no h k hk hz).mono fun e w' hp => np_no h hp.1 (fun x hx => ?_) hp.2
    rw [hx] at hz
    refine if_neg fun hs => hz ?_
    simp [codeV, hs]
theorem raccept_any {B : Nat} {w : World} {rn : Nat} {v : Value} {most : Int} {N : Nat} {rs : List Rc} (h : RefAt B w rn v most N rs) (hl : rs.length ≤ 1000) (k : Int) :
    Calls Try.prog 20 #[.pointer (some ⟨rn, 0, none⟩), .int .i64 k] w (DPost B w rn v most N rs 0 (codeR (getR rs k) 1) (updM k (fun c => if c.st = 1 then { c with st := 2 } else c) (rs.map toC))) := by
  by_cases hz : codeR (getR rs k) 1 = 0
  · rw [hz]
    cases hg : getR rs k with
    | none => rw [hg] at hz; cases hz
    | some r =>
      rw [hg] at hz
      have hs : r.st = 1 := by
        by_cases hm : r.st = 1
        · exact hm
        · exact absurd ((if_neg hm).symm.trans hz) (by decide)
      obtain ⟨R1, R2, rfl, rfl⟩ := getR_split hg
      exact (raccept_ok h hl hs).mono fun e w' hp => dp_ok h.rise (by simp [toC, hs]) ⟨by simp, by simp, by rfl, by simp [hs]⟩ hp
  · refine (raccept_no h hl k hz).mono fun e w' hp => dp_no h hp.1 (fun r hx => ?_) (by rw [← hp.2]; exact Turns.refl _ _)
    rw [hx] at hz
    exact if_neg fun hs => hz (if_pos hs)
theorem refuse_any {B : Nat} {w : World} {bn bm : Nat} {most last : Int} {L : List NE} (h : NetAt B w bn bm most last L) (k : Int) (hk : (Lit.int .i64 k).wf = true) :
    Calls Try.prog 21 #[.pointer (some ⟨bn, 0, none⟩), .int .i64 k] w (NPost B w bn bm most last L (codeV (getE L k) [1]) (updM k (fun c => if c.st = 1 then { c with st := 4 } else c) (L.map Prod.fst))) := by
  by_cases hz : codeV (getE L k) [1] = 0
  · rw [hz]
    cases hg : getE L k with
    | none => rw [hg] at hz; cases hz
    | some x =>
      rw [hg] at hz
      have hs : x.1.st = 1 := by
        by_cases hm : x.1.st ∈ [(1 : Int)]
        · simpa using hm
        · exact absurd ((if_neg hm).symm.trans hz) (by decide)
      obtain ⟨L1, L2, rfl, rfl⟩ := getE_split hg
      exact (refuse_ok h hk hs).mono fun e w' hp => np_ok h.rise (x' := ({ x.1 with st := 4 }, x.2)) (by simp [hs]) (fun i hi => .inl hi) hp
  · refine (refuse_no h k hk hz).mono fun e w' hp => np_no h hp.1 (fun x hx => ?_) hp.2
    rw [hx] at hz
    refine if_neg fun hs => hz ?_
    simp [codeV, hs]
theorem rrefuse_any {B : Nat} {w : World} {rn : Nat} {v : Value} {most : Int} {N : Nat} {rs : List Rc} (h : RefAt B w rn v most N rs) (hl : rs.length ≤ 1000) (k : Int) :
    Calls Try.prog 22 #[.pointer (some ⟨rn, 0, none⟩), .int .i64 k] w (DPost B w rn v most N rs 0 (codeR (getR rs k) 1) (updM k (fun c => if c.st = 1 then { c with st := 4 } else c) (rs.map toC))) := by
  by_cases hz : codeR (getR rs k) 1 = 0
  · rw [hz]
    cases hg : getR rs k with
    | none => rw [hg] at hz; cases hz
    | some r =>
      rw [hg] at hz
      have hs : r.st = 1 := by
        by_cases hm : r.st = 1
        · exact hm
        · exact absurd ((if_neg hm).symm.trans hz) (by decide)
      obtain ⟨R1, R2, rfl, rfl⟩ := getR_split hg
      exact (rrefuse_ok h hl hs).mono fun e w' hp => dp_ok h.rise (by simp [toC, hs]) ⟨by simp, by simp, by rfl, by simp [hs]⟩ hp
  · refine (rrefuse_no h hl k hz).mono fun e w' hp => dp_no h hp.1 (fun r hx => ?_) (by rw [← hp.2]; exact Turns.refl _ _)
    rw [hx] at hz
    exact if_neg fun hs => hz (if_pos hs)
theorem end_any {B : Nat} {w : World} {bn bm : Nat} {most last : Int} {L : List NE} (h : NetAt B w bn bm most last L) (k : Int) (hk : (Lit.int .i64 k).wf = true) :
    Calls Try.prog 17 #[.pointer (some ⟨bn, 0, none⟩), .int .i64 k] w (NPost B w bn bm most last L (codeV (getE L k) [2]) (updM k (fun c => if c.st = 2 then { c with st := 3 } else c) (L.map Prod.fst))) := by
  by_cases hz : codeV (getE L k) [2] = 0
  · rw [hz]
    cases hg : getE L k with
    | none => rw [hg] at hz; cases hz
    | some x =>
      rw [hg] at hz
      have hs : x.1.st = 2 := by
        by_cases hm : x.1.st ∈ [(2 : Int)]
        · simpa using hm
        · exact absurd ((if_neg hm).symm.trans hz) (by decide)
      obtain ⟨L1, L2, rfl, rfl⟩ := getE_split hg
      exact (end_ok h hk hs).mono fun e w' hp => np_ok h.rise (x' := ({ x.1 with st := 3 }, x.2)) (by simp [hs]) (fun i hi => .inl hi) hp
  · refine (end_no h k hk hz).mono fun e w' hp => np_no h hp.1 (fun x hx => ?_) hp.2
    rw [hx] at hz
    refine if_neg fun hs => hz ?_
    simp [codeV, hs]
theorem rend_any {B : Nat} {w : World} {rn : Nat} {v : Value} {most : Int} {N : Nat} {rs : List Rc} (h : RefAt B w rn v most N rs) (hl : rs.length ≤ 1000) (k : Int) :
    Calls Try.prog 25 #[.pointer (some ⟨rn, 0, none⟩), .int .i64 k] w (DPost B w rn v most N rs 0 (codeR (getR rs k) 2) (updM k (fun c => if c.st = 2 then { c with st := 3 } else c) (rs.map toC))) := by
  by_cases hz : codeR (getR rs k) 2 = 0
  · rw [hz]
    cases hg : getR rs k with
    | none => rw [hg] at hz; cases hz
    | some r =>
      rw [hg] at hz
      have hs : r.st = 2 := by
        by_cases hm : r.st = 2
        · exact hm
        · exact absurd ((if_neg hm).symm.trans hz) (by decide)
      obtain ⟨R1, R2, rfl, rfl⟩ := getR_split hg
      exact (rend_ok h hl hs).mono fun e w' hp => dp_ok h.rise (by simp [toC, hs]) ⟨by simp, by simp, by rfl, by simp [hs]⟩ hp
  · refine (rend_no h hl k hz).mono fun e w' hp => dp_no h hp.1 (fun r hx => ?_) (by rw [← hp.2]; exact Turns.refl _ _)
    rw [hx] at hz
    exact if_neg fun hs => hz (if_pos hs)
theorem reset_any {B : Nat} {w : World} {bn bm : Nat} {most last : Int} {L : List NE} (h : NetAt B w bn bm most last L) (k : Int) (hk : (Lit.int .i64 k).wf = true) :
    Calls Try.prog 23 #[.pointer (some ⟨bn, 0, none⟩), .int .i64 k] w (NPost B w bn bm most last L (codeV (getE L k) [2, 3]) (updM k (fun c => if c.st = 2 ∨ c.st = 3 then { c with st := 5, inn := [] } else c) (L.map Prod.fst))) := by
  by_cases hz : codeV (getE L k) [2, 3] = 0
  · rw [hz]
    cases hg : getE L k with
    | none => rw [hg] at hz; cases hz
    | some x =>
      rw [hg] at hz
      have hs : x.1.st = 2 ∨ x.1.st = 3 := by
        by_cases hm : x.1.st ∈ [(2 : Int), 3]
        · simpa using hm
        · exact absurd ((if_neg hm).symm.trans hz) (by decide)
      obtain ⟨L1, L2, rfl, rfl⟩ := getE_split hg
      exact (reset_ok h hk hs).mono fun e w' hp => np_ok h.rise (x' := ({ x.1 with st := 5, inn := [] }, { x.2 with va := .slice none 0 0 })) (if_pos hs) (fun i hi => .inl (va_foot i hi)) hp
  · refine (reset_no h k hk hz).mono fun e w' hp => np_no h hp.1 (fun x hx => ?_) hp.2
    rw [hx] at hz
    refine if_neg fun hs => hz ?_
    simp [codeV, hs]
theorem rreset_any {B : Nat} {w : World} {rn : Nat} {v : Value} {most : Int} {N : Nat} {rs : List Rc} (h : RefAt B w rn v most N rs) (hl : rs.length ≤ 1000) (k : Int) :
    Calls Try.prog 24 #[.pointer (some ⟨rn, 0, none⟩), .int .i64 k] w (DPost B w rn v most N rs 0 (code23 (getR rs k)) (updM k (fun c => if c.st = 2 ∨ c.st = 3 then { c with st := 5, inn := [] } else c) (rs.map toC))) := by
  by_cases hz : code23 (getR rs k) = 0
  · rw [hz]
    cases hg : getR rs k with
    | none => rw [hg] at hz; cases hz
    | some r =>
      rw [hg] at hz
      have hs : r.st = 2 ∨ r.st = 3 := by
        by_cases hm : r.st = 2 ∨ r.st = 3
        · exact hm
        · exact absurd ((if_neg hm).symm.trans hz) (by decide)
      obtain ⟨R1, R2, rfl, rfl⟩ := getR_split hg
      exact (rreset_ok h hl hs).mono fun e w' hp => dp_ok h.rise (by simp [toC, hs]) ⟨by simp, by simp, by rfl, by simp [hs]⟩ hp
  · refine (rreset_no h hl k hz).mono fun e w' hp => dp_no h hp.1 (fun r hx => ?_) (by rw [← hp.2]; exact Turns.refl _ _)
    rw [hx] at hz
    exact if_neg fun hs => hz (if_pos hs)
theorem arrive_any {B : Nat} {w : World} {bn bm : Nat} {most last : Int} {L : List NE} (h : NetAt B w bn bm most last L) (k : Int) (hk : (Lit.int .i64 k).wf = true) (Bx : Nat) (A : Option Addr) (l : List UInt8) (c : Nat) (hr : BReads w Bx A l) (hBx : Bx ≤ w.heap.size) (hc : A = none → c = 0) (hlen : ∀ x ∈ L, x.1.inn.length + l.length ≤ 1000000) :
    Calls Try.prog 16 #[.pointer (some ⟨bn, 0, none⟩), .int .i64 k, .slice A l.length c] w (NPost B w bn bm most last L (codeV (getE L k) [2]) (updM k (fun c => if c.st = 2 then { c with inn := c.inn ++ l } else c) (L.map Prod.fst))) := by
  by_cases hz : codeV (getE L k) [2] = 0
  · rw [hz]
    cases hg : getE L k with
    | none => rw [hg] at hz; cases hz
    | some x =>
      rw [hg] at hz
      have hs : x.1.st = 2 := by
        by_cases hm : x.1.st ∈ [(2 : Int)]
        · simpa using hm
        · exact absurd ((if_neg hm).symm.trans hz) (by decide)
      obtain ⟨L1, L2, rfl, rfl⟩ := getE_split hg
      refine (arrive_ok2 h hk hs Bx A l c hr hBx hc (hlen x (by simp))).mono fun e w' hp => ?_
      obtain ⟨he, ⟨v', hn, hv⟩, ht⟩ := hp
      refine np_ok h.rise (x' := ({ x.1 with inn := x.1.inn ++ l }, { x.2 with va := v' })) (by simp [hs]) (fun i hi => ?_) ⟨he, hn, ht⟩
      rcases Pl.mem_foot.1 hi with h1 | h1 | h1
      · exact .inl (Pl.mem_foot.2 (.inl h1))
      · rcases ownB_new hv i h1 with h2 | h2
        · exact .inl (Pl.mem_foot.2 (.inr (.inl h2)))
        · exact .inr (by omega)
      · exact .inl (Pl.mem_foot.2 (.inr (.inr h1)))
  · refine (arrive_no h k hk hz _).mono fun e w' hp => np_no h hp.1 (fun x hx => ?_) hp.2
    rw [hx] at hz
    refine if_neg fun hs => hz ?_
    simp [codeV, hs]
theorem rarrive_any {B : Nat} {w : World} {rn : Nat} {v : Value} {most : Int} {N : Nat} {rs : List Rc} (h : RefAt B w rn v most N rs) (hl : rs.length ≤ 1000) (k : Int) (Bx : Nat) (A : Option Addr) (l : List UInt8) (cb : Nat) (hr : BReads w Bx A l) (hBx : Bx ≤ w.heap.size) (hlen : ∀ r ∈ rs, r.inn.length + l.length ≤ 1000000) :
    Calls Try.prog 26 #[.pointer (some ⟨rn, 0, none⟩), .int .i64 k, .slice A l.length cb] w (DPost B w rn v most N rs l.length (codeR (getR rs k) 2) (updM k (fun c => if c.st = 2 then { c with inn := c.inn ++ l } else c) (rs.map toC))) := by
  by_cases hz : codeR (getR rs k) 2 = 0
  · rw [hz]
    cases hg : getR rs k with
    | none => rw [hg] at hz; cases hz
    | some r =>
      rw [hg] at hz
      have hs : r.st = 2 := by
        by_cases hm : r.st = 2
        · exact hm
        · exact absurd ((if_neg hm).symm.trans hz) (by decide)
      have hat := h.ats r (getR_mem hg)
      obtain ⟨R1, R2, rfl, rfl⟩ := getR_split hg
      exact (rarrive_ok h hl hs Bx A l cb hr hBx (hlen r (by simp))).mono fun e w' hp => dp_ok h.rise (by simp [toC, hs, List.drop_append_of_le_length, hat]) ⟨by simp, by simp, by rfl, by simp [hs]⟩ hp
  · refine (rarrive_no h hl k hz _).mono fun e w' hp => dp_no h hp.1 (fun r hx => ?_) (by rw [← hp.2]; exact Turns.refl _ _)
    rw [hx] at hz
    exact if_neg fun hs => hz (if_pos hs)
theorem send_any {B : Nat} {w : World} {bn bm : Nat} {most last : Int} {L : List NE} (h : NetAt B w bn bm most last L) (k : Int) (hk : (Lit.int .i64 k).wf = true) (Bx : Nat) (A : Option Addr) (l : List UInt8) (c : Nat) (hr : BReads w Bx A l) (hBx : Bx ≤ w.heap.size) (hc : A = none → c = 0) (hlen : ∀ x ∈ L, x.1.out.length + l.length ≤ 1000000) :
    Calls Try.prog 27 #[.pointer (some ⟨bn, 0, none⟩), .int .i64 k, .slice A l.length c] w (NPost B w bn bm most last L (codeV (getE L k) [2]) (updM k (fun c => if c.st = 2 then { c with out := c.out ++ l } else c) (L.map Prod.fst))) := by
  by_cases hz : codeV (getE L k) [2] = 0
  · rw [hz]
    cases hg : getE L k with
    | none => rw [hg] at hz; cases hz
    | some x =>
      rw [hg] at hz
      have hs : x.1.st = 2 := by
        by_cases hm : x.1.st ∈ [(2 : Int)]
        · simpa using hm
        · exact absurd ((if_neg hm).symm.trans hz) (by decide)
      obtain ⟨L1, L2, rfl, rfl⟩ := getE_split hg
      refine (send_ok2 h hk hs Bx A l c hr hBx hc (hlen x (by simp))).mono fun e w' hp => ?_
      obtain ⟨he, ⟨v', hn, hv⟩, ht⟩ := hp
      refine np_ok h.rise (x' := ({ x.1 with out := x.1.out ++ l }, { x.2 with vs := v' })) (by simp [hs]) (fun i hi => ?_) ⟨he, hn, ht⟩
      rcases Pl.mem_foot.1 hi with h1 | h1 | h1
      · exact .inl (Pl.mem_foot.2 (.inl h1))
      · exact .inl (Pl.mem_foot.2 (.inr (.inl h1)))
      · rcases ownB_new hv i h1 with h2 | h2
        · exact .inl (Pl.mem_foot.2 (.inr (.inr h2)))
        · exact .inr (by omega)
  · refine (send_no h k hk hz _).mono fun e w' hp => np_no h hp.1 (fun x hx => ?_) hp.2
    rw [hx] at hz
    refine if_neg fun hs => hz ?_
    simp [codeV, hs]
theorem rsend_any {B : Nat} {w : World} {rn : Nat} {v : Value} {most : Int} {N : Nat} {rs : List Rc} (h : RefAt B w rn v most N rs) (hl : rs.length ≤ 1000) (k : Int) (Bx : Nat) (A : Option Addr) (l : List UInt8) (cb : Nat) (hr : BReads w Bx A l) (hBx : Bx ≤ w.heap.size) (hlen : ∀ r ∈ rs, r.out.length + l.length ≤ 1000000) :
    Calls Try.prog 28 #[.pointer (some ⟨rn, 0, none⟩), .int .i64 k, .slice A l.length cb] w (DPost B w rn v most N rs l.length (codeR (getR rs k) 2) (updM k (fun c => if c.st = 2 then { c with out := c.out ++ l } else c) (rs.map toC))) := by
  by_cases hz : codeR (getR rs k) 2 = 0
  · rw [hz]
    cases hg : getR rs k with
    | none => rw [hg] at hz; cases hz
    | some r =>
      rw [hg] at hz
      have hs : r.st = 2 := by
        by_cases hm : r.st = 2
        · exact hm
        · exact absurd ((if_neg hm).symm.trans hz) (by decide)
      have hat := h.ats r (getR_mem hg)
      obtain ⟨R1, R2, rfl, rfl⟩ := getR_split hg
      exact (rsend_ok h hl hs Bx A l cb hr hBx (hlen r (by simp))).mono fun e w' hp => dp_ok h.rise (by simp [toC, hs, List.drop_append_of_le_length, hat]) ⟨by simp, by simp, by rfl, by simp [hs]⟩ hp
  · refine (rsend_no h hl k hz _).mono fun e w' hp => dp_no h hp.1 (fun r hx => ?_) (by rw [← hp.2]; exact Turns.refl _ _)
    rw [hx] at hz
    exact if_neg fun hs => hz (if_pos hs)
end Go.Proofs.Ytlelemjmknbnaaa
