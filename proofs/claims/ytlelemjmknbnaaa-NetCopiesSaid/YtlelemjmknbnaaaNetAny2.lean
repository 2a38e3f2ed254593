/- Close in one form on both sides. -/
import Derived.Test.YtlelemjmknbnaaaNetAny
namespace Go.Proofs.Ytlelemjmknbnaaa
open Go.RowKit

def closeM (k : Int) (cs : List Cn) : List Cn := cs.filter fun c => decide ((c.id : Int) ≠ k)
theorem closeM_none {k : Int} {cs : List Cn} (h : ∀ c ∈ cs, (c.id : Int) ≠ k) : closeM k cs = cs := by
  unfold closeM
  rw [List.filter_eq_self]
  intro c hc
  simpa using h c hc
theorem closeM_mid {C1 C2 : List Cn} {x : Cn} {k : Int} (hx : (x.id : Int) = k) (hr : (C1 ++ x :: C2).Pairwise fun a b => a.id < b.id) : closeM k (C1 ++ x :: C2) = C1 ++ C2 := by
  rw [List.pairwise_append, List.pairwise_cons] at hr
  have e1 : closeM k C1 = C1 := closeM_none fun c hc => by
    have := hr.2.2 c hc x (List.mem_cons_self ..)
    omega
  have e2 : closeM k C2 = C2 := closeM_none fun c hc => by
    have := hr.2.1.1 c hc
    omega
  unfold closeM at e1 e2 ⊢
  rw [List.filter_append, List.filter_cons_of_neg (by simp [hx]), e1, e2]
def there {α : Type} (o : Option α) : Int := match o with | some _ => 0 | none => 8
theorem close_any {B : Nat} {w : World} {bn bm : Nat} {most last : Int} {L : List NE} (h : NetAt B w bn bm most last L) (k : Int) (hk : (Lit.int .i64 k).wf = true) :
    Calls Try.prog 30 #[.pointer (some ⟨bn, 0, none⟩), .int .i64 k] w (NPost B w bn bm most last L (there (getE L k)) (closeM k (L.map Prod.fst))) := by
  cases hg : getE L k with
  | none =>
    refine (close_no h k hk hg).mono fun e w' hp => ⟨hp.1, ⟨L, by rw [hp.2]; exact h, ?_, fun i hi => .inl hi⟩, by rw [hp.2]; exact Turns.refl _ _⟩
    refine (closeM_none fun c hc hck => ?_).symm
    obtain ⟨x, hx, _⟩ := mem_getE h.rise hc hck
    rw [hg] at hx
    cases hx
  | some x =>
    obtain ⟨L1, L2, rfl, rfl⟩ := getE_split hg
    refine (close_ok h hk).mono fun e w' hp => ⟨hp.1, ⟨L1 ++ L2, hp.2.1, ?_, fun i hi => .inl ?_⟩, hp.2.2.mono (fun i hi => by rw [List.mem_singleton] at hi; subst hi; simp)⟩
    · have hr' := rise_fst h.rise
      rw [List.map_append, List.map_cons] at hr'
      rw [List.map_append, List.map_append, List.map_cons]
      exact (closeM_mid rfl hr').symm
    · obtain ⟨y, hy, hi'⟩ := mem_footL.1 hi
      refine mem_footL.2 ⟨y, ?_, hi'⟩
      rcases List.mem_append.1 hy with h1 | h1
      · exact List.mem_append.2 (.inl h1)
      · exact List.mem_append.2 (.inr (List.mem_cons.2 (.inr h1)))
theorem rclose_any {B : Nat} {w : World} {rn : Nat} {v : Value} {most : Int} {N : Nat} {rs : List Rc} (h : RefAt B w rn v most N rs) (hl : rs.length ≤ 1000) (k : Int) :
    Calls Try.prog 31 #[.pointer (some ⟨rn, 0, none⟩), .int .i64 k] w (DPost B w rn v most N rs 0 (there (getR rs k)) (closeM k (rs.map toC))) := by
  cases hg : getR rs k with
  | none =>
    refine (rclose_no h hl k hg).mono fun e w' hp => ⟨hp.1, ⟨v, rs, by rw [← hp.2]; exact h, ?_, Grow.refl _ _, fun i hi => .inl hi⟩, by rw [← hp.2]; exact Turns.refl _ _⟩
    refine (closeM_none fun c hc hck => ?_).symm
    obtain ⟨r, hx, _⟩ := mem_getR h.rise hc hck
    rw [hg] at hx
    cases hx
  | some r =>
    obtain ⟨R1, R2, rfl, rfl⟩ := getR_split hg
    refine (rclose_ok h hl).mono fun e w' hp => ?_
    obtain ⟨he, ⟨v', hn, hnew⟩, ht⟩ := hp
    refine ⟨he, ⟨v', R1 ++ R2, hn, ?_, Grow.drop _ _ _ _, fun i hi => .inr (hnew i hi)⟩, ht.mono (fun i hi => by rw [List.mem_singleton] at hi; subst hi; simp)⟩
    have hr' := rise_toC h.rise
    rw [List.map_append, List.map_cons] at hr'
    rw [List.map_append, List.map_append, List.map_cons]
    exact (closeM_mid (x := toC r) (k := (r.id : Int)) rfl hr').symm
theorem Link.there {L : List NE} {rs : List Rc} (h : Link L rs) (k : Int) : Go.Proofs.Ytlelemjmknbnaaa.there (getE L k) = Go.Proofs.Ytlelemjmknbnaaa.there (getR rs k) := by
  rcases h.cases k with ⟨h1, h2⟩ | ⟨x, r, h1, h2, _⟩
  · rw [h1, h2]; rfl
  · rw [h1, h2]; rfl
end Go.Proofs.Ytlelemjmknbnaaa
