/- append of labels to a slice of labels of the call's own. -/
import Derived.Test.YtnbghappfclnjaaLabMem
import Derived.Test.YtnbghappfclnjaaBuf
import Derived.Laws.AppendOwnNone
namespace Go.Proofs.Ytnbghappfclnjaa
open Go.RowKit

theorem wpList_append_lbls {w : World} {ops : Array Oper} {rest : List Oper} {o : Oper} {a : Act} {Q : Exit → Act → World → Prop} (hgd : o.guard = none) (s x : Operand)
    (ho : o.op = .call { callee := .builtin .append, args := #[s, x], argTypes := #[29, 29] })
    (base : Nat) (v : Value) (l1 : List Lbl) (hs : a.eval s = v) (hown : OwnedL base w v l1)
    (ad : Addr) (l2 : List Lbl) (c : Nat) (hx : a.eval x = .slice (some ad) l2.length c) (hr : ∀ j u, (flatL l2)[j]? = some u → w.cell? (ad.add j) = some u)
    (hlen : l1.length + l2.length ≤ 100000) (hbase : base ≤ w.heap.size)
    (h : ∀ v' w', OwnedL base w' v' (l1 ++ l2) → Below base w w' → (v' = .slice none 0 0 → l1 ++ l2 = []) → wpList Try.prog ops Q rest (a.put o.dst v') w') : wpList Try.prog ops Q (o :: rest) a w := by
  obtain ⟨i0, hi, hz0, hz1, hz2⟩ := info_parts Try.infoLbl
  refine wpList_append_own w hgd s x 29 ho base 33 i0 (.agg #[.string ⟨#[]⟩, .string ⟨#[]⟩]) 2 32 Try.underlying29 hi hz0 hz1 hz2 rfl (by decide) v l1.length (flatL l1) hs hown ad l2.length c (flatL l2) hx (flatL_len l2) hr (flatL_one l2) (by unfold maxLen; omega) (by omega) hbase ?_
  intro v' w' h1 h2 h3
  refine h v' w' ?_ ((Below.refl _ _).grown h2 hbase (fun k hk => hown.grows k hk)) ?_
  · unfold OwnedL
    rw [List.length_append, flatL_append]
    exact h1
  · intro e
    obtain ⟨e1, e2⟩ := h3.1 e
    subst e1
    rcases hown.form with ⟨_, e3⟩ | ⟨g, cap, e3, _⟩
    · rw [e3, List.eq_nil_of_length_eq_zero e2]; rfl
    · cases e3
theorem lone_cells {W : World} {p : Nat} (x : Lbl) (t : TypeId) (hp : p = W.heap.size) : ∀ j u, (flatL [x])[j]? = some u → (W.alloc (.cells #[.string ⟨x.1.toArray⟩, .string ⟨x.2.toArray⟩] t)).cell? ((⟨p, 0, none⟩ : Addr).add j) = some u := by
  subst hp
  intro j u hj
  rw [add_plain', Nat.zero_add]
  match j, hj with
  | 0, hj => cases hj; simp [strV]
  | 1, hj => cases hj; simp [strV]
  | j + 2, hj => cases hj

end Go.Proofs.Ytnbghappfclnjaa
