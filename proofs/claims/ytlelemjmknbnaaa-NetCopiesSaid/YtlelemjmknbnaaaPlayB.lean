/- Both nets, behind acts. -/
import Derived.Test.YtlelemjmknbnaaaSameB
import Derived.Test.YtlelemjmknbnaaaDoAny
import Derived.Test.YtlelemjmknbnaaaActs
import Derived.Test.YtlelemjmknbnaaaNetOne
import Derived.Test.YtlelemjmknbnaaaDocDial
import Derived.Deep.RegionLaw
import Derived.Lib.BufferRead
namespace Go.Proofs.Ytlelemjmknbnaaa
open Go.RowKit

theorem sumA_take_le (l : List Ac) (k : Nat) : sumA (l.take k) ≤ sumA l := by
  have h := sumA_append (l.take k) (l.drop k)
  rw [List.take_append_drop] at h
  omega
theorem sumA_mem : ∀ {l : List Ac} {a : Ac}, a ∈ l → a.b.length + a.host.size ≤ sumA l
  | x :: l, a, h => by
    unfold sumA
    rcases List.mem_cons.1 h with rfl | h
    · omega
    · have := sumA_mem h
      omega
theorem sumA_step {l : List Ac} {k : Nat} {a : Ac} (h : l[k]? = some a) : sumA (l.take (k + 1)) = sumA (l.take k) + (a.host.size + a.b.length) := by
  rw [List.take_add_one, h, sumA_append]
  simp [sumA]
  omega
/-- Both nets, behind k acts. -/
def Play (w W : World) (bn bm rn : Nat) (most : Int) (k t : Nat) : Prop := ∃ v N L rs, Two w.heap.size W bn bm rn v (max most 0) N L rs ∧ N ≤ k ∧ SmallR t rs
theorem Play.kept {w W W' : World} {bn bm rn : Nat} {most : Int} {k t : Nat} (h : Play w W bn bm rn most k t) (ht : Turns [] W W') : Play w W' bn bm rn most k t := by
  obtain ⟨v, N, L, rs, h1, h2, h3⟩ := h
  exact ⟨v, N, L, rs, h1.kept ht, h2, h3⟩
theorem Play.below {w W W' : World} {bn bm rn : Nat} {most : Int} {k t : Nat} (h : Play w W bn bm rn most k t) (hb : Below W.heap.size W W') : Play w W' bn bm rn most k t := h.kept (Turns.of_below hb (Nat.le_refl _))
theorem play_do {w W : World} {bn bm rn : Nat} {most : Int} {k t : Nat} (h : Play w W bn bm rn most k t) (hB : w.heap.size ≤ W.heap.size) (hk : k ≤ 60) (ht : t ≤ 3000) (a : Ac) (hid : (Lit.int .i64 a.id).wf = true) (hs : a.b.length + a.host.size ≤ 3000) (hr : BReads W w.heap.size a.A a.b) (hc : a.A = none → a.c = 0) :
    Calls Try.prog 8 #[.pointer (some ⟨bn, 0, none⟩), .pointer (some ⟨rn, 0, none⟩), .agg #[.int .i64 a.kind, .int .i64 a.id, .string a.host, .slice a.A a.b.length a.c]] W fun e w' =>
      e = .returned (.bool true) ∧ Play w w' bn bm rn most (k + 1) (t + (a.host.size + a.b.length)) ∧ Below w.heap.size W w' := by
  obtain ⟨v, N, L, rs, h1, h2, h3⟩ := h
  refine (do_any h1 hB (by omega) h3 (by omega) a.kind a.id hid a.host (by omega) a.A a.b a.c hr hc (by omega)).mono ?_
  rintro e w' ⟨rfl, ⟨v', N', L', rs', g1, g2, g3, _⟩, hb, _⟩
  exact ⟨rfl, ⟨v', N', L', rs', g1, by omega, g3⟩, hb⟩
theorem play_same {w W : World} {bn bm rn : Nat} {most : Int} {k t : Nat} (h : Play w W bn bm rn most k t) (hk : k ≤ 900) (ht : t ≤ 100000) (leave : Int) :
    Calls Try.prog 13 #[.pointer (some ⟨bn, 0, none⟩), .pointer (some ⟨rn, 0, none⟩), .int .i64 leave] W fun e w' => e = .returned (.bool true) ∧ Below W.heap.size W w' := by
  obtain ⟨v, N, L, rs, h1, h2, h3⟩ := h
  exact same_any h1 (by omega) h3 ht leave
theorem play_len {w W : World} {bn bm rn : Nat} {most : Int} {k t : Nat} (h : Play w W bn bm rn most k t) :
    ∃ n : Nat, (n : Int) ≤ max most 0 ∧ ∀ W', Turns [] W W' → Calls Try.prog 35 #[.pointer (some ⟨bn, 0, none⟩)] W' fun e w' => e = .returned (.int .i64 (n : Int)) ∧ w' = W' := by
  obtain ⟨v, N, L, rs, h1, h2, h3⟩ := h
  exact ⟨L.length, by rw [h1.link.len]; exact h1.room, fun W' hW => len_any (h1.kept hW).net⟩
theorem play_start {w w1 w2 w3 : World} {bn bm rn : Nat} {v : Value} {most : Int} (h1 : NetAt w.heap.size w2 bn bm (max most 0) 0 []) (ht : Turns [] w2 w3) (h2 : RefAt w.heap.size w3 rn v (max most 0) 0 []) : Play w w3 bn bm rn most 0 0 :=
  ⟨v, 0, [], [], ⟨h1.kept ht (by simp), h2, rfl, by simp; omega, fun r hr => by cases hr⟩, Nat.le_refl _, fun r hr => by cases hr⟩
end Go.Proofs.Ytlelemjmknbnaaa
