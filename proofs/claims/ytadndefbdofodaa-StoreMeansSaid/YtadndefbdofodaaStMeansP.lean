/- What follows of a store's verdicts, plainly. -/
import Derived.Test.YtadndefbdofodaaStPair
namespace Go.Proofs.Ytadndefbdofodaa
open Go.RowKit

def fndM (n : ByteArray) (M : List Smp) : Option Smp := M.reverse.find? fun s => eqN s.name n
def fndL (n : ByteArray) (L : List One) : Option One := L.find? fun y => eqN y.name n
/-- The last accepted sample of each series is the store's. -/
def Jn (M : List Smp) (L : List One) : Prop := ∀ n, fndM n M = (fndL n L).map fun y => y.l.s
theorem fndM_snoc (n : ByteArray) (M : List Smp) (x : Smp) : fndM n (M ++ [x]) = if eqN x.name n then some x else fndM n M := by
  unfold fndM
  rw [List.reverse_append]
  simp only [List.reverse_cons, List.reverse_nil, List.nil_append, List.singleton_append, List.find?_cons]
  cases eqN x.name n <;> rfl
theorem ofN_fnd (n : ByteArray) : ∀ L : List One, (ofN n L).bind (fun i => L[i]?) = fndL n L
  | [] => rfl
  | y :: L => by
    unfold ofN fndL
    rw [List.find?_cons]
    cases h : eqN y.name n with
    | true => simp
    | false =>
      simp only [Bool.false_eq_true, if_false]
      have := ofN_fnd n L
      unfold fndL at this
      rw [← this]
      cases ofN n L <;> simp
theorem Jn.nil : Jn [] [] := fun n => rfl
theorem Jn.stale {M : List Smp} {L : List One} (h : Jn M L) (owner : Int) (l : List Smp) : Jn M (L.map (staleB owner l)) := by
  intro n
  rw [h n]
  unfold fndL
  rw [List.find?_map]
  have e : ((fun y : One => eqN y.name n) ∘ staleB owner l) = fun y => eqN y.name n := by
    funext y
    unfold staleB
    simp only [Function.comp]
    split <;> rfl
  rw [e, Option.map_map]
  congr 1
  funext y
  unfold staleB
  simp only [Function.comp]
  split <;> rfl
theorem eqN_trans {a b c : ByteArray} (h : eqN a b = true) : eqN a c = eqN b c := by rw [eqN_iff.1 h]
theorem fndL_set {L : List One} {i : Nat} {y : One} {n : ByteArray} (hy : L[i]? = some y) (h1 : ∀ j z, j < i → L[j]? = some z → ¬ z.name = y.name) (l : Lst) : fndL n (L.set i ⟨y.name, l⟩) = if eqN y.name n then some ⟨y.name, l⟩ else fndL n L := by
  induction L generalizing i with
  | nil => simp at hy
  | cons z L ih =>
    cases i with
    | zero =>
      simp at hy
      subst hy
      unfold fndL
      rw [List.set_cons_zero, List.find?_cons, List.find?_cons]
      cases eqN z.name n <;> rfl
    | succ i =>
      have h0 := h1 0 z (by omega) rfl
      unfold fndL
      rw [List.set_cons_succ, List.find?_cons, List.find?_cons]
      cases hz : eqN z.name n with
      | true =>
        have : eqN y.name n = false := eqN_no fun e => h0 (by rw [e]; exact eqN_iff.1 hz)
        rw [this]
        rfl
      | false =>
        exact ih (by simpa using hy) fun j u hj hu => h1 (j + 1) u (by omega) (by simpa using hu)
theorem fndL_ins {L : List One} {k : Nat} {n : ByteArray} (y : One) (h : ∀ z ∈ L, ¬ z.name = y.name) : fndL n (L.take k ++ y :: L.drop k) = if eqN y.name n then some y else fndL n L := by
  unfold fndL
  rw [List.find?_append, List.find?_cons]
  cases hy : eqN y.name n with
  | true =>
    have : (L.take k).find? (fun y => eqN y.name n) = none := List.find?_eq_none.2 fun z hz => by
      rw [eqN_no fun e => h z (List.mem_of_mem_take hz) (by rw [e]; exact (eqN_iff.1 hy).symm)]
      simp
    rw [this]
    rfl
  | false =>
    simp only [Bool.false_eq_true, if_false]
    rw [← List.find?_append, List.take_append_drop]
/-- What a verdict says, of what stood there ahead of it. -/
theorem one_means (most : Nat) (owner : Int) (x : Smp) {M : List Smp} {L : List One} (h : Jn M L) :
    (oneP most owner x L).1.s = x ∧ (1 ≤ (oneP most owner x L).1.v ∧ (oneP most owner x L).1.v ≤ 4)
    ∧ ((oneP most owner x L).1.v ≠ 1 → (oneP most owner x L).1.chain = false ∧ Jn M (oneP most owner x L).2)
    ∧ ((oneP most owner x L).1.v = 1 → (∀ s, fndM x.name M = some s → s.tm < x.tm ∧ ((oneP most owner x L).1.chain = true → (oneP most owner x L).1.ahead = s.val)) ∧ Jn (M ++ [x]) (oneP most owner x L).2) := by
  have hf := ofN_fnd x.name L
  unfold oneP
  cases ho : ofN x.name L with
  | none =>
    rw [ho] at hf
    have hno := ofN_none ho
    simp only
    by_cases hm : most ≤ L.length
    · rw [if_pos hm]
      exact ⟨rfl, by simp, fun _ => ⟨rfl, h⟩, fun h => absurd h (by simp)⟩
    · rw [if_neg hm]
      refine ⟨rfl, by simp, fun h => absurd rfl h, fun _ => ⟨fun s hs => ?_, fun n => ?_⟩⟩
      · rw [h x.name, ← hf] at hs
        cases hs
      · show _ = (fndL n (L.take (atN x.name L) ++ (⟨x.name, nowL owner x⟩ : One) :: L.drop (atN x.name L))).map _
        rw [fndM_snoc, fndL_ins ⟨x.name, nowL owner x⟩ hno]
        show (if eqN x.name n then some x else fndM n M) = (if eqN x.name n then some (⟨x.name, nowL owner x⟩ : One) else fndL n L).map _
        cases eqN x.name n with
        | true => rfl
        | false => exact h n
  | some i =>
    obtain ⟨y, hy, hn, hb⟩ := ofN_some ho
    rw [ho] at hf
    have hf2 : fndL x.name L = some y := by rw [← hf]; exact hy
    simp only [hy]
    by_cases h1 : x.tm < y.l.s.tm
    · rw [if_pos h1]
      exact ⟨rfl, by simp, fun _ => ⟨rfl, h⟩, fun h => absurd h (by simp)⟩
    rw [if_neg h1]
    by_cases h2 : x.tm = y.l.s.tm
    · rw [if_pos h2]
      exact ⟨rfl, by simp, fun _ => ⟨rfl, h⟩, fun h => absurd h (by simp)⟩
    rw [if_neg h2]
    have hJ : Jn (M ++ [x]) (L.set i ⟨y.name, nowL owner x⟩) := fun n => by
      rw [fndM_snoc, fndL_set hy (fun j z hj hz e => hb j z hj hz (e.trans hn)), hn]
      cases eqN x.name n with
      | true => rfl
      | false => exact h n
    have hS : ∀ s, fndM x.name M = some s → s = y.l.s := fun s hs => by
      rw [h x.name, hf2] at hs
      exact (Option.some.inj hs).symm
    cases y.l.live with
    | true => exact ⟨rfl, by simp, fun h => absurd rfl h, fun _ => ⟨fun s hs => by rw [hS s hs]; exact ⟨by omega, fun _ => rfl⟩, hJ⟩⟩
    | false => exact ⟨rfl, by simp, fun h => absurd rfl h, fun _ => ⟨fun s hs => by rw [hS s hs]; exact ⟨by omega, fun h => by cases h⟩, hJ⟩⟩
theorem putsP_at (most : Nat) (owner : Int) : ∀ {l : List Smp} {k : Nat} {x : Smp} (L : List One), l[k]? = some x → (putsP most owner l L).1[k]? = some (oneP most owner x (putsP most owner (l.take k) L).2).1
  | [], k, x, L, h => by simp at h
  | y :: l, 0, x, L, h => by
    simp at h
    subst h
    rfl
  | y :: l, k + 1, x, L, h => by
    rw [List.getElem?_cons_succ] at h
    have := putsP_at most owner (oneP most owner y L).2 h
    simpa [putsP] using this
theorem oneP_room (most : Nat) (owner : Int) (x : Smp) (L : List One) (h : L.length ≤ most) : (oneP most owner x L).2.length ≤ most := by
  unfold oneP
  have := atN_le x.name L
  split
  · split
    · exact h
    · simp; omega
  · split
    · exact h
    · split
      · exact h
      · split
        · exact h
        · simpa using h
theorem putsP_room (most : Nat) (owner : Int) : ∀ (l : List Smp) (L : List One), L.length ≤ most → (putsP most owner l L).2.length ≤ most
  | [], L, h => h
  | x :: l, L, h => putsP_room most owner l _ (oneP_room most owner x L h)
theorem putP_room (most : Nat) (owner : Int) (l : List Smp) (L : List One) (h : L.length ≤ most) : (putP most owner l L).2.length ≤ most := by
  unfold putP
  simpa using putsP_room most owner l L h
/-- From the end on: the first of that name is the last one. -/
theorem fndM_at {M : List Smp} {q : Nat} {s : Smp} {n : ByteArray} (hs : M[q]? = some s) (hn : eqN s.name n = true) (h : ∀ j z, q < j → M[j]? = some z → eqN z.name n = false) : fndM n M = some s := by
  unfold fndM
  have hq := (List.getElem?_eq_some_iff.1 hs).1
  have e : M = M.take q ++ s :: M.drop (q + 1) := by
    rw [List.getElem?_eq_getElem hq] at hs
    have h1 := List.drop_eq_getElem_cons hq
    rw [Option.some.inj hs] at h1
    rw [← h1, List.take_append_drop]
  rw [e, List.reverse_append, List.reverse_cons, List.append_assoc, List.find?_append]
  have : (M.drop (q + 1)).reverse.find? (fun s => eqN s.name n) = none := List.find?_eq_none.2 fun z hz => by
    obtain ⟨j, hj⟩ := List.getElem?_of_mem (List.mem_reverse.1 hz)
    rw [List.getElem?_drop] at hj
    rw [h _ z (by omega) hj]
    simp
  rw [this]
  simp [hn]
theorem smp_neq (t u : Smp) (w : World) : (binOp .neq 38 (.agg #[.string t.name, .int .i64 t.val, .int .i64 t.tm, .bool t.cnt]) (.agg #[.string u.name, .int .i64 u.val, .int .i64 u.tm, .bool u.cnt])).run Try.prog w = .ok (.bool (!smpE t u)) w := by
  have h := smp_fldE 9998 t u w
  rw [run_neq_struct, run_equalIn_struct (P := Try.prog) w 9999 38 _ _ smp_str smp_stood, h]
  rfl
theorem smp_guard : Try.prog.eqGuardType Try.prog.depth 38 = false := by kernel_rfl
theorem smpE_self (t : Smp) : smpE t t = true := smpE_iff.2 rfl
end Go.Proofs.Ytadndefbdofodaa
