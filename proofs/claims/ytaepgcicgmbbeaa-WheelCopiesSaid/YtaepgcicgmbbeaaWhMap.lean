/- Maps whose keys are integers, key by key: what they hold, and what each operation does. -/
import Derived.Test.YtaepgcicgmbbeaaTurns
import Derived.Maps.RangeWalk
namespace Go.Proofs.Ytaepgcicgmbbeaa
open Go.RowKit

abbrev RdV := Value → Option (DataW Unit × List MemPlace)
def RInj (R : RdV) : Prop := ∀ v v' d ps ps', R v = some (d, ps) → R v' = some (d, ps') → v = v'
def sread : RdV
  | .slice none n c => some (.agg [.lit (.int .i64 n), .lit (.int .i64 c)], [])
  | .slice (some ⟨b, o, none⟩) n c => some (.agg [.lit (.int .i64 b), .lit (.int .i64 o), .lit (.int .i64 n), .lit (.int .i64 c)], [])
  | _ => none
theorem sread_form {v : Value} {y : DataW Unit × List MemPlace} (h : sread v = some y) : (∃ n c, v = .slice none n c) ∨ ∃ b o n c, v = .slice (some ⟨b, o, none⟩) n c := by
  unfold sread at h
  split at h
  · exact .inl ⟨_, _, rfl⟩
  · exact .inr ⟨_, _, _, _, rfl⟩
  · cases h
theorem sread_inj : RInj sread := by
  intro v v' d ps ps' h h'
  rcases sread_form h with ⟨n, c, rfl⟩ | ⟨b, o, n, c, rfl⟩ <;> rcases sread_form h' with ⟨n', c', rfl⟩ | ⟨b', o', n', c', rfl⟩ <;> simp only [sread, Option.some.injEq, Prod.mk.injEq] at h h'
  · have e := h.1.trans h'.1.symm
    simp only [DataW.agg.injEq, List.cons.injEq, DataW.lit.injEq, Lit.int.injEq, true_and, and_true] at e
    have e1 : n = n' := by omega
    have e2 : c = c' := by omega
    rw [e1, e2]
  · have e := h.1.trans h'.1.symm
    simp at e
  · have e := h.1.trans h'.1.symm
    simp at e
  · have e := h.1.trans h'.1.symm
    simp only [DataW.agg.injEq, List.cons.injEq, DataW.lit.injEq, Lit.int.injEq, true_and, and_true] at e
    have e1 : n = n' := by omega
    have e2 : c = c' := by omega
    have e3 : b = b' := by omega
    have e4 : o = o' := by omega
    rw [e1, e2, e3, e4]
def aread : RdV
  | .agg cs => match cs.toList with
    | [.int .i64 p, .int .i64 i] => some (.agg [.lit (.int .i64 p), .lit (.int .i64 i)], [])
    | _ => none
  | _ => none
theorem aread_mk (p i : Int) : aread (.agg #[.int .i64 p, .int .i64 i]) = some (.agg [.lit (.int .i64 p), .lit (.int .i64 i)], []) := rfl
theorem aread_form {v : Value} {y : DataW Unit × List MemPlace} (h : aread v = some y) : ∃ p i, v = .agg #[.int .i64 p, .int .i64 i] ∧ y = (.agg [.lit (.int .i64 p), .lit (.int .i64 i)], []) := by
  unfold aread at h
  split at h
  · rename_i cs
    obtain ⟨cs⟩ := cs
    split at h
    · rename_i p i hcs
      simp only at hcs
      subst hcs
      exact ⟨p, i, rfl, (Option.some.inj h).symm⟩
    · cases h
  · cases h
theorem aread_inj : RInj aread := by
  intro v v' d ps ps' h h'
  obtain ⟨p, i, rfl, e⟩ := aread_form h
  obtain ⟨p', i', rfl, e'⟩ := aread_form h'
  have e1 := (Prod.mk.inj e).1
  have e2 := (Prod.mk.inj e').1
  rw [e1] at e2
  simp only [DataW.agg.injEq, List.cons.injEq, DataW.lit.injEq, Lit.int.injEq, true_and, and_true] at e2
  rw [e2.1, e2.2]

/-- The key k holds f k, as R reads it. -/
structure KeyV (R : RdV) (D : DataW Unit) (f : Int → Option Value) : Prop where
  has : ∀ x : Int, Maps.has D (.int .i64 x) = (f x).isSome
  at_ : ∀ (x : Int) (v : Value) (zd : DataW Unit), f x = some v → ∃ ps, R v = some (D.atKey (.int .i64 x) zd, ps)
def MapV (k : TypeId) (R : RdV) (w : World) (b : Nat) (f : Int → Option Value) (n : Nat) : Prop := ∃ D, w.ownsMap Try.prog k R b n D ∧ Maps.size D = n ∧ KeyV R D f
theorem ownsMap_fit {k : TypeId} {R : RdV} {w : World} {b n : Nat} {D : DataW Unit} (h : w.ownsMap Try.prog k R b n D) : w.ownsMap Try.prog k R b (Maps.size D) D := by
  obtain ⟨es, clock, hb, F, hs, rfl⟩ := h
  refine ⟨es, clock, hb, F, ?_, rfl⟩
  show es.size ≤ List.length _
  rw [length_read]
  exact Nat.le_refl _
theorem lit_ne {x y : Int} (h : y ≠ x) : (Lit.int .i64 y) ≠ (Lit.int .i64 x) := fun e => h (by injection e)
theorem litKey (x : Int) : WideAt.IsKeyLit (.int .i64 x) := by first | trivial | exact ⟨_, _, rfl⟩ | simp [WideAt.IsKeyLit]
theorem size_drop {D : DataW Unit} {x : Int} {s : Bool} {n : Nat} (h : Maps.Tidy D) (hh : Maps.has D (.int .i64 x) = s) (hs : Maps.size D = n) : Maps.size (D.del (.int .i64 x)) = if s then n - 1 else n := by
  have := Maps.size_del (k := .int .i64 x) h
  rw [hh, hs] at this
  cases s <;> simp at this ⊢ <;> omega
section
variable {k : TypeId} {R : RdV} {w w' : World} {b n : Nat} {f : Int → Option Value} {t e : TypeId}
theorem MapV.lt (h : MapV k R w b f n) : b < w.heap.size := by
  obtain ⟨D, ho, _⟩ := h
  exact ho.lt
theorem MapV.turns {F : List Nat} (h : MapV k R w b f n) (ht : Turns F w w') (hb : b ∉ F) : MapV k R w' b f n := by
  obtain ⟨D, ho, h2⟩ := h
  have hlt := ho.lt
  obtain ⟨es, clock, h1, r⟩ := ho
  exact ⟨D, ⟨es, clock, (ht.block b hlt hb).trans h1, r⟩, h2⟩
theorem MapV.made (k : TypeId) (R : RdV) (w : World) : MapV k R (w.alloc (.map #[] 0)) w.heap.size (fun _ => none) 0 :=
  ⟨.map [], World.ownsMap_made w _ k R, rfl, ⟨fun _ => rfl, fun _ _ _ h => by cases h⟩⟩
theorem MapV.congr {g : Int → Option Value} (h : MapV k R w b f n) (e : ∀ x, f x = g x) : MapV k R w b g n := by
  have : f = g := funext e
  rw [← this]; exact h
variable (K : Maps.Keyed Try.prog k) (hk : Try.prog.underlying k = some (.int .i64)) (ht : Try.prog.underlying t = some (.map k e)) (hR : RInj R)
include K hk ht hR
theorem MapV.lookup (h : MapV k R w b f n) {z : Value} (hz : (zeroValue e).run Try.prog w = .ok z w) {zd : DataW Unit} {zp : List MemPlace} (hzd : R z = some (zd, zp)) {x : Int} (hx : (Lit.int .i64 x).wf = true) :
    (Instr.lookup t (.map (some b)) (.int .i64 x) false).run Try.prog w = .ok ((f x).getD z) w := by
  obtain ⟨D, ho, _, hK⟩ := h
  obtain ⟨v, ps, hrun, hv⟩ := ho.lookup K ht hz hzd (Maps.keyOf_int_mk hk hx)
  rw [hrun]
  cases hf : f x with
  | some u =>
    obtain ⟨ps', hu⟩ := hK.at_ x u zd hf
    rw [hR _ _ _ _ _ hv hu]
    rfl
  | none =>
    have hh := hK.has x
    rw [hf] at hh
    rw [Maps.atKey_of_not_has hh zd] at hv
    rw [hR _ _ _ _ _ hv hzd]
    rfl
theorem MapV.look_ok (h : MapV k R w b f n) {z : Value} (hz : (zeroValue e).run Try.prog w = .ok z w) {zd : DataW Unit} {zp : List MemPlace} (hzd : R z = some (zd, zp)) {x : Int} (hx : (Lit.int .i64 x).wf = true) :
    (Instr.lookup t (.map (some b)) (.int .i64 x) true).run Try.prog w = .ok (.tuple #[(f x).getD z, .bool (f x).isSome]) w := by
  obtain ⟨D, ho, _, hK⟩ := h
  obtain ⟨v, ps, hrun, hv⟩ := ho.look_ok K ht hz hzd (Maps.keyOf_int_mk hk hx)
  rw [hrun, hK.has x]
  cases hf : f x with
  | some u =>
    obtain ⟨ps', hu⟩ := hK.at_ x u zd hf
    rw [hR _ _ _ _ _ hv hu]
    rfl
  | none =>
    have hh := hK.has x
    rw [hf] at hh
    rw [Maps.atKey_of_not_has hh zd] at hv
    rw [hR _ _ _ _ _ hv hzd]
    rfl
omit hR in
theorem MapV.store (h : MapV k R w b f n) (hn : n < maxLen) {x : Int} (hx : (Lit.int .i64 x).wf = true) {v : Value} {d : DataW Unit} {ps : List MemPlace} (hv : R v = some (d, ps)) :
    ∃ w', (Instr.mapUpdate t (.map (some b)) (.int .i64 x) v).run Try.prog w = .ok () w' ∧ MapV k R w' b (fun y => if y = x then some v else f y) (if (f x).isSome then n else n + 1) ∧ Turns [b] w w' := by
  obtain ⟨D, ho, hs, hK⟩ := h
  obtain ⟨w', hrun, r1, r2⟩ := ho.store K ht hn (Maps.keyOf_int_mk hk hx) hv
  refine ⟨w', hrun, ⟨D.put (.int .i64 x) d, ?_, ?_, fun y => ?_, fun y u zd hy => ?_⟩, Turns.of_grown r2.grown⟩
  · have hsz : Maps.size (D.put (.int .i64 x) d) = if (f x).isSome then n else n + 1 := by
      rw [Maps.size_put (ho.tidy K), hK.has x, hs]
    rw [← hsz]
    exact ownsMap_fit r1
  · rw [Maps.size_put (ho.tidy K), hK.has x, hs]
  · by_cases e : y = x
    · subst e
      rw [Maps.has_put_same ho.isMap (litKey y)]
      simp
    · rw [Maps.has_put_other (lit_ne e), hK.has y, if_neg e]
  · by_cases e : y = x
    · subst e
      rw [if_pos rfl] at hy
      cases hy
      rw [Maps.atKey_put_same ho.isMap (litKey y)]
      exact ⟨ps, hv⟩
    · rw [if_neg e] at hy
      rw [Maps.atKey_put_other (lit_ne e)]
      exact hK.at_ y u zd hy
omit hR in
theorem MapV.drop (h : MapV k R w b f n) {x : Int} (hx : (Lit.int .i64 x).wf = true) (ty : TypeId) :
    ∃ w', (Builtin.delete_ #[t, k] ty #[.map (some b), .int .i64 x]).run Try.prog w = .ok (.tuple #[]) w' ∧ MapV k R w' b (fun y => if y = x then none else f y) (if (f x).isSome then n - 1 else n) ∧ Turns [b] w w' := by
  obtain ⟨D, ho, hs, hK⟩ := h
  obtain ⟨w', hrun, r1, r2⟩ := ho.drop K ht (Maps.keyOf_int_mk hk hx) ty
  refine ⟨w', hrun, ⟨D.del (.int .i64 x), ?_, ?_, fun y => ?_, fun y u zd hy => ?_⟩, Turns.of_grown r2.grown⟩
  · rw [← size_drop (ho.tidy K) (hK.has x) hs]
    exact ownsMap_fit r1
  · exact size_drop (ho.tidy K) (hK.has x) hs
  · by_cases e : y = x
    · subst e
      rw [Maps.has_del_same]
      simp
    · rw [Maps.has_del_other (lit_ne e), hK.has y, if_neg e]
  · by_cases e : y = x
    · subst e
      rw [if_pos rfl] at hy
      cases hy
    · rw [if_neg e] at hy
      rw [Maps.atKey_del_other (lit_ne e)]
      exact hK.at_ y u zd hy
omit K hk hR in
theorem MapV.len (h : MapV k R w b f n) (ty : TypeId) : (Builtin.len_ #[t] ty #[.map (some b)]).run Try.prog w = .ok (.int .i64 n) w := by
  obtain ⟨D, ho, hs, hK⟩ := h
  rw [← hs]
  exact ho.len ht ty
end
end Go.Proofs.Ytaepgcicgmbbeaa
