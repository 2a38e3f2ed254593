/- Maps of what lies in blocks of its own, which nobody else holds (structs behind pointers, maps): what they hold, key by key. -/
import Derived.Test.YtjkkpdflijjllaaTurns
import Derived.Maps.RangeWalk
import Derived.StringKeys
import Derived.Test.YtjkkpdflijjllaaRowK2
namespace Go.Proofs.Ytjkkpdflijjllaa
open Go.RowKit

abbrev RdV := Value → Option (DataW Unit × List MemPlace)
def RInj (R : RdV) : Prop := ∀ v v' d ps ps', R v = some (d, ps) → R v' = some (d, ps') → v = v'
/-- A kind of keys: as a literal, as a value, which of them may be. -/
structure KD (k : TypeId) (κ : Type) where
  lit : κ → Lit
  val : κ → Value
  ok : κ → Prop
  inj : ∀ x y, lit x = lit y → x = y
  vinj : ∀ x y, val x = val y → x = y
  key : ∀ x, WideAt.IsKeyLit (lit x)
  made : ∀ x, ok x → keyOf Try.prog k (val x) = some (lit x)
  inv : ∀ v l, keyOf Try.prog k v = some l → ∃ x, v = val x ∧ l = lit x ∧ ok x
/-- Keys that are texts. -/
def strKD {k : TypeId} (hk : Try.prog.underlying k = some .string) : KD k ByteArray where
  lit s := .string s.data.toList
  val s := .string s
  ok s := s.size ≤ maxLen
  inj x y h := by
    obtain ⟨⟨x⟩⟩ := x
    obtain ⟨⟨y⟩⟩ := y
    simp only [Lit.string.injEq] at h
    rw [h]
  vinj x y h := by cases h; rfl
  key _ := trivial
  made _ h := WideMaps.keyOf_string_mk hk h
  inv _ _ h := WideMaps.string_of_keyOf hk h
/-- Keys that are numbers. -/
def intKD {k : TypeId} (hk : Try.prog.underlying k = some (.int .i64)) : KD k Int where
  lit x := .int .i64 x
  val x := .int .i64 x
  ok x := (Lit.int .i64 x).wf = true
  inj x y h := by simpa using h
  vinj x y h := by cases h; rfl
  key _ := trivial
  made _ h := Maps.keyOf_int_mk hk h
  inv _ _ h := Maps.keyOf_int_inv hk h
/-- The key x holds f x, as R reads it. -/
structure KeyG {k : TypeId} {κ : Type} (T : KD k κ) (R : RdV) (D : DataW Unit) (f : κ → Option Value) : Prop where
  has : ∀ x, Maps.has D (T.lit x) = (f x).isSome
  at_ : ∀ x (v : Value) (zd : DataW Unit), f x = some v → ∃ ps, R v = some (D.atKey (T.lit x) zd, ps)
def MapG {k : TypeId} {κ : Type} (T : KD k κ) (R : RdV) (w : World) (b : Nat) (f : κ → Option Value) (n : Nat) : Prop := ∃ D, w.ownsMap Try.prog k R b n D ∧ Maps.size D = n ∧ KeyG T R D f
theorem ownsMap_fit {k : TypeId} {R : RdV} {w : World} {b n : Nat} {D : DataW Unit} (h : w.ownsMap Try.prog k R b n D) : w.ownsMap Try.prog k R b (Maps.size D) D := by
  obtain ⟨es, clock, hb, F, hs, rfl⟩ := h
  refine ⟨es, clock, hb, F, ?_, rfl⟩
  show es.size ≤ List.length _
  rw [length_read]
  exact Nat.le_refl _
theorem KD.ne {k : TypeId} {κ : Type} (T : KD k κ) {x y : κ} (h : y ≠ x) : T.lit y ≠ T.lit x := fun e => h (T.inj _ _ e)
theorem size_dropG {D : DataW Unit} {x : Lit} {s : Bool} {n : Nat} (h : Maps.Tidy D) (hh : Maps.has D x = s) (hs : Maps.size D = n) : Maps.size (D.del x) = if s then n - 1 else n := by
  have := Maps.size_del (k := x) h
  rw [hh, hs] at this
  cases s <;> simp at this ⊢ <;> omega
section
variable {k : TypeId} {κ : Type} {T : KD k κ} {R : RdV} {w w' : World} {b n : Nat} {f : κ → Option Value} {t e : TypeId}
theorem MapG.lt (h : MapG T R w b f n) : b < w.heap.size := by
  obtain ⟨D, ho, _⟩ := h
  exact ho.lt
theorem MapG.turns {F : List Nat} (h : MapG T R w b f n) (ht : Turns F w w') (hb : b ∉ F) : MapG T R w' b f n := by
  obtain ⟨D, ho, h2⟩ := h
  have hlt := ho.lt
  obtain ⟨es, clock, h1, r⟩ := ho
  exact ⟨D, ⟨es, clock, (ht.block b hlt hb).trans h1, r⟩, h2⟩
theorem MapG.made (T : KD k κ) (R : RdV) (w : World) : MapG T R (w.alloc (.map #[] 0)) w.heap.size (fun _ => none) 0 :=
  ⟨.map [], World.ownsMap_made w _ k R, rfl, ⟨fun _ => rfl, fun _ _ _ h => by cases h⟩⟩
theorem MapG.congr {g : κ → Option Value} (h : MapG T R w b f n) (e : ∀ x, f x = g x) : MapG T R w b g n := by
  have : f = g := funext e
  rw [← this]; exact h
variable (K : Maps.Keyed Try.prog k) (ht : Try.prog.underlying t = some (.map k e)) (hR : RInj R)
include K ht hR
theorem MapG.lookup (h : MapG T R w b f n) {z : Value} (hz : (zeroValue e).run Try.prog w = .ok z w) {zd : DataW Unit} {zp : List MemPlace} (hzd : R z = some (zd, zp)) {x : κ} (hx : T.ok x) :
    (Instr.lookup t (.map (some b)) (T.val x) false).run Try.prog w = .ok ((f x).getD z) w := by
  obtain ⟨D, ho, _, hK⟩ := h
  obtain ⟨v, ps, hrun, hv⟩ := ho.lookup K ht hz hzd (T.made x hx)
  rw [hrun]
  cases hf : f x with
  | some u =>
    obtain ⟨ps', hu⟩ := hK.at_ x u zd hf
    rw [hR _ _ _ _ _ hv hu]
    rfl
  | none =>
    have hh := hK.has x
    rw [hf] at hh
    rw [Maps.atKey_of_not_has hh zd] at hv
    rw [hR _ _ _ _ _ hv hzd]
    rfl
theorem MapG.look_ok (h : MapG T R w b f n) {z : Value} (hz : (zeroValue e).run Try.prog w = .ok z w) {zd : DataW Unit} {zp : List MemPlace} (hzd : R z = some (zd, zp)) {x : κ} (hx : T.ok x) :
    (Instr.lookup t (.map (some b)) (T.val x) true).run Try.prog w = .ok (.tuple #[(f x).getD z, .bool (f x).isSome]) w := by
  obtain ⟨D, ho, _, hK⟩ := h
  obtain ⟨v, ps, hrun, hv⟩ := ho.look_ok K ht hz hzd (T.made x hx)
  rw [hrun, hK.has x]
  cases hf : f x with
  | some u =>
    obtain ⟨ps', hu⟩ := hK.at_ x u zd hf
    rw [hR _ _ _ _ _ hv hu]
    rfl
  | none =>
    have hh := hK.has x
    rw [hf] at hh
    rw [Maps.atKey_of_not_has hh zd] at hv
    rw [hR _ _ _ _ _ hv hzd]
    rfl
omit hR in
theorem MapG.store [DecidableEq κ] (h : MapG T R w b f n) (hn : n < maxLen) {x : κ} (hx : T.ok x) {v : Value} {d : DataW Unit} {ps : List MemPlace} (hv : R v = some (d, ps)) :
    ∃ w', (Instr.mapUpdate t (.map (some b)) (T.val x) v).run Try.prog w = .ok () w' ∧ MapG T R w' b (fun y => if y = x then some v else f y) (if (f x).isSome then n else n + 1) ∧ Turns [b] w w' := by
  obtain ⟨D, ho, hs, hK⟩ := h
  obtain ⟨w', hrun, r1, r2⟩ := ho.store K ht hn (T.made x hx) hv
  refine ⟨w', hrun, ⟨D.put (T.lit x) d, ?_, ?_, fun y => ?_, fun y u zd hy => ?_⟩, Turns.of_grown r2.grown⟩
  · have hsz : Maps.size (D.put (T.lit x) d) = if (f x).isSome then n else n + 1 := by
      rw [Maps.size_put (ho.tidy K), hK.has x, hs]
    rw [← hsz]
    exact ownsMap_fit r1
  · rw [Maps.size_put (ho.tidy K), hK.has x, hs]
  · by_cases e : y = x
    · subst e
      rw [Maps.has_put_same ho.isMap (T.key y)]
      simp
    · rw [Maps.has_put_other (T.ne e), hK.has y, if_neg e]
  · by_cases e : y = x
    · subst e
      rw [if_pos rfl] at hy
      cases hy
      rw [Maps.atKey_put_same ho.isMap (T.key y)]
      exact ⟨ps, hv⟩
    · rw [if_neg e] at hy
      rw [Maps.atKey_put_other (T.ne e)]
      exact hK.at_ y u zd hy
omit hR in
theorem MapG.drop [DecidableEq κ] (h : MapG T R w b f n) {x : κ} (hx : T.ok x) (ty : TypeId) :
    ∃ w', (Builtin.delete_ #[t, k] ty #[.map (some b), T.val x]).run Try.prog w = .ok (.tuple #[]) w' ∧ MapG T R w' b (fun y => if y = x then none else f y) (if (f x).isSome then n - 1 else n) ∧ Turns [b] w w' := by
  obtain ⟨D, ho, hs, hK⟩ := h
  obtain ⟨w', hrun, r1, r2⟩ := ho.drop K ht (T.made x hx) ty
  refine ⟨w', hrun, ⟨D.del (T.lit x), ?_, ?_, fun y => ?_, fun y u zd hy => ?_⟩, Turns.of_grown r2.grown⟩
  · rw [← size_dropG (ho.tidy K) (hK.has x) hs]
    exact ownsMap_fit r1
  · exact size_dropG (ho.tidy K) (hK.has x) hs
  · by_cases e : y = x
    · subst e
      rw [Maps.has_del_same]
      simp
    · rw [Maps.has_del_other (T.ne e), hK.has y, if_neg e]
  · by_cases e : y = x
    · subst e
      rw [if_pos rfl] at hy
      cases hy
    · rw [if_neg e] at hy
      rw [Maps.atKey_del_other (T.ne e)]
      exact hK.at_ y u zd hy
omit K hR in
theorem MapG.len (h : MapG T R w b f n) (ty : TypeId) : (Builtin.len_ #[t] ty #[.map (some b)]).run Try.prog w = .ok (.int .i64 n) w := by
  obtain ⟨D, ho, hs, hK⟩ := h
  rw [← hs]
  exact ho.len ht ty
end
/-- An iterator at r over the map at b; left x: the key x is still to come. -/
def RangeG {k : TypeId} {κ : Type} (T : KD k κ) (R : RdV) (w : World) (b r : Nat) (f : κ → Option Value) (left : κ → Bool) (cnt : Nat) : Prop :=
  ∃ n D lf, w.ranges Try.prog k R b r n D lf cnt ∧ KeyG T R D f ∧ ∀ x, lf (T.lit x) = left x
section
variable {k : TypeId} {κ : Type} {T : KD k κ} {R : RdV} {w w' : World} {b r : Nat} {f : κ → Option Value} {left : κ → Bool} {cnt : Nat}
theorem RangeG.left_eq (h : RangeG T R w b r f left cnt) : w.rangeLeft b r = cnt := by
  obtain ⟨n, D, lf, h, _⟩ := h
  exact h.left_eq
theorem RangeG.lt (h : RangeG T R w b r f left cnt) : r < w.heap.size := by
  obtain ⟨n, D, lf, h, _⟩ := h
  exact h.lt
theorem RangeG.turns {F : List Nat} (h : RangeG T R w b r f left cnt) (ht : Turns F w w') (hb : b ∉ F) (hr : r ∉ F) : RangeG T R w' b r f left cnt := by
  obtain ⟨n, D, lf, h, h2⟩ := h
  have h1 := h.owns.lt
  have h3 := h.lt
  obtain ⟨es, clock, since, seen, c0, hb', F', hs, hD, hr', rest⟩ := h
  exact ⟨n, D, lf, ⟨es, clock, since, seen, c0, (ht.block b h1 hb).trans hb', F', hs, hD, (ht.block r h3 hr).trans hr', rest⟩, h2⟩
theorem RangeG.congr {left' : κ → Bool} (h : RangeG T R w b r f left cnt) (e : ∀ x, left x = left' x) : RangeG T R w b r f left' cnt := by
  have : left = left' := funext e
  rw [← this]; exact h
theorem RangeG.own_ne (h : RangeG T R w b r f left cnt) {B : Nat} {e : TypeId} {size n : Nat} {v : Value} {xs : List Value} (ho : w.ownsRow B e size v n xs) : r ∉ ownB v := by
  obtain ⟨n, D, lf, ⟨es, clock, since, seen, c0, _, _, _, _, hr, _⟩, _⟩ := h
  intro hm
  unfold ownB at hm
  rw [Option.mem_toList] at hm
  rcases ho.2 with ⟨rfl, _⟩ | ⟨g, cap, cur, rfl, _, hg, _⟩
  · cases hm
  · simp [Value.ownBlock] at hm
    subst hm
    rw [hr] at hg
    cases hg
end
section
variable {w : World} {ops : Array Oper} {rest : List Oper} {o : Oper} {a : Act} {Q : Exit → Act → World → Prop}
theorem wpList_range_g {k : TypeId} {κ : Type} (T : KD k κ) (hg : o.guard = none) (m : Operand) (t : TypeId) (hop : o.op = Op.range t m) (e : TypeId) (K : Maps.Keyed Try.prog k) (ht : Try.prog.underlying t = some (.map k e)) (R : RdV) (b n : Nat) (f : κ → Option Value)
    (hm : a.eval m = .map (some b)) (hown : MapG T R w b f n)
    (hK : ∀ w', RangeG T R w' b w.heap.size f (fun x => (f x).isSome) n → Turns [] w w' → w'.heap.size = w.heap.size + 1 → wpList Try.prog ops Q rest (a.put o.dst (.pointer (some ⟨w.heap.size, 0, none⟩))) w') :
    wpList Try.prog ops Q (o :: rest) a w := by
  obtain ⟨D, ho, hs, hk⟩ := hown
  refine wpList_range_own w hg m t hop k e K ht R b n D hm ho fun w' h1 h2 h3 => hK w' ⟨n, D, _, by rw [hs] at h1; exact h1, hk, hk.has⟩ (Turns.of_grown h2) h3
theorem wpList_next_g {k : TypeId} {κ : Type} [DecidableEq κ] (T : KD k κ) (hg : o.guard = none) (it : Operand) (hop : o.op = Op.next it false) (K : Maps.Keyed Try.prog k) (R : RdV) (hR : RInj R) (b r : Nat) (f : κ → Option Value) (left : κ → Bool) (cnt : Nat)
    (hit : a.eval it = .pointer (some ⟨r, 0, none⟩)) (h : RangeG T R w b r f left cnt)
    (hDone : (∀ x, left x = false) → wpList Try.prog ops Q rest (a.put o.dst (.tuple #[.bool false])) w)
    (hMore : ∀ (x : κ) (v : Value) (w' : World) (cnt' : Nat), T.ok x → left x = true → f x = some v → RangeG T R w' b r f (fun y => left y && !decide (y = x)) cnt' → cnt' < cnt →
      Turns [r] w w' → w'.heap.size = w.heap.size → (Instr.entry (.pointer (some ⟨r, 0, none⟩))).run Try.prog w' = .ok (.tuple #[T.val x, v]) w' → wpList Try.prog ops Q rest (a.put o.dst (.tuple #[.bool true, T.val x, v])) w') :
    wpList Try.prog ops Q (o :: rest) a w := by
  obtain ⟨n, D, lf, h, hV, hl⟩ := h
  refine wpList_next_ranges w hg it hop k K R T.val (fun v : Value => v) (fun key kl hkey => by obtain ⟨x, rfl, _⟩ := T.inv _ _ hkey; exact ⟨x, rfl⟩) (fun v y _ => ⟨v, rfl⟩) b r n D lf cnt hit h (fun _ h0 => hDone fun x => by rw [← hl, h0]) ?_
  intro x v kl y w' cnt' hkey hlk hv hat hrg hlt hgr hsz hen
  obtain ⟨x', ex, rfl, hwx⟩ := T.inv _ _ hkey
  cases T.vinj _ _ ex
  have hhas := Maps.has_true_of_atKey hat
  rw [hV.has x] at hhas
  obtain ⟨u, hu⟩ := Option.isSome_iff_exists.1 hhas
  obtain ⟨ps, hru⟩ := hV.at_ x u (.lit (.bool false)) hu
  rw [hat] at hru
  have huv : u = v := hR _ _ _ _ _ hru (show R v = some (y.1, y.2) from hv)
  subst huv
  refine hMore x u w' cnt' hwx (by rw [← hl]; exact hlk) hu ⟨n, D, _, hrg, hV, fun z => ?_⟩ hlt (Turns.of_grown hgr) hsz hen
  rw [hl z]
  by_cases hz : z = x
  · subst hz
    rw [WideAt.sameKey_self (T.key z)]
    simp
  · rw [Maps.sameKey_ne (T.ne hz)]
    simp [hz]
end
end Go.Proofs.Ytjkkpdflijjllaa

namespace Go.Proofs.Ytjkkpdflijjllaa
open Go.RowKit

/-- What a map's values stand for: how a value is read, which value stands for the block g, what lies there. -/
structure ObK (α : Type) where
  R : RdV
  inj : RInj R
  V : Nat → Value
  vr : ∀ g, ∃ d, R (V g) = some (d, [])
  z : Value
  zr : ∃ d, R z = some (d, [])
  Ob : World → Nat → α → Prop
  lt : ∀ {w : World} {g : Nat} {y : α}, Ob w g y → g < w.heap.size
  turns : ∀ {w w' : World} {g : Nat} {y : α} {F : List Nat}, Ob w g y → Turns F w w' → g ∉ F → Ob w' g y
/-- A map or none, read as a datum of its own. -/
def mread : RdV
  | .map none => some (.nil, [])
  | .map (some b) => some (.lit (.int .i64 (b : Int)), [])
  | _ => none
theorem mread_inj : RInj mread := by
  intro v v' d ps ps' h h'
  have key : ∀ v d ps, mread v = some (d, ps) → (v = .map none ∧ d = .nil) ∨ ∃ b : Nat, v = .map (some b) ∧ d = .lit (.int .i64 (b : Int)) := by
    intro v d ps h
    unfold mread at h
    split at h
    · cases h
      exact .inl ⟨rfl, rfl⟩
    · cases h
      exact .inr ⟨_, rfl, rfl⟩
    · cases h
  rcases key v d ps h with ⟨rfl, e⟩ | ⟨b, rfl, e⟩ <;> rcases key v' d ps' h' with ⟨rfl, e'⟩ | ⟨b', rfl, e'⟩
  · rfl
  · rw [e] at e'; cases e'
  · rw [e] at e'; cases e'
  · rw [e] at e'
    simp only [DataW.lit.injEq, Lit.int.injEq, true_and] at e'
    have : b = b' := by omega
    rw [this]
/-- Maps as values: each key by key, with its number of keys. -/
def mapObK {k2 : TypeId} {κ2 : Type} (T2 : KD k2 κ2) (R2 : RdV) : ObK ((κ2 → Option Value) × Nat) where
  R := mread
  inj := mread_inj
  V := fun g => .map (some g)
  vr := fun g => ⟨_, rfl⟩
  z := .map none
  zr := ⟨_, rfl⟩
  Ob := fun w g y => MapG T2 R2 w g y.1 y.2
  lt := fun h => h.lt
  turns := fun h ht hg => h.turns ht hg
/-- The map at b: the key x has what is (P x).2, in the block (P x).1. -/
structure MapO {k : TypeId} {κ : Type} (T : KD k κ) {α : Type} (K : ObK α) (B : Nat) (w : World) (b : Nat) (P : κ → Option (Nat × α)) (n : Nat) : Prop where
  map : MapG T K.R w b (fun x => (P x).map fun q => K.V q.1) n
  blk : ∀ x q, P x = some q → K.Ob w q.1 q.2 ∧ q.1 ≠ b ∧ B ≤ q.1
  inj : ∀ x y q r, P x = some q → P y = some r → q.1 = r.1 → x = y
  low : B ≤ b
section
variable {k : TypeId} {κ : Type} {T : KD k κ} {α : Type} {K : ObK α} {B : Nat} {w w' : World} {b n : Nat} {P : κ → Option (Nat × α)} {t e : TypeId}
/-- Its blocks. -/
def MapO.In (b : Nat) (P : κ → Option (Nat × α)) (i : Nat) : Prop := i = b ∨ ∃ x q, P x = some q ∧ q.1 = i
theorem MapO.turns {F : List Nat} (h : MapO T K B w b P n) (ht : Turns F w w') (hF : ∀ i ∈ F, ¬ MapO.In b P i) : MapO T K B w' b P n := by
  refine ⟨h.map.turns ht fun hm => hF b hm (.inl rfl), fun x q hq => ?_, h.inj, h.low⟩
  obtain ⟨h1, h2⟩ := h.blk x q hq
  exact ⟨K.turns h1 ht fun hm => hF _ hm (.inr ⟨x, q, hq, rfl⟩), h2⟩
theorem MapO.pre (h : MapO T K B w b P n) (ht : Turns [] w w') : MapO T K B w' b P n := h.turns ht (by simp)
theorem MapO.made (T : KD k κ) (K : ObK α) (w : World) : MapO T K w.heap.size (w.alloc (.map #[] 0)) w.heap.size (fun _ => none) 0 :=
  ⟨(MapG.made T K.R w).congr fun _ => rfl, (fun x q h => by cases h), (fun x y q r h => by cases h), Nat.le_refl _⟩
variable (Kd : Maps.Keyed Try.prog k) (ht : Try.prog.underlying t = some (.map k e))
include Kd ht
theorem MapO.lookup (h : MapO T K B w b P n) (hz : (zeroValue e).run Try.prog w = .ok K.z w) {x : κ} (hx : T.ok x) :
    (Instr.lookup t (.map (some b)) (T.val x) false).run Try.prog w = .ok (match P x with | none => K.z | some q => K.V q.1) w := by
  obtain ⟨d, hd⟩ := K.zr
  rw [h.map.lookup Kd ht K.inj hz hd hx]
  cases P x <;> rfl
theorem MapO.look_ok (h : MapO T K B w b P n) (hz : (zeroValue e).run Try.prog w = .ok K.z w) {x : κ} (hx : T.ok x) :
    (Instr.lookup t (.map (some b)) (T.val x) true).run Try.prog w = .ok (.tuple #[match P x with | none => K.z | some q => K.V q.1, .bool (P x).isSome]) w := by
  obtain ⟨d, hd⟩ := K.zr
  rw [h.map.look_ok Kd ht K.inj hz hd hx]
  cases P x <;> rfl
omit Kd in
theorem MapO.len (h : MapO T K B w b P n) (ty : TypeId) : (Builtin.len_ #[t] ty #[.map (some b)]).run Try.prog w = .ok (.int .i64 n) w := h.map.len ht ty
/-- A struct of one's own comes under a key. -/
theorem MapO.store [DecidableEq κ] (h : MapO T K B w b P n) (hn : n < maxLen) {x : κ} (hx : T.ok x) {g : Nat} {y : α} (hg : K.Ob w g y) (hB : B ≤ g) (hnew : ¬ MapO.In b P g) :
    ∃ w', (Instr.mapUpdate t (.map (some b)) (T.val x) (K.V g)).run Try.prog w = .ok () w' ∧ MapO T K B w' b (fun z => if z = x then some (g, y) else P z) (if (P x).isSome then n else n + 1) ∧ Turns [b] w w' := by
  obtain ⟨d, hd⟩ := K.vr g
  obtain ⟨w', hrun, hm, htu⟩ := h.map.store Kd ht hn hx hd
  have hs : ((P x).map fun q => K.V q.1).isSome = (P x).isSome := by cases P x <;> rfl
  rw [hs] at hm
  refine ⟨w', hrun, ⟨hm.congr fun z => ?_, fun z q hq => ?_, fun z z' q r hq hr e => ?_, h.low⟩, htu⟩
  · by_cases hz : z = x
    · rw [if_pos hz, if_pos hz]; rfl
    · rw [if_neg hz, if_neg hz]
  · by_cases hz : z = x
    · rw [if_pos hz] at hq
      cases hq
      have hgb : g ≠ b := fun e => hnew (.inl e)
      exact ⟨K.turns hg htu (by simpa using hgb), hgb, hB⟩
    · rw [if_neg hz] at hq
      obtain ⟨h1, h2, h3⟩ := h.blk z q hq
      exact ⟨K.turns h1 htu (by simpa using h2), h2, h3⟩
  · by_cases hz : z = x <;> by_cases hz' : z' = x
    · rw [hz, hz']
    · rw [if_pos hz] at hq
      rw [if_neg hz'] at hr
      cases hq
      exact absurd (.inr ⟨z', r, hr, e.symm⟩) hnew
    · rw [if_neg hz] at hq
      rw [if_pos hz'] at hr
      cases hr
      exact absurd (.inr ⟨z, q, hq, e⟩) hnew
    · rw [if_neg hz] at hq
      rw [if_neg hz'] at hr
      exact h.inj z z' q r hq hr e
/-- A key is taken away. -/
theorem MapO.drop [DecidableEq κ] (h : MapO T K B w b P n) {x : κ} (hx : T.ok x) (ty : TypeId) :
    ∃ w', (Builtin.delete_ #[t, k] ty #[.map (some b), T.val x]).run Try.prog w = .ok (.tuple #[]) w' ∧ MapO T K B w' b (fun z => if z = x then none else P z) (if (P x).isSome then n - 1 else n) ∧ Turns [b] w w' := by
  obtain ⟨w', hrun, hm, htu⟩ := h.map.drop Kd ht hx ty
  have hs : ((P x).map fun q => K.V q.1).isSome = (P x).isSome := by cases P x <;> rfl
  rw [hs] at hm
  refine ⟨w', hrun, ⟨hm.congr fun z => ?_, fun z q hq => ?_, fun z z' q r hq hr e => ?_, h.low⟩, htu⟩
  · by_cases hz : z = x
    · rw [if_pos hz, if_pos hz]; rfl
    · rw [if_neg hz, if_neg hz]
  · by_cases hz : z = x
    · rw [if_pos hz] at hq; cases hq
    · rw [if_neg hz] at hq
      obtain ⟨h1, h2, h3⟩ := h.blk z q hq
      exact ⟨K.turns h1 htu (by simpa using h2), h2, h3⟩
  · by_cases hz : z = x
    · rw [if_pos hz] at hq; cases hq
    · by_cases hz' : z' = x
      · rw [if_pos hz'] at hr; cases hr
      · rw [if_neg hz] at hq
        rw [if_neg hz'] at hr
        exact h.inj z z' q r hq hr e
omit Kd ht in
/-- A struct that the map holds is written, cell by cell or whole: the block is another one. -/
theorem MapO.write [DecidableEq κ] (h : MapO T K B w b P n) {x : κ} {g : Nat} {y y' : α} (hq : P x = some (g, y)) (htu : Turns [g] w w') (hg : K.Ob w' g y') : MapO T K B w' b (fun z => if z = x then some (g, y') else P z) n := by
  have hgb := (h.blk x _ hq).2.1
  have hgB := (h.blk x _ hq).2.2
  refine ⟨(h.map.turns htu (by simpa using Ne.symm hgb)).congr fun z => ?_, fun z q hz => ?_, fun z z' q r hz hz' e => ?_, h.low⟩
  · by_cases hzx : z = x
    · rw [if_pos hzx, hzx, hq]; rfl
    · rw [if_neg hzx]
  · by_cases hzx : z = x
    · rw [if_pos hzx] at hz
      cases hz
      exact ⟨hg, hgb, hgB⟩
    · rw [if_neg hzx] at hz
      obtain ⟨h1, h2, h3⟩ := h.blk z q hz
      refine ⟨K.turns h1 htu fun hm => ?_, h2, h3⟩
      rw [List.mem_singleton] at hm
      exact hzx (h.inj z x q (g, y) hz hq hm)
  · have key : ∀ z q, (if z = x then some (g, y') else P z) = some q → ∃ q', P z = some q' ∧ q'.1 = q.1 := fun z q hz => by
      by_cases hzx : z = x
      · rw [if_pos hzx] at hz
        cases hz
        exact ⟨(g, y), by rw [hzx, hq], rfl⟩
      · rw [if_neg hzx] at hz
        exact ⟨q, hz, rfl⟩
    obtain ⟨q', e1, e2⟩ := key z q hz
    obtain ⟨r', e3, e4⟩ := key z' r hz'
    exact h.inj z z' q' r' e1 e3 (by rw [e2, e4, e])
end
end Go.Proofs.Ytjkkpdflijjllaa
