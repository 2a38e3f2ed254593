/- Going over a map whose keys are integers: what is still to come, key by key. -/
import Derived.Test.YtaepgcicgmbbeaaWhMem
namespace Go.Proofs.Ytaepgcicgmbbeaa
open Go.RowKit

/-- An iterator at r over the map at b; left x: the key x is still to come. -/
def RangeV (k : TypeId) (R : RdV) (w : World) (b r : Nat) (f : Int → Option Value) (left : Int → Bool) (cnt : Nat) : Prop :=
  ∃ n D lf, w.ranges Try.prog k R b r n D lf cnt ∧ KeyV R D f ∧ ∀ x : Int, lf (.int .i64 x) = left x
section
variable {k : TypeId} {R : RdV} {w w' : World} {b r : Nat} {f : Int → Option Value} {left : Int → Bool} {cnt : Nat}
theorem RangeV.left_eq (h : RangeV k R w b r f left cnt) : w.rangeLeft b r = cnt := by
  obtain ⟨n, D, lf, h, _⟩ := h
  exact h.left_eq
theorem RangeV.lt (h : RangeV k R w b r f left cnt) : r < w.heap.size := by
  obtain ⟨n, D, lf, h, _⟩ := h
  exact h.lt
theorem RangeV.turns {F : List Nat} (h : RangeV k R w b r f left cnt) (ht : Turns F w w') (hb : b ∉ F) (hr : r ∉ F) : RangeV k R w' b r f left cnt := by
  obtain ⟨n, D, lf, h, h2⟩ := h
  have h1 := h.owns.lt
  have h3 := h.lt
  obtain ⟨es, clock, since, seen, c0, hb', F', hs, hD, hr', rest⟩ := h
  exact ⟨n, D, lf, ⟨es, clock, since, seen, c0, (ht.block b h1 hb).trans hb', F', hs, hD, (ht.block r h3 hr).trans hr', rest⟩, h2⟩
theorem RangeV.congr {left' : Int → Bool} (h : RangeV k R w b r f left cnt) (e : ∀ x, left x = left' x) : RangeV k R w b r f left' cnt := by
  have : left = left' := funext e
  rw [← this]; exact h
theorem RangeV.own_ne (h : RangeV k R w b r f left cnt) {B : Nat} {e : TypeId} {size n : Nat} {v : Value} {xs : List Value} (ho : w.ownsRow B e size v n xs) : r ∉ ownB v := by
  obtain ⟨n, D, lf, ⟨es, clock, since, seen, c0, _, _, _, _, hr, _⟩, _⟩ := h
  intro hm
  unfold ownB at hm
  rw [Option.mem_toList] at hm
  rcases ho.2 with ⟨rfl, _⟩ | ⟨g, cap, cur, rfl, _, hg, _⟩
  · cases hm
  · simp [Value.ownBlock] at hm
    subst hm
    rw [hr] at hg
    cases hg
end
section
variable {w : World} {ops : Array Oper} {rest : List Oper} {o : Oper} {a : Act} {Q : Exit → Act → World → Prop}
theorem wpList_range_v (hg : o.guard = none) (m : Operand) (t : TypeId) (hop : o.op = Op.range t m) (k e : TypeId) (K : Maps.Keyed Try.prog k) (ht : Try.prog.underlying t = some (.map k e)) (R : RdV) (b n : Nat) (f : Int → Option Value)
    (hm : a.eval m = .map (some b)) (hown : MapV k R w b f n)
    (hK : ∀ w', RangeV k R w' b w.heap.size f (fun x => (f x).isSome) n → Turns [] w w' → w'.heap.size = w.heap.size + 1 → wpList Try.prog ops Q rest (a.put o.dst (.pointer (some ⟨w.heap.size, 0, none⟩))) w') :
    wpList Try.prog ops Q (o :: rest) a w := by
  obtain ⟨D, ho, hs, hk⟩ := hown
  refine wpList_range_own w hg m t hop k e K ht R b n D hm ho fun w' h1 h2 h3 => hK w' ⟨n, D, _, by rw [hs] at h1; exact h1, hk, hk.has⟩ (Turns.of_grown h2) h3
theorem wpList_next_v (hg : o.guard = none) (it : Operand) (hop : o.op = Op.next it false) (k : TypeId) (K : Maps.Keyed Try.prog k) (hk : Try.prog.underlying k = some (.int .i64)) (R : RdV) (hR : RInj R) (b r : Nat) (f : Int → Option Value) (left : Int → Bool) (cnt : Nat)
    (hit : a.eval it = .pointer (some ⟨r, 0, none⟩)) (h : RangeV k R w b r f left cnt)
    (hDone : (∀ x, left x = false) → wpList Try.prog ops Q rest (a.put o.dst (.tuple #[.bool false])) w)
    (hMore : ∀ (x : Int) (v : Value) (w' : World) (cnt' : Nat), (Lit.int .i64 x).wf = true → left x = true → f x = some v → RangeV k R w' b r f (fun y => left y && !decide (y = x)) cnt' → cnt' < cnt →
      Turns [r] w w' → w'.heap.size = w.heap.size → (Instr.entry (.pointer (some ⟨r, 0, none⟩))).run Try.prog w' = .ok (.tuple #[.int .i64 x, v]) w' → wpList Try.prog ops Q rest (a.put o.dst (.tuple #[.bool true, .int .i64 x, v])) w') :
    wpList Try.prog ops Q (o :: rest) a w := by
  obtain ⟨n, D, lf, h, hV, hl⟩ := h
  refine wpList_next_ranges w hg it hop k K R (fun x : Int => .int .i64 x) (fun v : Value => v) (fun key kl hkey => by obtain ⟨x, rfl, _⟩ := Maps.keyOf_int_inv hk hkey; exact ⟨x, rfl⟩) (fun v y _ => ⟨v, rfl⟩) b r n D lf cnt hit h (fun _ h0 => hDone fun x => by rw [← hl, h0]) ?_
  intro x v kl y w' cnt' hkey hlk hv hat hrg hlt hgr hsz hen
  obtain ⟨x', ex, rfl, hwx⟩ := Maps.keyOf_int_inv hk hkey
  cases ex
  have hhas := Maps.has_true_of_atKey hat
  rw [hV.has x] at hhas
  obtain ⟨u, hu⟩ := Option.isSome_iff_exists.1 hhas
  obtain ⟨ps, hru⟩ := hV.at_ x u (.lit (.bool false)) hu
  rw [hat] at hru
  have huv : u = v := hR _ _ _ _ _ hru (show R v = some (y.1, y.2) from hv)
  subst huv
  refine hMore x u w' cnt' hwx (by rw [← hl]; exact hlk) hu ⟨n, D, _, hrg, hV, fun z => ?_⟩ hlt (Turns.of_grown hgr) hsz hen
  rw [hl z]
  by_cases hz : z = x
  · subst hz
    rw [WideAt.sameKey_self (litKey z)]
    simp
  · rw [Maps.sameKey_ne (lit_ne hz)]
    simp [hz]
end
end Go.Proofs.Ytaepgcicgmbbeaa
