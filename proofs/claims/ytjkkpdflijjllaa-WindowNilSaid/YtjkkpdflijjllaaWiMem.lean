/- The program's windows in memory: their head, the map of the open ones, in each a map of sums. -/
import Derived.Test.YtjkkpdflijjllaaWiPlain
import Derived.Test.YtjkkpdflijjllaaMapO
import Derived.Test.YtjkkpdflijjllaaKeysS
import Derived.Test.YtjkkpdflijjllaaWnRef
namespace Go.Proofs.Ytjkkpdflijjllaa
open Go.RowKit

/-- A sum, read as a datum. -/
def sumR : RdV
  | .agg cs => match cs.toList with
    | [.int .i64 p, .bool i] => some (.agg [.lit (.int .i64 p), .lit (.bool i)], [])
    | _ => none
  | _ => none
theorem sumR_form {v : Value} {y : DataW Unit × List MemPlace} (h : sumR v = some y) : ∃ p i, v = .agg #[.int .i64 p, .bool i] ∧ y = (.agg [.lit (.int .i64 p), .lit (.bool i)], []) := by
  unfold sumR at h
  split at h
  · rename_i cs
    obtain ⟨cs⟩ := cs
    split at h
    · rename_i p i hcs
      simp only at hcs
      subst hcs
      exact ⟨p, i, rfl, (Option.some.inj h).symm⟩
    · cases h
  · cases h
theorem sumR_inj : RInj sumR := by
  intro v v' d ps ps' h h'
  obtain ⟨p, i, rfl, e⟩ := sumR_form h
  obtain ⟨p', i', rfl, e'⟩ := sumR_form h'
  have e1 := (Prod.mk.inj e).1
  have e2 := (Prod.mk.inj e').1
  rw [e1] at e2
  simp only [DataW.agg.injEq, List.cons.injEq, DataW.lit.injEq, Lit.int.injEq, Lit.bool.injEq, true_and, and_true] at e2
  rw [e2.1, e2.2]
theorem sumR_mk (p : Int) (i : Bool) : sumR (.agg #[.int .i64 p, .bool i]) = some (.agg [.lit (.int .i64 p), .lit (.bool i)], []) := rfl
abbrev obW : ObK (SM × Nat) := mapObK txtKD sumR
abbrev PW : Type := Int → Option (Nat × (SM × Nat))
/-- The map of the open ones and the list tell the same. -/
structure TelW (P : PW) (L : List Wn) : Prop where
  mem : ∀ x ∈ L, ∃ g f, P x.num = some (g, (f, x.cr.length)) ∧ TelC f x.cr
  all : ∀ n q, P n = some q → ∃ x ∈ L, x.num = n
abbrev tO : TypeId := 64
abbrev tI : TypeId := 74
theorem undO : Try.prog.underlying tO = some (.map 2 tI) := Try.underlying64
theorem undI : Try.prog.underlying tI = some (.map 9 78) := Try.underlying74
theorem zeroI (w : World) : (zeroValue tI).run Try.prog w = .ok (.map none) w := by kernel_rfl
theorem zeroS (w : World) : (zeroValue 78).run Try.prog w = .ok (.agg #[.int .i64 0, .bool false]) w := by kernel_rfl
theorem num_ok {n : Int} (h : -9223372036854775808 ≤ n ∧ n ≤ 9223372036854775807) : numKD.ok n := by
  show (Lit.int .i64 n).wf = true
  simp [Lit.wf, IntKind.min, IntKind.max, IntKind.signed, IntKind.bits]
  exact h
/-- The head. -/
def HeadW (w : World) (p b : Nat) (S : Ws) : Prop := w.heap[p]? = some (.cells #[.int .i64 S.len, .int .i64 S.lat, .int .i64 S.most, .int .i64 S.floor, .int .i64 S.mark, .int .i64 S.cred, .int .i64 S.late, .map (some b)] 66 (0, 0))
structure WiA (B : Nat) (w : World) (p b : Nat) (P : PW) (S : Ws) : Prop where
  head : HeadW w p b S
  map : MapO numKD obW B w b P S.L.length
  tel : TelW P S.L
  low : B ≤ p
  ne : p ≠ b
  apart : ∀ n q, P n = some q → q.1 ≠ p
  len : 1 ≤ S.len
section
variable {B : Nat} {w w' : World} {p b : Nat} {P : PW} {S : Ws} {F : List Nat}
theorem HeadW.lt (h : HeadW w p b S) : p < w.heap.size := lt_of_block h
theorem HeadW.turns {G : List Nat} (h : HeadW w p b S) (ht : Turns G w w') (hp : p ∉ G) : HeadW w' p b S := (ht.block p h.lt hp).trans h
theorem HeadW.cells (h : HeadW w p b S) : w.cell? ⟨p, 0, none⟩ = some (.int .i64 S.len) ∧ w.cell? ⟨p, 1, none⟩ = some (.int .i64 S.lat) ∧ w.cell? ⟨p, 2, none⟩ = some (.int .i64 S.most) ∧ w.cell? ⟨p, 3, none⟩ = some (.int .i64 S.floor) ∧ w.cell? ⟨p, 4, none⟩ = some (.int .i64 S.mark) ∧ w.cell? ⟨p, 5, none⟩ = some (.int .i64 S.cred) ∧ w.cell? ⟨p, 6, none⟩ = some (.int .i64 S.late) ∧ w.cell? ⟨p, 7, none⟩ = some (.map (some b)) ∧ ∀ j, w.frozen? ⟨p, j, none⟩ = false := by
  unfold HeadW at h
  refine ⟨?_, ?_, ?_, ?_, ?_, ?_, ?_, ?_, fun j => ?_⟩ <;> simp [World.cell?, World.frozen?, h]
/-- Its blocks. -/
def WiA.In (p b : Nat) (P : PW) (i : Nat) : Prop := i = p ∨ MapO.In b P i
theorem WiA.lt (h : WiA B w p b P S) : ∀ i, WiA.In p b P i → B ≤ i ∧ i < w.heap.size := by
  rintro i (rfl | rfl | ⟨n, q, hq, rfl⟩)
  · exact ⟨h.low, h.head.lt⟩
  · exact ⟨h.map.low, h.map.map.lt⟩
  · exact ⟨(h.map.blk n q hq).2.2, obW.lt (h.map.blk n q hq).1⟩
theorem WiA.turns {G : List Nat} (h : WiA B w p b P S) (ht : Turns G w w') (hG : ∀ i ∈ G, ¬ WiA.In p b P i) : WiA B w' p b P S :=
  ⟨h.head.turns ht fun hm => hG p hm (.inl rfl), h.map.turns ht fun i hi hm => hG i hi (.inr hm), h.tel, h.low, h.ne, h.apart, h.len⟩
theorem WiA.pre (h : WiA B w p b P S) (ht : Turns [] w w') : WiA B w' p b P S := h.turns ht (by simp)
theorem WiA.down {B' : Nat} (h : WiA B' w p b P S) (hB : B ≤ B') : WiA B w p b P S :=
  ⟨h.head, ⟨h.map.map, fun x q hq => ⟨(h.map.blk x q hq).1, (h.map.blk x q hq).2.1, Nat.le_trans hB (h.map.blk x q hq).2.2⟩, h.map.inj, Nat.le_trans hB h.map.low⟩, h.tel, Nat.le_trans hB h.low, h.ne, h.apart, h.len⟩
/-- A number of the head is written. -/
theorem WiA.put (h : WiA B w p b P S) (j : Nat) (u : Value) {S' : Ws} (hL : S'.L = S.L) (hlen : S'.len = S.len) (he : (#[Value.int .i64 S.len, .int .i64 S.lat, .int .i64 S.most, .int .i64 S.floor, .int .i64 S.mark, .int .i64 S.cred, .int .i64 S.late, .map (some b)] : Array Value).set! j u = #[.int .i64 S'.len, .int .i64 S'.lat, .int .i64 S'.most, .int .i64 S'.floor, .int .i64 S'.mark, .int .i64 S'.cred, .int .i64 S'.late, .map (some b)]) :
    WiA B (w.setCell ⟨p, j, none⟩ u) p b P S' ∧ Turns [p] w (w.setCell ⟨p, j, none⟩ u) := by
  have ht : Turns [p] w (w.setCell ⟨p, j, none⟩ u) := Turns.setCell _ _ _ (by simp)
  have hd := heap_setCell_same w p j _ _ u h.head
  refine ⟨⟨?_, ?_, by rw [hL]; exact h.tel, h.low, h.ne, h.apart, by rw [hlen]; exact h.len⟩, ht⟩
  · unfold HeadW
    rw [← he]
    exact hd
  · rw [hL]
    refine h.map.turns ht fun i hi hm => ?_
    rw [List.mem_singleton] at hi
    subst hi
    rcases hm with e | ⟨n, q, hq, e⟩
    · exact h.ne e
    · exact h.apart n q hq e
/-- What stands for a number. -/
theorem TelW.none {L : List Wn} (h : TelW P L) {n : Int} (hn : P n = .none) : ∀ x ∈ L, x.num ≠ n := fun x hx e => by
  obtain ⟨g, f, hg, _⟩ := h.mem x hx
  rw [e, hn] at hg
  cases hg
theorem TelW.isW {L : List Wn} (h : TelW P L) (n : Int) : (P n).isSome = isW n L := by
  unfold Go.Proofs.Ytjkkpdflijjllaa.isW
  cases hp : P n with
  | none =>
    symm
    rw [Option.isSome_none, List.any_eq_false]
    intro x hx
    have := h.none hp x hx
    simpa using this
  | some q =>
    symm
    rw [Option.isSome_some, List.any_eq_true]
    obtain ⟨x, hx, e⟩ := h.all n q hp
    exact ⟨x, hx, by simpa using e⟩
theorem TelW.keys {L : List Wn} (h : TelW P L) (x : Int) : x ∈ L.map Wn.num ↔ ((P x).map fun q => obW.V q.1).isSome = true := by
  rw [Option.isSome_map, List.mem_map]
  constructor
  · rintro ⟨y, hy, rfl⟩
    obtain ⟨g, f, hg, _⟩ := h.mem y hy
    rw [hg]; rfl
  · intro hs
    obtain ⟨q, hq⟩ := Option.isSome_iff_exists.1 hs
    obtain ⟨y, hy, e⟩ := h.all x q hq
    exact ⟨y, hy, e⟩
theorem srt_keys {L : List Wn} (h : SrtW L) : (L.map Wn.num).Pairwise (· < ·) := List.pairwise_map.2 h
/-- m[n], of all the open ones. -/
def inW (P : PW) (n : Int) : Value := match P n with | none => .map none | some q => .map (some q.1)
theorem inW_some {P : PW} {n : Int} {q : Nat × (SM × Nat)} (h : P n = some q) : inW P n = .map (some q.1) := by unfold inW; rw [h]
theorem inW_none {P : PW} {n : Int} (h : P n = none) : inW P n = .map none := by unfold inW; rw [h]
theorem WiA.look (h : WiA B w p b P S) {n : Int} (hn : numKD.ok n) : (Instr.lookup tO (.map (some b)) (.int .i64 n) true).run Try.prog w = .ok (.tuple #[inW P n, .bool (P n).isSome]) w := by
  have := h.map.look_ok num_keyed undO (zeroI w) hn
  revert this
  unfold inW
  cases P n <;> exact id
theorem WiA.look1 (h : WiA B w p b P S) {n : Int} (hn : numKD.ok n) : (Instr.lookup tO (.map (some b)) (.int .i64 n) false).run Try.prog w = .ok (inW P n) w := by
  have := h.map.lookup num_keyed undO (zeroI w) hn
  revert this
  unfold inW
  cases P n <;> exact id
theorem WiA.lenM (h : WiA B w p b P S) (ty : TypeId) : (Builtin.len_ #[tO] ty #[.map (some b)]).run Try.prog w = .ok (.int .i64 S.L.length) w := h.map.len undO ty
end
/-- A map of sums. -/
abbrev MapS (w : World) (g : Nat) (f : SM) (n : Nat) : Prop := MapG txtKD sumR w g f n
theorem MapS.look {w : World} {g n : Nat} {f : SM} (h : MapS w g f n) {s : ByteArray} (hs : s.size ≤ 140737488355328) : (Instr.lookup tI (.map (some g)) (.string s) false).run Try.prog w = .ok ((f s).getD (.agg #[.int .i64 0, .bool false])) w :=
  MapG.lookup txt_keyed undI sumR_inj h (zeroS w) (sumR_mk 0 false) (show s.size ≤ maxLen by unfold maxLen; omega)
theorem MapS.store {w : World} {g n : Nat} {f : SM} (h : MapS w g f n) (hn : n < maxLen) {s : ByteArray} (hs : s.size ≤ 140737488355328) (p : Int) (i : Bool) :
    ∃ w', (Instr.mapUpdate tI (.map (some g)) (.string s) (.agg #[.int .i64 p, .bool i])).run Try.prog w = .ok () w' ∧ MapS w' g (fun y => if y = s then some (.agg #[.int .i64 p, .bool i]) else f y) (if (f s).isSome then n else n + 1) ∧ Turns [g] w w' :=
  MapG.store txt_keyed undI h hn (show s.size ≤ maxLen by unfold maxLen; omega) (sumR_mk p i)
end Go.Proofs.Ytjkkpdflijjllaa
