/- The document's store: New, Of, Copy. -/
import Derived.Test.YtcjmieofmogeiaaRowK2
import Derived.Test.YtcjmieofmogeiaaStPlain
import Derived.Lib.Hide
namespace Go.Proofs.Ytcjmieofmogeiaa
open Go.RowKit

def sK : EK Smp := ⟨30, 52, 4, 40, .agg #[.string ⟨#[]⟩, .int .i64 0, .int .i64 0, .bool false], Smp.cells⟩
theorem sOk : sK.Ok Try.prog := ⟨Try.underlying30, by kernel_rfl, rfl, by decide, by decide, fun _ => rfl, fun x u hu => by simp [sK, Smp.cells] at hu; rcases hu with rfl | rfl | rfl | rfl <;> rfl⟩
def oK : EK One := ⟨39, 100, 7, 72, .agg #[.string ⟨#[]⟩, .string ⟨#[]⟩, .int .i64 0, .int .i64 0, .bool false, .bool false, .int .i64 0], One.cells⟩
theorem oOk : oK.Ok Try.prog := ⟨Try.underlying39, by kernel_rfl, rfl, by decide, by decide, fun _ => rfl, fun x u hu => by simp [oK, One.cells] at hu; rcases hu with rfl | rfl | rfl | rfl | rfl | rfl | rfl <;> rfl⟩
def nK : EK Sn := ⟨47, 71, 7, 64, .agg #[.string ⟨#[]⟩, .int .i64 0, .int .i64 0, .bool false, .int .i64 0, .bool false, .int .i64 0], Sn.cells⟩
theorem nOk : nK.Ok Try.prog := ⟨Try.underlying47, by kernel_rfl, rfl, by decide, by decide, fun _ => rfl, fun x u hu => by simp [nK, Sn.cells] at hu; rcases hu with rfl | rfl | rfl | rfl | rfl | rfl | rfl <;> rfl⟩
section
variable {α : Type} {K : EK α} {P : Program}
/-- A cell of a row of the call's own is written. -/
theorem own_cell {B : Nat} {w : World} {te : TypeId} {sz n cap g : Nat} {xs : List Value} (h : w.ownsRow B te sz (.slice (some ⟨g, 0, none⟩) n cap) n xs) (j : Nat) (u : Value) :
    (w.setCell ⟨g, j, none⟩ u).ownsRow B te sz (.slice (some ⟨g, 0, none⟩) n cap) n (xs.set j u) := by
  obtain ⟨hl, h2⟩ := h
  rcases h2 with ⟨e, _⟩ | ⟨g', cap', cur, e, hB, hg, h3, h4, h5, h6⟩
  · cases e
  · cases e
    have h0 := heap_setCell_same w g j _ _ u hg
    refine ⟨by rw [List.length_set]; exact hl, .inr ⟨g, cap, _, rfl, hB, h0, h3, h4, by simpa using h5, ?_⟩⟩
    rw [← h6]
    simp [List.take_set]
theorem own_frozen {B : Nat} {w : World} {te : TypeId} {sz n cap g : Nat} {xs : List Value} (h : w.ownsRow B te sz (.slice (some ⟨g, 0, none⟩) n cap) n xs) (j : Nat) : w.frozen? ⟨g, j, none⟩ = false := by
  obtain ⟨_, h2⟩ := h
  rcases h2 with ⟨e, _⟩ | ⟨g', cap', cur, e, hB, hg, _⟩
  · cases e
  · cases e
    unfold World.frozen?
    rw [hg]
    simp
end
theorem flatO_set : ∀ (L : List One) (k : Nat) (y z : One), L[k]? = some y → z.name = y.name → oK.flat (L.set k z) = ((((((oK.flat L).set (k * 7 + 1) (.string z.l.s.name)).set (k * 7 + 2) (.int .i64 z.l.s.val)).set (k * 7 + 3) (.int .i64 z.l.s.tm)).set (k * 7 + 4) (.bool z.l.s.cnt)).set (k * 7 + 5) (.bool z.l.live)).set (k * 7 + 6) (.int .i64 z.l.own)
  | [], k, y, z, h, _ => by simp at h
  | x :: L, 0, y, z, h, e => by
    simp at h
    subst h
    simp [EK.flat, oK, One.cells, e]
  | x :: L, k + 1, y, z, h, e => by
    rw [List.getElem?_cons_succ] at h
    have ih := flatO_set L k y z h e
    rw [List.set_cons_succ, EK.flat_cons, EK.flat_cons, ih]
    have el : (oK.enc x).length = 7 := rfl
    have a : ∀ (j : Nat) (m : List Value) (v : Value), (oK.enc x ++ m).set ((k + 1) * 7 + j) v = oK.enc x ++ m.set (k * 7 + j) v := fun j m v => by
      rw [List.set_append_right _ _ (by rw [el]; omega), el]
      congr 1
      rw [show (k + 1) * 7 + j - 7 = k * 7 + j by omega]
    rw [a, a, a, a, a, a]
theorem flatO_live : ∀ (L : List One) (k : Nat) (y : One) (b : Bool), L[k]? = some y → oK.flat (L.set k ⟨y.name, ⟨y.l.s, b, y.l.own⟩⟩) = (oK.flat L).set (k * 7 + 5) (.bool b)
  | [], k, y, b, h => by simp at h
  | x :: L, 0, y, b, h => by
    simp at h
    subst h
    simp [EK.flat, oK, One.cells]
  | x :: L, k + 1, y, b, h => by
    rw [List.getElem?_cons_succ] at h
    have ih := flatO_live L k y b h
    rw [List.set_cons_succ, EK.flat_cons, EK.flat_cons, ih]
    have el : (oK.enc x).length = 7 := rfl
    rw [List.set_append_right _ _ (by rw [el]; omega), el]
    congr 2
    omega
/-- The document's store: its head in block rv, its series in a row of its own. -/
structure RefS (B : Nat) (w : World) (rv : Nat) (v : Value) (most : Nat) (L : List One) : Prop where
  head : w.heap[rv]? = some (.cells #[v, .int .i64 most] 41 (0, 0))
  own : oK.Own B w v L
  low : B ≤ rv
  ne : rv ∉ ownB v
section
variable {B : Nat} {w w' : World} {rv : Nat} {v : Value} {most : Nat} {L : List One}
theorem RefS.lt (h : RefS B w rv v most L) : rv < w.heap.size := lt_of_block h.head
theorem RefS.turns {F : List Nat} (h : RefS B w rv v most L) (ht : Turns F w w') (h1 : rv ∉ F) (h2 : ∀ i ∈ ownB v, i ∉ F) : RefS B w' rv v most L :=
  ⟨(ht.block rv h.lt h1).trans h.head, h.own.turns ht (fun g hg => h2 g (by unfold ownB; rw [hg]; simp)), h.low, h.ne⟩
theorem RefS.pre (h : RefS B w rv v most L) (ht : Turns [] w w') : RefS B w' rv v most L := h.turns ht (by simp) (by simp)
theorem RefS.cells (h : RefS B w rv v most L) : w.cell? ⟨rv, 0, none⟩ = some v ∧ w.cell? ⟨rv, 1, none⟩ = some (.int .i64 most) ∧ ∀ j, w.frozen? ⟨rv, j, none⟩ = false :=
  ⟨by simp [World.cell?, h.head], by simp [World.cell?, h.head], fun j => by simp [World.frozen?, h.head]⟩
/-- Its slice, written out. -/
theorem RefS.form (h : RefS B w rv v most L) : ∃ A c, v = .slice A L.length c ∧ oK.Reads w w.heap.size A L ∧ L.length ≤ c ∧ c ≤ maxLen := h.own.reads
end
end Go.Proofs.Ytcjmieofmogeiaa

namespace Go.Proofs.Ytcjmieofmogeiaa
open Go.RowKit

theorem wrapSt {i : Nat} (h : i ≤ 1000000) : wrap64 ((i : Int) + 1) = ((i + 1 : Nat) : Int) := by
  unfold wrap64
  omega
set_option maxRecDepth 100000 in
set_option maxHeartbeats 1000000 in
theorem rnewS_any (most : Int) (w : World) (hm : most ≤ 9223372036854775807) :
    Calls Try.prog 24 #[.int .i64 most] w fun e w' => e = .returned (.pointer (some ⟨w.heap.size, 0, none⟩)) ∧ RefS w.heap.size w' w.heap.size (.slice none 0 0) most.toNat [] ∧ Below w.heap.size w w' := by
  have HR : Hid (∀ x : Int, x = (most.toNat : Int) → RefS w.heap.size (w.alloc (.cells #[.slice none 0 0, .int .i64 x] 41)) w.heap.size (.slice none 0 0) most.toNat [] ∧ Below w.heap.size w (w.alloc (.cells #[.slice none 0 0, .int .i64 x] 41))) := Lib.hid (fun x hx => by
    subst hx
    exact ⟨⟨heap_alloc_new w _, EK.Own.nil _ _ (Nat.zero_le _), Nat.le_refl _, by simp [ownB, Value.ownBlock]⟩, (Below.refl _ _).alloc (Nat.le_refl _) _⟩)
  go_enter Try.func24, Try.ntmps24
  go_wp2
  all_goals
    go_ret
    exact ⟨rfl, HR.out _ (by omega)⟩
def ofI : Option Nat → Int
  | some i => i
  | none => -1
section
variable {B : Nat} {w : World} {rv : Nat} {v : Value} {most : Nat} {L : List One}
theorem RefS.at_ (h : RefS B w rv v most L) {i : Nat} {x : One} (hx : L[i]? = some x) : ∃ g c, v = .slice (some ⟨g, 0, none⟩) L.length c ∧ B ≤ g ∧ g < w.heap.size ∧ g ≠ rv ∧ ∀ j u, (One.cells x)[j]? = some u → w.cell? ⟨g, i * 7 + j, none⟩ = some u := by
  have hl : 0 < L.length := by have := (List.getElem?_eq_some_iff.1 hx).1; omega
  rcases h.own.form with ⟨_, e⟩ | ⟨g, cap, e, h1, h2, _, _⟩
  · rw [e] at hl; simp at hl
  · refine ⟨g, cap, e, h1, h2, fun e' => h.ne (by rw [e]; simp [ownB, Value.ownBlock, e']), fun j u hu => ?_⟩
    have h3 := h.own
    rw [e] at h3
    have := World.ownsRow.cells h3 (g := g) rfl (i * 7 + j) u (EK.flat_at oOk hx j u hu)
    rwa [add_plain', Nat.zero_add] at this
set_option maxRecDepth 100000 in
set_option maxHeartbeats 2000000 in
theorem rofS_any (h : RefS B w rv v most L) (hL : L.length ≤ 1000000) (n : ByteArray) :
    Calls Try.prog 49 #[.pointer (some ⟨rv, 0, none⟩), .string n] w fun e w' => e = .returned (.int .i64 (ofI (ofN n L))) ∧ w = w' := by
  obtain ⟨q0, q1, _⟩ := h.cells
  obtain ⟨A, c, hv, _, hlc, hcm⟩ := h.form
  rw [hv] at q0
  have H := Lib.hid h
  have HV := Lib.hid hv
  have hL2 : (L.length : Int) ≤ 1000000 := by omega
  clear h hlc hcm hv
  go_enter Try.func49, Try.ntmps49
  go_wp2
  go_loopw [5] (fun i wr => ∃ k : Nat, i = .int .i64 (k : Int) ∧ k ≤ L.length ∧ Hid (∀ j z, j < k → L[j]? = some z → ¬ z.name = n) ∧ w = wr) (fun i _ => L.length - (intOf i).toNat)
  case atStart => exact ⟨0, rfl, Nat.zero_le _, Lib.hid (fun j z hj => absurd hj (by omega)), rfl⟩
  case round =>
    obtain ⟨k, rfl, hk, HQ, rfl⟩ := hrel
    by_cases hlt : k < L.length
    · obtain ⟨x, hx⟩ : ∃ x, L[k]? = some x := ⟨_, List.getElem?_eq_getElem hlt⟩
      obtain ⟨g, c', e, _, _, _, hc⟩ := H.out.at_ hx
      rw [HV.out] at e
      injection e with e1 e2 e3
      subst e1 e3
      have d0 := hc 0 _ rfl
      simp only [Nat.add_zero] at d0
      have f2 : (k : Int) < (L.length : Int) := by omega
      have f3 : (0 : Int) ≤ (k : Int) := by omega
      have HX := Lib.hid hx
      clear hx hc
      cases he : eqN x.name n with
      | true =>
        have HF : Hid (ofN n L = some k) := Lib.hid (ofN_here HX.out (eqN_iff.1 he) HQ.out)
        unfold eqN at he
        go_wp2
        go_ret
        exact ⟨by rw [HF.out]; rfl, rfl⟩
      | false =>
        have HN : Hid (∀ j z, j < k + 1 → L[j]? = some z → ¬ z.name = n) := Lib.hid (fun j z hj hz => by
          rcases Nat.lt_or_ge j k with h1 | h1
          · exact HQ.out j z h1 hz
          · obtain rfl : j = k := by omega
            rw [HX.out] at hz
            cases hz
            intro e
            rw [eqN_iff.2 e] at he
            cases he)
        unfold eqN at he
        go_wp2
        go_roundw
        case rel => exact ⟨k + 1, by go_num, by omega, HN, by first | rfl | trivial⟩
        case measure => simp [intOf] <;> omega
    · have hge : decide ((k : Int) < (L.length : Int)) = false := by rw [decide_eq_false_iff_not]; omega
      have HF : Hid (ofN n L = none) := Lib.hid (ofN_lost fun y hy => by
        obtain ⟨j, hj, rfl⟩ := List.getElem_of_mem hy
        exact HQ.out j _ (by omega) (List.getElem?_eq_getElem hj))
      go_wp2
      go_ret
      exact ⟨by rw [HF.out]; rfl, rfl⟩
end
end Go.Proofs.Ytcjmieofmogeiaa
