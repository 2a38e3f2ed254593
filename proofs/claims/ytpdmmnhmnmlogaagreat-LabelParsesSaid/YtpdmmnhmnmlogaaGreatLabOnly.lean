/- The program's Only: the closure, slices.IndexFunc and slices.DeleteFunc at labels. -/
import Derived.Test.YtpdmmnhmnmlogaaGreatRefOnly
import Derived.Laws.OwnMore
import Derived.Laws.IdiomCopy
import Derived.Lib.SliceRun
namespace Go.Proofs.YtpdmmnhmnmlogaaGreat
open Go.RowKit

def labV (x : Lbl) : Value := .agg #[.string ⟨x.1.toArray⟩, .string ⟨x.2.toArray⟩]
set_option maxRecDepth 100000 in
set_option maxHeartbeats 2000000 in
theorem clos_any (x : Lbl) (B : Nat) (A2 : Option Addr) (cap2 : Nat) (bs : List (List UInt8)) (W : World) (hB : B < W.heap.size) (hc : W.cell? ⟨B, 0, none⟩ = some (.slice A2 bs.length cap2)) (hbs : bs.length ≤ 1000) (hr : SReads W W.heap.size A2 bs) :
    Calls Tryz.prog 25 #[.agg #[.string ⟨x.1.toArray⟩, .string ⟨x.2.toArray⟩], .pointer (some ⟨B, 0, none⟩)] W fun e w' => e = .returned (.bool (!decide (x.1 ∈ bs))) ∧ Below W.heap.size W w' := by
  have HC := Lib.hid (contains_str A2 cap2 bs ⟨x.1.toArray⟩ (W.alloc (.cells #[.string ⟨x.1.toArray⟩, .string ⟨x.2.toArray⟩] 42)) hbs
    ((hr.keep fun p hp => World.cell?_alloc_lt _ _ p hp).more (by simp)))
  change Hid (Calls _ _ _ _ fun e w' => e = .returned (.bool (decide (x.1 ∈ bs))) ∧ _ = w') at HC
  generalize decide (x.1 ∈ bs) = d at HC ⊢
  have HB := Lib.hid (below_alloc (Nat.le_refl W.heap.size) (.cells #[.string ⟨x.1.toArray⟩, .string ⟨x.2.toArray⟩] 42))
  clear hr
  go_enter Tryz.func25, Tryz.ntmps25
  go_wp2_with fail
  refine (Hid.out HC).mono ?_
  rintro e w1 ⟨rfl, rfl⟩
  go_wp2
  go_ret
  exact ⟨rfl, HB.out⟩
/-- What the closure answers, wherever the world below block B is as it was. -/
def ClosAt (B b : Nat) (bs : List (List UInt8)) (w : World) : Prop :=
  ∀ (W : World) (x : Lbl), Below B w W → Calls Tryz.prog 25 #[.agg #[.string ⟨x.1.toArray⟩, .string ⟨x.2.toArray⟩], .pointer (some ⟨b, 0, none⟩)] W fun e w' => e = .returned (.bool (!decide (x.1 ∈ bs))) ∧ Below W.heap.size W w'
theorem ClosAt.below {B b : Nat} {bs : List (List UInt8)} {w w' : World} (h : ClosAt B b bs w) (hb : Below B w w') : ClosAt B b bs w' := fun W x hW => h W x (hb.trans hW)
def FirstOut (bs : List (List UInt8)) (l : List Lbl) (i : Int) : Prop :=
  (i = -1 ∧ ∀ x ∈ l, x.1 ∈ bs) ∨ ∃ (k : Nat) (x : Lbl), i = k ∧ l[k]? = some x ∧ x.1 ∉ bs ∧ ∀ (j : Nat) (y : Lbl), j < k → l[j]? = some y → y.1 ∈ bs
set_option maxRecDepth 100000 in
set_option maxHeartbeats 4000000 in
theorem idxf_any (B b : Nat) (A : Option Addr) (cap : Nat) (l : List Lbl) (bs : List (List UInt8)) (w : World) (hB : B ≤ w.heap.size) (hl : l.length ≤ 1000) (hc : ClosAt B b bs w) (hr : LReads w w.heap.size A l) :
    Calls Tryz.prog 39 #[.slice A l.length cap, .func (.func 25) #[] #[.pointer (some ⟨b, 0, none⟩)]] w fun e w' => (∃ i : Int, e = .returned (.int .i64 i) ∧ FirstOut bs l i) ∧ Below w.heap.size w w' := by
  have HR := Lib.hid hr
  have HC := Lib.hid hc
  clear hr hc
  go_enter Tryz.func39, Tryz.ntmps39
  go_wp2
  go_loopw [8] (fun iv wr => ∃ k : Nat, k ≤ l.length ∧ iv = .int .i64 k ∧ Hid (∀ (j : Nat) (y : Lbl), j < k → l[j]? = some y → y.1 ∈ bs) ∧ Hid (Below w.heap.size w wr) ∧ w.heap.size ≤ wr.heap.size) (fun iv _ => l.length - (intOf iv).toNat)
  case atStart => exact ⟨0, Nat.zero_le _, rfl, Lib.hid (fun j y h => by omega), Lib.hid (Below.refl _ _), Nat.le_refl _⟩
  case round =>
    obtain ⟨k, hk, rfl, HIN, HB, hBr⟩ := hrel
    by_cases hlt : k < l.length
    · obtain ⟨x, hx⟩ : ∃ x, l[k]? = some x := ⟨_, List.getElem?_eq_getElem hlt⟩
      obtain ⟨g, off, rfl, hg, hcl⟩ := HR.out.at (by omega)
      have hc1 := (HB.out.cell (p := ⟨g, off + k * 2, none⟩) hg).trans (hcl k x hx).1
      have hc2 := (HB.out.cell (p := ⟨g, off + k * 2 + 1, none⟩) hg).trans (hcl k x hx).2
      unfold strV at hc1 hc2
      have hlt' : (k : Int) < (l.length : Int) := by omega
      have hk0 : (0 : Int) ≤ (k : Int) := by omega
      have HCL := Lib.hid (HC.out wr x (HB.out.mono hB))
      by_cases hm : x.1 ∈ bs
      · have HIN1 := Lib.hid (show ∀ (j : Nat) (y : Lbl), j < k + 1 → l[j]? = some y → y.1 ∈ bs from fun j y h1 h2 => by
          rcases Nat.lt_or_ge j k with h | h
          · exact HIN.out j y h h2
          · obtain rfl : j = k := by omega
            rw [hx] at h2
            cases h2
            exact hm)
        rw [decide_eq_true hm] at HCL
        clear hcl hx hm
        go_wp2_with fail
        refine (Hid.out HCL).mono ?_
        rintro e w2 ⟨rfl, hb2⟩
        have HB2 := Lib.hid (HB.out.trans (hb2.mono hBr))
        clear hb2
        go_wp2
        go_roundw
        case rel => exact ⟨k + 1, by omega, by go_num, HIN1, HB2, HB2.out.size⟩
        case measure => simp [intOf] <;> omega
      · have HF := Lib.hid (show FirstOut bs l (k : Int) from .inr ⟨k, x, rfl, hx, hm, HIN.out⟩)
        rw [decide_eq_false hm] at HCL
        clear hcl hx hm
        go_wp2_with fail
        refine (Hid.out HCL).mono ?_
        rintro e w2 ⟨rfl, hb2⟩
        have HB2 := Lib.hid (HB.out.trans (hb2.mono hBr))
        clear hb2
        go_wp2
        go_ret
        exact ⟨⟨_, rfl, HF.out⟩, HB2.out⟩
    · have hge : decide ((k : Int) < (l.length : Int)) = false := by simp; omega
      have HF := Lib.hid (show FirstOut bs l (-1) from .inl ⟨rfl, fun x hx => by
        obtain ⟨j, hj⟩ := List.getElem?_of_mem hx
        exact HIN.out j x (by have := (List.getElem?_eq_some_iff.1 hj).1; omega) hj⟩)
      go_wp2
      go_ret
      exact ⟨⟨_, rfl, HF.out⟩, HB.out⟩
theorem flatL_set : ∀ (l : List Lbl) (i : Nat) (x : Lbl), ((flatL l).set (i * 2) (strV x.1)).set (i * 2 + 1) (strV x.2) = flatL (l.set i x)
  | [], i, x => by simp [flatL]
  | y :: l, 0, x => rfl
  | y :: l, i + 1, x => by
    have e : (i + 1) * 2 = i * 2 + 2 := by omega
    rw [e]
    show strV y.1 :: strV y.2 :: ((flatL l).set (i * 2) (strV x.1)).set (i * 2 + 1) (strV x.2) = strV y.1 :: strV y.2 :: flatL (l.set i x)
    rw [flatL_set l i x]
theorem owned_set {B g cap i : Nat} {w : World} {l : List Lbl} (x : Lbl) (h : OwnedL B w (.slice (some ⟨g, 0, none⟩) l.length cap) l) :
    OwnedL B ((w.setCell ⟨g, i * 2, none⟩ (strV x.1)).setCell ⟨g, i * 2 + 1, none⟩ (strV x.2)) (.slice (some ⟨g, 0, none⟩) (l.set i x).length cap) (l.set i x) := by
  unfold OwnedL at *
  have h1 := (World.ownsRow.stored h (i * 2) (strV x.1)).1
  have h2 := (World.ownsRow.stored h1 (i * 2 + 1) (strV x.2)).1
  rw [flatL_set] at h2
  rw [List.length_set]
  exact h2
structure KeptL (bs : List (List UInt8)) (l : List Lbl) (j i : Nat) (l' : List Lbl) : Prop where
  len : l'.length = l.length
  lt : i < j
  done : l'.take i = onlyL bs (l.take j)
  rest : ∀ t, j ≤ t → l'[t]? = l[t]?
theorem KeptL.skip {bs : List (List UInt8)} {l l' : List Lbl} {j i : Nat} {x : Lbl} (h : KeptL bs l j i l') (hx : l[j]? = some x) (hm : x.1 ∉ bs) : KeptL bs l (j + 1) i l' :=
  ⟨h.len, by have := h.lt; omega, by rw [onlyL_snoc hx, if_neg hm, List.append_nil]; exact h.done, fun t ht => h.rest t (by omega)⟩
theorem KeptL.keep {bs : List (List UInt8)} {l l' : List Lbl} {j i : Nat} {x : Lbl} (h : KeptL bs l j i l') (hx : l[j]? = some x) (hm : x.1 ∈ bs) : KeptL bs l (j + 1) (i + 1) (l'.set i x) := by
  have hj := (List.getElem?_eq_some_iff.1 hx).1
  have hlt := h.lt
  have hlen := h.len
  refine ⟨by rw [List.length_set]; exact h.len, by omega, ?_, fun t ht => ?_⟩
  · rw [onlyL_snoc hx, if_pos hm, ← h.done, List.take_add_one, List.getElem?_set_self (by omega), List.take_set_of_le (Nat.le_refl _)]
    rfl
  · rw [List.getElem?_set_ne (by omega)]
    exact h.rest t (by omega)
theorem KeptL.start {bs : List (List UInt8)} {l : List Lbl} {k : Nat} {x : Lbl} (hx : l[k]? = some x) (hm : x.1 ∉ bs) (h : ∀ (j : Nat) (y : Lbl), j < k → l[j]? = some y → y.1 ∈ bs) : KeptL bs l (k + 1) k l := by
  refine ⟨rfl, Nat.lt_succ_self _, ?_, fun _ _ => rfl⟩
  rw [onlyL_snoc hx, if_neg hm, List.append_nil]
  refine (List.filter_eq_self.2 fun y hy => ?_).symm
  obtain ⟨j, hj⟩ := List.getElem?_of_mem hy
  rw [List.getElem?_take] at hj
  split at hj
  · exact decide_eq_true (h j y ‹_› hj)
  · cases hj
theorem onlyL_all {bs : List (List UInt8)} {l : List Lbl} (h : ∀ x ∈ l, x.1 ∈ bs) : onlyL bs l = l := List.filter_eq_self.2 fun y hy => decide_eq_true (h y hy)
theorem clear_labs (w : World) (ty : TypeId) (g o n c : Nat) (hn : 0 < n) (hc : ∀ j, j < n * 2 → (w.cell? ⟨g, o + j, none⟩).isSome = true) (hf : ∀ j, j < n * 2 → w.frozen? ⟨g, o + j, none⟩ = false) :
    (Builtin.clear_ #[22] ty #[.slice (some ⟨g, o, none⟩) n c]).run Tryz.prog w = .ok (.tuple #[]) (w.setCells g o (List.replicate (n * 2) (.string ⟨#[]⟩))) := by
  have hv : ∀ w, (zeroValue 42).run Tryz.prog w = .ok (.agg #[.string ⟨#[]⟩, .string ⟨#[]⟩]) w := fun w => by kernel_rfl
  have hzc : (Builtin.zeroCells (Value.agg #[.string ⟨#[]⟩, .string ⟨#[]⟩]).cells n).toList = List.replicate (n * 2) (.string ⟨#[]⟩) := by
    have hcs : (Value.agg #[.string ⟨#[]⟩, .string ⟨#[]⟩]).cells = #[.string ⟨#[]⟩, .string ⟨#[]⟩] := rfl
    rw [hcs]
    simp [Builtin.zeroCells]
    apply List.ext_getElem
    · simp
    · intro i h1 h2
      rcases Nat.mod_two_eq_zero_or_one i with h | h <;> simp [h]
  have hst := run_storeCells_cells (P := Tryz.prog) g o (List.replicate (n * 2) (.string ⟨#[]⟩)) 0 w (by simpa using hc) (by simpa using hf) (by intro v hv'; rw [List.eq_of_mem_replicate hv']; rfl)
  simp only [Nat.add_zero] at hst
  obtain ⟨m, rfl⟩ : ∃ m, n = m + 1 := ⟨n - 1, by omega⟩
  simp [Builtin.clear_, run_underlying Tryz.underlying22, hv, hzc, hst]
end Go.Proofs.YtpdmmnhmnmlogaaGreat
