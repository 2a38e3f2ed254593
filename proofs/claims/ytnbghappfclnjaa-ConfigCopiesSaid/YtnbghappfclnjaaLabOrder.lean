/- Words; labels by rising names: the program's IsWord, Compare, order. -/
import Derived.Test.YtnbghappfclnjaaLabMetric
import Derived.Test.YtnbghappfclnjaaLabErr
import Derived.Test.YtnbghappfclnjaaLabSort
import Derived.Test.YtnbghappfclnjaaShelf
namespace Go.Proofs.Ytnbghappfclnjaa
open Go.RowKit Go.Sort Go.Shelf

theorem index_col (l : List UInt8) : decide (0 ≤ Lib.indexByte l 58) = !colB l := by
  induction l with
  | nil => rfl
  | cons c l ih =>
    have hc : colB (c :: l) = (decide (c.toNat ≠ 58) && colB l) := rfl
    rw [hc, Lib.indexByte]
    by_cases h : c = 58
    · subst h; rfl
    · have h1 : (c == 58) = false := by simpa using h
      have h2 : c.toNat ≠ 58 := fun e => h (UInt8.toNat_inj.1 e)
      rw [decide_eq_true h2, Bool.true_and, ← ih]
      rw [h1, if_neg (by simp)]
      have hge := Lib.indexByte_ge l 58
      by_cases h3 : Lib.indexByte l 58 = -1
      · rw [h3]; rfl
      · rw [if_neg (by simpa using h3)]
        congr 1
        simp only [eq_iff_iff]
        omega
set_option maxRecDepth 100000 in
set_option maxHeartbeats 1000000 in
theorem isWord_any (s : ByteArray) (w : World) (hs : s.size ≤ 9223372036854775807) :
    Calls Try.prog 59 #[.string s] w fun e w' => e = .returned (.bool (wrdB s.data.toList)) ∧ w = w' := by
  have HC := fun W => Try.strings_Contains_one s 58 W
  rw [index_col] at HC
  unfold wrdB
  have HM := Lib.hid (isMetric_any s w hs)
  cases h1 : metB s.data.toList with
  | false =>
    rw [h1] at HM
    go_enter Try.func59, Try.ntmps59
    go_wp2_with fail
    refine (Hid.out HM).mono ?_
    rintro e w' ⟨rfl, rfl⟩
    go_wp2
    go_ret
    exact ⟨rfl, rfl⟩
  | true =>
    rw [h1] at HM
    generalize colB s.data.toList = b at HC
    have HC' := Lib.hid HC
    clear HC
    cases b with
    | false =>
      go_enter Try.func59, Try.ntmps59
      go_wp2_with fail
      refine (Hid.out HM).mono ?_
      rintro e w' ⟨rfl, rfl⟩
      go_wp2_with fail
      refine (Hid.out HC' _).mono ?_
      rintro e w' ⟨rfl, rfl⟩
      go_wp2
      go_ret
      exact ⟨rfl, rfl⟩
    | true =>
      go_enter Try.func59, Try.ntmps59
      go_wp2_with fail
      refine (Hid.out HM).mono ?_
      rintro e w' ⟨rfl, rfl⟩
      go_wp2_with fail
      refine (Hid.out HC' _).mono ?_
      rintro e w' ⟨rfl, rfl⟩
      go_wp2
      go_ret
      exact ⟨rfl, rfl⟩

set_option maxHeartbeats 400000 in
theorem compare_any (a b : ByteArray) (w : World) :
    Calls Try.prog 57 #[.string a, .string b] w fun e w' => e = .returned (.int .i64 (Lib.compareBytes a.data.toList b.data.toList)) ∧ w = w' := by
  have HC := fun W => Lib.hid (Try.strings_Compare a b W)
  generalize Lib.compareBytes a.data.toList b.data.toList = r at HC ⊢
  go_enter Try.func57, Try.ntmps57
  go_wp2_with fail
  refine (Hid.out (HC _)).mono ?_
  rintro e w' ⟨rfl, rfl⟩
  go_wp2
  go_ret
  exact ⟨rfl, rfl⟩

set_option maxHeartbeats 1000000 in
theorem closure_any (x y : Lbl) (W : World) :
    Calls Try.prog 56 #[.agg #[.string ⟨x.1.toArray⟩, .string ⟨x.2.toArray⟩], .agg #[.string ⟨y.1.toArray⟩, .string ⟨y.2.toArray⟩]] W fun e w' => e = .returned (.int .i64 (cfL x y)) ∧ ∃ q os', w' = grow (W.drewN q) os' := by
  have hcon := fun W' => Lib.hid (compare_any ⟨x.1.toArray⟩ ⟨y.1.toArray⟩ W')
  unfold cfL
  change ∀ W', Hid (Calls Try.prog 57 _ W' fun e w' => e = .returned (.int .i64 (Lib.compareBytes x.1 y.1)) ∧ W' = w') at hcon
  generalize Lib.compareBytes x.1 y.1 = r at hcon ⊢
  go_enter Try.func56, Try.ntmps56
  go_wp2_with fail
  refine (Hid.out (hcon _)).mono ?_
  rintro e w' ⟨rfl, rfl⟩
  go_wp2
  go_ret
  exact ⟨rfl, 0, _, by rw [alloc_eq_grow, alloc_eq_grow, grow_grow]; rfl⟩
theorem cmpLays (blk off size : Nat) (w : World) : CmpLays Try.prog 56 #[] encLbl 2 cfL blk off size w :=
  fun _ _ _ _ x y => closure_any x y _
theorem isAggLbl (w : World) : (isAgg 33).run Try.prog w = .ok true w := by kernel_rfl
theorem sizeLbl (w : World) : (Go.sizeOf 33).run Try.prog w = .ok 2 w := by kernel_rfl

theorem sort_any {B : Nat} (g cap : Nat) (l : List Lbl) (w : World) (hl : l.length ≤ 16) (h : OwnedL B w (.slice (some ⟨g, 0, none⟩) l.length cap) l) :
    Calls Try.prog 55 #[.slice (some ⟨g, 0, none⟩) l.length cap, .func (.func 56) #[] #[]] w fun e w' =>
      e = .returned (.tuple #[]) ∧ ∃ l', l'.Perm l ∧ loose l' ∧ OwnedL B w' (.slice (some ⟨g, 0, none⟩) l.length cap) l' ∧ Below B w w' := by
  have eg : ∀ args w, (callFunc 56 args).run Try.prog w = .ok (.enter 56 args) w := enters_of Try.func56 (by kernel_rfl) rfl
  have hgl : g < w.heap.size := (World.ownsRow.lt h g rfl).2
  have hcon := AnyQ.slices_SortFunc Try.sortLbl 2 isAggLbl sizeLbl encLbl (fun _ => rfl) (fun x v hv => by simp [encLbl, strV] at hv; rcases hv with rfl | rfl <;> rfl) cfL swoL 56 #[] g 0 cap l.toArray w eg (cmpLays g 0 _ w) (ownedL_holds h) hgl (by simp; omega)
  refine hcon.mono ?_
  rintro e w' ⟨rfl, d', q, os, hp, hs, rfl⟩
  have hsz : d'.size = l.length := by simpa using hp.1
  have hw := ownedL_sorted h (l' := d'.toList) (by simpa using hsz) q os
  refine ⟨rfl, d'.toList, ?_, ?_, by simpa using hw.1, by simpa using hw.2⟩
  · simpa using perm_list hp
  · refine loose_of ?_
    rw [hsz]
    simpa using hs

theorem LReads.src {w : World} {B : Nat} {ad : Addr} {l : List Lbl} (h : LReads w B (some ad) l) : ∀ j u, (flatL l)[j]? = some u → w.cell? (ad.add j) = some u := by
  intro j u hj
  rcases h with rfl | ⟨b, off, h1, _, hc⟩
  · simp [flatL] at hj
  · cases h1
    rw [add_plain']
    exact hc j u hj
set_option maxRecDepth 100000 in
set_option maxHeartbeats 1000000 in
theorem clone_some (ad : Addr) (cap : Nat) (l : List Lbl) (w : World) (hl : l.length ≤ 1000) (hr : LReads w w.heap.size (some ad) l) :
    Calls Try.prog 54 #[.slice (some ad) l.length cap] w fun e w' => ∃ v, e = .returned v ∧ OwnedL w.heap.size w' v l ∧ v ≠ .slice none 0 0 ∧ Below w.heap.size w w' := by
  obtain ⟨i0, hi, hz0, hz1, hz2⟩ := info_parts Try.infoLbl
  have q22 := fun w : World => Lib.run_eql_slice_nil (P := Try.prog) w 29 33 (some ad) l.length cap 0 0 Try.underlying29
  have HSRC := Lib.hid hr.src
  clear hr
  go_enter Try.func54, Try.ntmps54
  go_wp2_with (at_builtin; refine wpList_append_own _ rfl _ _ 29 rfl w.heap.size 33 i0 (.agg #[.string ⟨#[]⟩, .string ⟨#[]⟩]) 2 32 Try.underlying29 hi hz0 hz1 hz2 rfl (by decide) (.slice (some ⟨w.heap.size, 0, none⟩) 0 0) 0 [] rfl (World.ownsRow_made w #[] 0 (Nat.le_refl _) (Nat.zero_le _) (by simp)) ad l.length cap (flatL l) rfl (flatL_len l) (fun j u hj => Lib.cell?_alloc_some _ (HSRC.out j u hj)) (flatL_one l) (by unfold maxLen; omega) (by omega) (by simp) ?_; intro v' w1 hown hgrow hnil; have HO := Lib.hid hown; have HG := Lib.hid hgrow; have HN := Lib.hid hnil; clear hown hgrow hnil)
  go_ret
  refine ⟨v', rfl, by unfold OwnedL; simpa using HO.out, fun e => ?_, ?_⟩
  · have := (HN.out.1 e).1
    cases this
  · exact ((Below.refl _ w).alloc (Nat.le_refl _) _).grown HG.out (by simp) (by intro k hk; simp [Value.ownBlock] at hk; omega)
set_option maxHeartbeats 400000 in
theorem clone_nil (n cap : Nat) (w : World) :
    Calls Try.prog 54 #[.slice none n cap] w fun e w' => e = .returned (.slice none 0 0) ∧ w = w' := by
  have q22 := fun w : World => Lib.run_eql_slice_nil (P := Try.prog) w 29 33 none n cap 0 0 Try.underlying29
  go_enter Try.func54, Try.ntmps54
  go_wp2
  go_ret
  exact ⟨rfl, rfl⟩

def Ordered (B : Nat) (w : World) (l : List Lbl) (e : Ending) (w' : World) : Prop := ∃ v l', e = .returned (.tuple #[v, .nilIface]) ∧ l'.Perm l ∧ loose l' ∧ OwnedL B w' v l' ∧ Below B w w'
set_option maxRecDepth 100000 in
set_option maxHeartbeats 1000000 in
theorem order_none (cap : Nat) (w : World) :
    Calls Try.prog 42 #[.slice none 0 cap] w (Ordered w.heap.size w []) := by
  have HC := Lib.hid (clone_nil 0 cap w)
  have HS := Lib.hid (AnyF.slices_SortFunc_none Try.sortLbl none 0 (.func (.func 56) #[] #[]) w)
  go_enter Try.func42, Try.ntmps42
  go_wp2_with fail
  refine (Hid.out HC).mono ?_
  rintro e w' ⟨rfl, rfl⟩
  go_wp2_with fail
  refine (Hid.out HS).mono ?_
  rintro e w' ⟨rfl, rfl⟩
  go_wp2
  go_ret2
  exact ⟨_, [], rfl, List.Perm.refl _, List.Pairwise.nil, World.ownsRow_nil _ _ _ _, Below.refl _ _⟩
set_option maxRecDepth 100000 in
set_option maxHeartbeats 1000000 in
theorem order_some (ad : Addr) (cap : Nat) (l : List Lbl) (w : World) (hl : l.length ≤ 16) (hr : LReads w w.heap.size (some ad) l) :
    Calls Try.prog 42 #[.slice (some ad) l.length cap] w (Ordered w.heap.size w l) := by
  have HC := Lib.hid (clone_some ad cap l w (by omega) hr)
  have hl' : (l.length : Int) ≤ 16 := by omega
  clear hr
  go_enter Try.func42, Try.ntmps42
  go_wp2_with fail
  refine (Hid.out HC).mono ?_
  rintro e w1 ⟨v, rfl, hown, hne, hbel⟩
  rcases hown.form with ⟨rfl, _⟩ | ⟨g, cap', rfl, _⟩
  · exact absurd rfl hne
  · have HS := Lib.hid (sort_any g cap' l w1 hl hown)
    have HB := Lib.hid hbel
    clear hown hne hbel
    go_wp2_with fail
    refine (Hid.out HS).mono ?_
    rintro e w2 ⟨rfl, l', hp, hlo, ho, hb⟩
    have HP := Lib.hid hp
    have HL := Lib.hid hlo
    have HO := Lib.hid ho
    have HB2 := Lib.hid hb
    clear hp hlo ho hb
    go_wp2
    go_ret2
    exact ⟨_, l', rfl, HP.out, HL.out, HO.out, HB.out.trans HB2.out⟩
theorem order_any (A : Option Addr) (cap : Nat) (l : List Lbl) (w : World) (hl : l.length ≤ 16) (hr : LReads w w.heap.size A l) :
    Calls Try.prog 42 #[.slice A l.length cap] w (Ordered w.heap.size w l) := by
  cases A with
  | none =>
    rcases hr with rfl | ⟨b, off, h, _⟩
    · exact order_none cap w
    · cases h
  | some ad => exact order_some ad cap l w hl hr
/-- An error is handed back; nothing that was there has changed. -/
def Fails (w : World) (e : Ending) (v : Value) (w' : World) : Prop := FaultIs w' v ∧ Below w.heap.size w w'
set_option maxRecDepth 100000 in
set_option maxHeartbeats 1000000 in
theorem order_long (A : Option Addr) (n cap : Nat) (w : World) (hn : n ≤ 9223372036854775807) (hl : 16 < (n : Int)) :
    Calls Try.prog 42 #[.slice A n cap] w fun e w' => ∃ v, e = .returned (.tuple #[.slice none 0 0, v]) ∧ FaultIs w' v ∧ Below w.heap.size w w' := by
  go_enter Try.func42, Try.ntmps42
  go_wp2
  go_ret2
  exact ⟨_, rfl, FaultIs.new w _ _ (n := 0) rfl, (Below.refl _ _).alloc (Nat.le_refl _) _⟩
end Go.Proofs.Ytnbghappfclnjaa
