/- A series' name with more labels: slices.Grow, slices.Concat and the program's With. -/
import Derived.Test.YtpdmmnhmnmlogaaGreatLabParse
import Derived.Lib.AppendZeros
import Derived.Laws.AppendOwnNone
namespace Go.Proofs.YtpdmmnhmnmlogaaGreat
open Go.RowKit

/-- append of labels, from wherever, nil too. -/
theorem wpList_append_lblsA {w : World} {ops : Array Oper} {rest : List Oper} {o : Oper} {a : Act} {Q : Exit → Act → World → Prop} (hgd : o.guard = none) (s x : Operand)
    (ho : o.op = .call { callee := .builtin .append, args := #[s, x], argTypes := #[22, 22] })
    (base : Nat) (v : Value) (l1 : List Lbl) (hs : a.eval s = v) (hown : OwnedL base w v l1)
    (B : Nat) (A : Option Addr) (l2 : List Lbl) (c : Nat) (hx : a.eval x = .slice A l2.length c) (hr : LReads w B A l2)
    (hlen : l1.length + l2.length ≤ 100000) (hbase : base ≤ w.heap.size)
    (h : ∀ v' w', OwnedL base w' v' (l1 ++ l2) → Below base w w' → wpList Tryz.prog ops Q rest (a.put o.dst v') w') : wpList Tryz.prog ops Q (o :: rest) a w := by
  cases A with
  | none =>
    obtain rfl : l2 = [] := by
      rcases hr with h | ⟨_, _, h, _⟩
      · exact h
      · cases h
    obtain ⟨i0, hi, hz0, hz1, hz2⟩ := info_parts Tryz.infoLbl
    refine wpList_plain hgd fun K hK => ?_
    have h1 := h v w (by rw [List.append_nil]; exact hown) (Below.refl _ _)
    rcases hown.form with ⟨rfl, rfl⟩ | ⟨g, cap, rfl, hb, hg, hn, hm⟩
    · unfold Oper.wp execOp
      simp only [ho, resolve, invoke, builtin, Sem.run_bind, Sem.run_pure, Result.andThen_ok, List.map_toArray, List.map_cons, List.map_nil, hs, hx]
      simp [Builtin.append_, run_underlying Tryz.underlying22, sizeOf, typeInfo, hi, Builtin.lenOf, Builtin.firstCells, loadCells, loadCellsFrom]
      exact hK _ _ h1
    · unfold Oper.wp execOp
      simp only [ho, resolve, invoke, builtin, Sem.run_bind, Sem.run_pure, Result.andThen_ok, List.map_toArray, List.map_cons, List.map_nil, hs, hx]
      simp [Builtin.append_, run_underlying Tryz.underlying22, sizeOf, typeInfo, hi, Builtin.lenOf, Builtin.firstCells, loadCells, loadCellsFrom, hn, storeCells]
      exact hK _ _ h1
  | some ad =>
    exact wpList_append_lbls hgd s x ho base v l1 hs hown ad l2 c hx hr.src hlen hbase fun v' w' h1 h2 _ => h v' w' h1 h2

set_option maxRecDepth 100000 in
set_option maxHeartbeats 1000000 in
theorem grow_nil (n : Nat) (w : World) (hn : n ≤ 1000) :
    Calls Tryz.prog 37 #[.slice none 0 0, .int .i64 n] w fun e w' => ∃ v, e = .returned v ∧ OwnedL w.heap.size w' v [] ∧ Below w.heap.size w w' := by
  obtain ⟨i0, hi, hz0, hz1, hz2⟩ := info_parts Tryz.infoLbl
  by_cases h0 : 0 < n
  · have h0' : (0 : Int) < (n : Int) := by omega
    have hr := Lib.run_append_nil_zeros (P := Tryz.prog) w 22 3 22 42 i0 _ .i64 .i64 Tryz.underlying22 Tryz.underlying3 hi hz0 n h0 (by omega) (by omega) (by rw [hz2]; omega)
    have hge := grownCap_ge w n 0 42
    have hcm := grownCap_le_maxLen w n 0 42 (by unfold maxLen; omega)
    have hsz : (Builtin.zeroCells (Value.agg #[.string ⟨#[]⟩, .string ⟨#[]⟩]).cells n ++ Builtin.zeroCells (Value.agg #[.string ⟨#[]⟩, .string ⟨#[]⟩]).cells (grownCap w n 0 42 - n)).size = grownCap w n 0 42 * 2 := by
      have hz2 : (Value.agg #[.string ⟨#[]⟩, .string ⟨#[]⟩]).cells.size = 2 := rfl
      simp only [Array.size_append, size_zeroCells, hz2]
      omega
    generalize hC : Builtin.zeroCells (Value.agg #[.string ⟨#[]⟩, .string ⟨#[]⟩]).cells n ++ Builtin.zeroCells (Value.agg #[.string ⟨#[]⟩, .string ⟨#[]⟩]).cells (grownCap w n 0 42 - n) = C at hr hsz
    clear hC
    generalize grownCap w n 0 42 = cap at hr hge hcm hsz
    have HR := Lib.hid hr
    have hcm' : cap ≤ 9223372036854775807 := by unfold maxLen at hcm; omega
    clear hr
    go_enter Tryz.func37, Tryz.ntmps37
    go_wp2_with (at_builtin; refine Lib.wpList_append_run _ rfl _ _ _ _ rfl (.slice none 0 0) (.int .i64 n) rfl rfl _ _ HR.out ?_)
    go_ret
    refine ⟨_, rfl, ?_, ((Below.refl _ _).drew).alloc (Nat.le_refl _) _⟩
    exact World.ownsRow_made (base := w.heap.size) (e := 42) (size := 2) w.drew C cap (Nat.le_refl _) hcm hsz
  · obtain rfl : n = 0 := by omega
    go_enter Tryz.func37, Tryz.ntmps37
    go_wp2
    go_ret
    exact ⟨_, rfl, World.ownsRow_nil _ _ _ _, Below.refl _ _⟩

set_option maxRecDepth 100000 in
set_option maxHeartbeats 4000000 in
theorem concat_two (b : Nat) (A1 A2 : Option Addr) (c1 c2 : Nat) (l1 l2 : List Lbl) (w : World) (h1 : l1.length ≤ 400) (h2 : l2.length ≤ 400)
    (hc0 : w.cell? ⟨b, 0, none⟩ = some (.slice A1 l1.length c1)) (hc1 : w.cell? ⟨b, 1, none⟩ = some (.slice A2 l2.length c2)) (hr1 : LReads w w.heap.size A1 l1) (hr2 : LReads w w.heap.size A2 l2) :
    Calls Tryz.prog 22 #[.slice (some ⟨b, 0, none⟩) 2 2] w fun e w' => ∃ v, e = .returned v ∧ OwnedL w.heap.size w' v (l1 ++ l2) ∧ Below w.heap.size w w' := by
  have hb : b < w.heap.size := by simpa using World.block_lt_of_cell? w ⟨b, 0, none⟩ hc0
  have HR1 := Lib.hid hr1
  have HR2 := Lib.hid hr2
  have HG : ∀ W, Hid (Calls Tryz.prog 37 #[.slice none 0 0, .int .i64 ((l1.length : Int) + (l2.length : Int))] W fun e w' => ∃ v, e = .returned v ∧ OwnedL W.heap.size w' v [] ∧ Below W.heap.size W w') := fun W => Lib.hid (by
    have h := grow_nil (l1.length + l2.length) W (by omega)
    rwa [Int.natCast_add] at h)
  have hn0 : (0 : Int) ≤ (l1.length : Int) := by omega
  have hn1 : (0 : Int) ≤ (l1.length : Int) + (l2.length : Int) := by omega
  have hl1 : (l1.length : Int) ≤ 400 := by omega
  have hl2 : (l2.length : Int) ≤ 400 := by omega
  clear hr1 hr2
  go_enter Tryz.func22, Tryz.ntmps22
  go_wp2
  refine wp_loop_rounds 3 ?_
  rw [rounds_succ]
  go_wp2
  rw [rounds_succ]
  go_wp2
  rw [rounds_succ]
  go_wp2_with fail
  refine (Hid.out (HG _)).mono ?_
  rintro e w1 ⟨v1, rfl, hown1, hb1⟩
  have HO1 := Lib.hid hown1
  have HB1 := Lib.hid hb1
  have hB1 : w.heap.size ≤ w1.heap.size := hb1.size
  have k0 := (hb1.cell (p := ⟨b, 0, none⟩) hb).trans hc0
  have k1 := (hb1.cell (p := ⟨b, 1, none⟩) hb).trans hc1
  clear hown1 hb1
  go_wp2
  refine wp_loop_rounds 3 ?_
  rw [rounds_succ]
  go_wp2_with (at_builtin; refine wpList_append_lblsA rfl (.tmp 31) (.tmp 32) rfl w.heap.size _ [] rfl HO1.out w.heap.size A1 l1 c1 rfl (HR1.out.below HB1.out) (by simp; omega) hB1 ?_; intro v2 w2 hown2 hb2; have HO2 := Lib.hid hown2; have HB2 := Lib.hid (HB1.out.trans hb2); have hB2 : w.heap.size ≤ w2.heap.size := HB2.out.size; have m1 := (HB2.out.cell (p := ⟨b, 1, none⟩) hb).trans hc1; clear hown2 hb2)
  rw [rounds_succ]
  go_wp2_with (at_builtin; refine wpList_append_lblsA rfl (.tmp 31) (.tmp 32) rfl w.heap.size _ ([] ++ l1) rfl HO2.out w.heap.size A2 l2 c2 rfl (HR2.out.below HB2.out) (by simp; omega) hB2 ?_; intro v3 w3 hown3 hb3; have HO3 := Lib.hid hown3; have HB3 := Lib.hid (HB2.out.trans hb3); clear hown3 hb3)
  rw [rounds_succ]
  go_wp2
  go_ret
  exact ⟨v3, rfl, by simpa using HO3.out, HB3.out⟩

/-- What With answers. -/
def withP (o : Option (List UInt8 × List Lbl)) (l : List Lbl) : Option (List UInt8) :=
  match o with
  | none => none
  | some (m, ls) => nameP m (ls ++ l)
theorem parseP_small {s m : List UInt8} {l : List Lbl} (h : parseP s = some (m, l)) : l.length ≤ 16 ∧ m.length ≤ 200 ∧ smallL l := by
  have hv := (parseP_sound h).1
  unfold validB at hv
  rw [Bool.and_eq_true, decide_eq_true_eq] at hv
  refine ⟨hv.2, metB_len (checkB_met hv.1), fun x hx => ?_⟩
  have hx' := List.all_eq_true.1 (checkB_labs hv.1) x hx
  unfold labB wrdB at hx'
  rw [Bool.and_eq_true, Bool.and_eq_true, decide_eq_true_eq] at hx'
  have := metB_len hx'.1.1
  omega
set_option maxRecDepth 100000 in
set_option maxHeartbeats 4000000 in
theorem with_any (A : Option Addr) (cap : Nat) (s : ByteArray) (l : List Lbl) (m : Int) (w : World) (hs : s.size ≤ 100000) (hm : ML m w) (hl : l.length ≤ 100) (hsm : smallL l) (hr : LReads w w.heap.size A l) :
    Calls Tryz.prog 10 #[.string s, .slice A l.length cap] w (NamePost (withP (parseP s.data.toList) l) w) := by
  have HP := Lib.hid (parse_any s m w hs hm)
  have HSM := Lib.hid hsm
  have HR := Lib.hid hr
  have HPS := Lib.hid (fun mm ls (h : parseP s.data.toList = some (mm, ls)) => parseP_small h)
  obtain ⟨o, ho⟩ : ∃ o, o = parseP s.data.toList := ⟨_, rfl⟩
  rw [← ho] at HP HPS ⊢
  clear hm hsm hr ho
  go_enter Tryz.func10, Tryz.ntmps10
  go_wp2_with fail
  refine (Hid.out HP).mono ?_
  rintro e w1 ⟨h, hb⟩
  have HB := Lib.hid hb
  rcases h with ⟨mm, ls, v, rfl, rfl, hown⟩ | ⟨rfl, rfl⟩
  · obtain ⟨p1, p2, p3⟩ := HPS.out mm ls rfl
    obtain ⟨A1, c1, rfl, hrd, _, _⟩ := hown.reads
    have HCC := Lib.hid (concat_two w1.heap.size A1 A c1 cap ls l (w1.alloc (.cells #[.slice A1 ls.length c1, .slice A l.length cap] 22)) (by omega) (by omega) (by simp) (by simp)
      ((hrd.keep fun p hp => World.cell?_alloc_lt _ _ p hp).more (by simp)) (((HR.out.below hb).keep fun p hp => World.cell?_alloc_lt _ _ p (Nat.lt_of_lt_of_le hp hb.size)).more (Nat.le_trans hb.size (by simp))))
    have HS := Lib.hid (show smallL (ls ++ l) from fun x hx => by
      rcases List.mem_append.1 hx with h | h
      · exact p3 x h
      · exact HSM.out x h)
    have HMS := Lib.hid (show (⟨mm.toArray⟩ : ByteArray).size ≤ 9223372036854775807 by rw [Lib.size_eq]; show mm.length ≤ _; omega)
    have HLEN := Lib.hid (show (ls ++ l).length ≤ 116 by rw [List.length_append]; omega)
    have HW := Lib.hid (show withP (some (mm, ls)) l = nameP mm (ls ++ l) from rfl)
    generalize ls ++ l = L at HCC HS HLEN HW
    clear hb hown hrd p2 p3
    go_wp2_with fail
    refine (Hid.out HCC).mono ?_
    rintro e w2 ⟨v2, rfl, hown2, hb2⟩
    obtain ⟨A2, c2, rfl, hrd2, _, _⟩ := hown2.reads
    have HN := Lib.hid (name_any A2 c2 ⟨mm.toArray⟩ L w2 HMS.out (by have := HLEN.out; omega) HS.out hrd2)
    change Hid (Calls Tryz.prog 16 _ w2 (NamePost (nameP mm L) w2)) at HN
    have HB2 := Lib.hid (HB.out.trans ((below_alloc HB.out.size _).trans (hb2.mono (by have := HB.out.size; simp; omega))))
    clear hown2 hrd2 hb2
    go_wp2_with fail
    refine (Hid.out HN).mono ?_
    rintro e w3 ⟨rfl, hb3⟩
    have HB3 := Lib.hid (HB2.out.trans (hb3.mono HB2.out.size))
    clear hb3
    go_wp2
    go_ret2
    rw [HW.out]
    exact ⟨rfl, HB3.out⟩
  · clear hb
    go_wp2
    go_ret2
    exact ⟨rfl, HB.out⟩
end Go.Proofs.YtpdmmnhmnmlogaaGreat
