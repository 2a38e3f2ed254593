/- The program's New, Len, Get. -/
import Derived.Test.YtadndefbdofodaaSrFind
import Derived.Test.YtadndefbdofodaaSrPut1
import Derived.Carry
namespace Go.Proofs.Ytadndefbdofodaa
open Go.RowKit

theorem newM_made (w : World) (most : Int) (hm : 0 ≤ most) : Sm w.heap.size ((w.alloc (.map #[] 0)).alloc (.cells #[.int .i64 most, .map (some w.heap.size)] 52)) (w.heap.size + 1) w.heap.size most.toNat (fun _ => none) 0 := by
  have h0 := MapP.made nameKD lK w
  have ht : Turns [] (w.alloc (.map #[] 0)) ((w.alloc (.map #[] 0)).alloc (.cells #[.int .i64 most, .map (some w.heap.size)] 52)) := Turns.alloc _ _
  refine ⟨?_, h0.pre ht, ⟨by omega, fun x q hq => by cases hq⟩, by omega, fun x q hq => by cases hq⟩
  have := heap_alloc_new (w.alloc (.map #[] 0)) (.cells #[.int .i64 most, .map (some w.heap.size)] 52)
  rw [World.size_alloc] at this
  rw [Int.toNat_of_nonneg hm]
  exact this
set_option maxHeartbeats 400000 in
theorem newSt_any (most : Int) (w : World) :
    Calls Try.prog 9 #[.int .i64 most] w fun e w' => ∃ p b, e = .returned (ptr p) ∧ Sm w.heap.size w' p b most.toNat (fun _ => none) 0 ∧ (∀ i, i = p ∨ i = b → w.heap.size ≤ i ∧ i < w'.heap.size) ∧ Turns [] w w' := by
  have HT : Hid (∀ a b, Turns [] w ((w.alloc a).alloc b)) := Lib.hid fun a b => (Turns.alloc w a).then (Turns.alloc _ b)
  have hmm := @run_makeMap Try.prog
  have HM : Hid (∀ x : Int, x = (most.toNat : Int) → Sm w.heap.size ((w.alloc (.map #[] 0)).alloc (.cells #[.int .i64 x, .map (some w.heap.size)] 52)) (w.heap.size + 1) w.heap.size most.toNat (fun _ => none) 0) := Lib.hid fun x hx => by
    have := newM_made w x (by omega)
    rwa [show x.toNat = most.toNat by omega] at this
  go_enter Try.func9, Try.ntmps9
  go_wp2
  all_goals
    go_ret
    exact ⟨_, _, rfl, HM.out _ (by omega), by rintro i (rfl | rfl) <;> simp <;> omega, HT.out _ _⟩
set_option maxHeartbeats 400000 in
theorem lenM_any {B : Nat} {w : World} {p b most n : Nat} {P : PM} (h : Sm B w p b most P n) :
    Calls Try.prog 15 #[ptr p] w fun e w' => e = .returned (.int .i64 n) ∧ Turns [] w w' := by
  have q1 := h.c1
  have hl := h.len
  have HT := Lib.hid (Turns.refl [] w)
  clear h
  go_enter Try.func15, Try.ntmps15
  go_wp2
  go_ret
  exact ⟨rfl, HT.out⟩
/-- What Get tells. -/
def getM (o : Option (Nat × Lst)) : Lst × Bool := match o with | none => (⟨⟨⟨#[]⟩, 0, 0, false⟩, false, 0⟩, false) | some q => (q.2, true)
theorem results_cell_slot {P : Program} {fn : Func} {p q : Tmp} {ty : TypeId} (h : fn.results = #[.cell p ty, .tmp q]) (tmps : Array Value) (w : World) (g : Nat) (t : TypeId) (cs : Array Value) (fr : Nat × Nat) (d : TypeDesc)
    (hp : tmps.getD p undef = .pointer (some ⟨g, 0, none⟩)) (hg : w.heap[g]? = some (.cells cs t fr))
    (hu : P.underlying ty = some d) (hd : (match d with | .struct _ | .array _ _ => true | _ => false) = true) (hi : (P.info? ty).map (·.size) = some cs.size) :
    (results fn tmps).run P w = .ok (.tuple #[.agg cs, tmps.getD q undef]) w := by
  have hp' : tmps[p]?.getD undef = .pointer (some ⟨g, 0, none⟩) := by simpa using hp
  simp [results, h, hp', asAddr, run_loadVar_row w g t ty cs fr d hg hu hd hi]
theorem last_struct : Try.prog.underlying 54 = some (.struct (Try.prog.fieldsOf 54)) := by kernel_rfl
set_option maxRecDepth 100000 in
set_option maxHeartbeats 1000000 in
theorem getM_none {B : Nat} {w : World} {p b most n : Nat} {P : PM} (h : Sm B w p b most P n) {x : ByteArray} (hx : NmOk x) (hp : P x = none) :
    Calls Try.prog 20 #[ptr p, .string x] w fun e w' => e = .returned (.tuple #[(getM (P x)).1.val', .bool (getM (P x)).2]) ∧ Turns [] w w' := by
  rw [hp]
  show Calls _ _ _ w fun e w' => e = .returned (.tuple #[.agg #[.string ⟨#[]⟩, .int .i64 0, .int .i64 0, .bool false, .bool false, .int .i64 0], .bool false]) ∧ Turns [] w w'
  have HT : Hid (∀ x, Turns [] w (w.alloc x)) := Lib.hid (fun x => Turns.alloc _ _)
  have HS := Lib.hid h
  have q1 : ∀ C, (w.alloc C).cell? ⟨p, 1, none⟩ = some (.map (some b)) := fun C => (HS.out.pre (HT.out C)).c1
  have hl : ∀ C, (Instr.lookup 50 (.map (some b)) (.string x) true).run Try.prog (w.alloc C) = .ok (.tuple #[.pointer none, .bool false]) (w.alloc C) := fun C => by
    have := (HS.out.pre (HT.out C)).look hx
    rw [hp] at this
    exact this
  have hlp := h.lt
  clear h hx hp
  go_enter Try.func20, Try.ntmps20
  go_wp2_with fail
  exact bodyPost_ret (results_cell_slot (P := Try.prog) rfl _ _ w.heap.size 54 #[.string ⟨#[]⟩, .int .i64 0, .int .i64 0, .bool false, .bool false, .int .i64 0] (0, 0) _ rfl (heap_alloc_new w _) last_struct rfl (by kernel_rfl)) rfl ⟨rfl, HT.out _⟩
set_option maxRecDepth 100000 in
set_option maxHeartbeats 1000000 in
theorem getM_some {B : Nat} {w : World} {p b most n : Nat} {P : PM} (h : Sm B w p b most P n) {x : ByteArray} (hx : NmOk x) {g : Nat} {l : Lst} (hp : P x = some (g, l)) :
    Calls Try.prog 20 #[ptr p, .string x] w fun e w' => e = .returned (.tuple #[(getM (P x)).1.val', .bool (getM (P x)).2]) ∧ Turns [] w w' := by
  rw [hp]
  show Calls _ _ _ w fun e w' => e = .returned (.tuple #[.agg #[.string l.s.name, .int .i64 l.s.val, .int .i64 l.s.tm, .bool l.s.cnt, .bool l.live, .int .i64 l.own], .bool true]) ∧ Turns [] w w'
  have HT : Hid (∀ x, Turns [] w (w.alloc x)) := Lib.hid (fun x => Turns.alloc _ _)
  have HS := Lib.hid h
  have HX := Lib.hid hx
  have q1 : ∀ C, (w.alloc C).cell? ⟨p, 1, none⟩ = some (.map (some b)) := fun C => (HS.out.pre (HT.out C)).c1
  have hl : ∀ C, (Instr.lookup 50 (.map (some b)) (.string x) true).run Try.prog (w.alloc C) = .ok (.tuple #[.pointer (some ⟨g, 0, none⟩), .bool true]) (w.alloc C) := fun C => by
    have := (HS.out.pre (HT.out C)).look hx
    rw [hp] at this
    exact this
  have hg := (h.map.blk x _ hp).1
  have hlg := lt_of_block hg
  have HN := Lib.hid (h.nm x _ hp).1
  obtain ⟨k0, k1, k2, k3, k4, k5, -⟩ := last_cells hg
  have hlp := h.lt
  clear h hx hp hg
  go_enter Try.func20, Try.ntmps20
  go_upto_region 7 with fail
  obtain ⟨W1, hW1⟩ : ∃ W1, w.alloc (.cells #[.string ⟨#[]⟩, .int .i64 0, .int .i64 0, .bool false, .bool false, .int .i64 0] 54) = W1 := ⟨_, rfl⟩
  have hr1 : W1.heap[w.heap.size]? = some (.cells #[.string ⟨#[]⟩, .int .i64 0, .int .i64 0, .bool false, .bool false, .int .i64 0] 54 (0, 0)) := by rw [← hW1]; exact heap_alloc_new w _
  have hT1 : Turns [] w W1 := by rw [← hW1]; exact Turns.alloc _ _
  have hsz : W1.heap.size = w.heap.size + 1 := by rw [← hW1]; simp
  obtain ⟨W2, hW2⟩ : ∃ W2, W1.alloc (.cells #[.string l.s.name, .int .i64 l.s.val, .int .i64 l.s.tm, .bool l.s.cnt, .bool l.live, .int .i64 l.own] 54) = W2 := ⟨_, rfl⟩
  have hb2 : W2.heap[w.heap.size + 1]? = some (.cells #[.string l.s.name, .int .i64 l.s.val, .int .i64 l.s.tm, .bool l.s.cnt, .bool l.live, .int .i64 l.own] 54 (0, 0)) := by rw [← hW2, ← hsz]; exact heap_alloc_new W1 _
  have hT2 : Turns [] W1 W2 := by rw [← hW2]; exact Turns.alloc _ _
  have hr2 := (hT2.block _ (lt_of_block hr1) (by simp)).trans hr1
  have HT2 := Lib.hid (hT1.then hT2)
  have HR2 := Lib.hid hr2
  have HB2 := Lib.hid hb2
  rw [hW1, hW2]
  clear hW1 hW2 hr1 hT1 hT2 hsz q1 hl k0 k1 k2 k3 k4 k5 hr2
  have e0 : W2.cell? ⟨w.heap.size + 1, 0, none⟩ = some (.string l.s.name) := (last_cells hb2).1
  have HC := Lib.hid (clone_nm l.s.name W2 (by rw [HN.out]; exact HX.out))
  clear hb2
  go_wp2_with fail
  refine HC.out.mono ?_
  rintro e W3 ⟨rfl, ht3⟩
  have HT3 := Lib.hid ht3
  have hb3 := (ht3.block _ (lt_of_block HB2.out) (by simp)).trans HB2.out
  have HB3 := Lib.hid hb3
  have HR3 := Lib.hid ((ht3.block _ (lt_of_block HR2.out) (by simp)).trans HR2.out)
  obtain ⟨f0, -, -, -, -, -, ff⟩ := last_cells hb3
  clear ht3 e0 HC hb3
  go_upto_region 8 with fail
  obtain ⟨W4, hW4⟩ : ∃ W4, W3.setCell ⟨w.heap.size + 1, 0, none⟩ (.string l.s.name) = W4 := ⟨_, rfl⟩
  have hb4 : W4.heap[w.heap.size + 1]? = some (.cells #[.string l.s.name, .int .i64 l.s.val, .int .i64 l.s.tm, .bool l.s.cnt, .bool l.live, .int .i64 l.own] 54 (0, 0)) := by rw [← hW4]; exact heap_setCell_same W3 _ 0 _ _ _ HB3.out
  have hT4 : Turns [w.heap.size + 1] W3 W4 := by rw [← hW4]; exact Turns.setCell _ _ _ (by simp)
  have hr4 := (hT4.block w.heap.size (lt_of_block HR3.out) (by simp)).trans HR3.out
  have HT4 : Hid (Turns [] w W4) := Lib.hid ((HT2.out.then HT3.out).trans hT4 fun i hi => .inr (by simp at hi; omega))
  have HR4 := Lib.hid hr4
  rw [hW4]
  clear hW4 f0 ff hT4
  obtain ⟨e0, e1, e2, e3, e4, e5, -⟩ := last_cells hb4
  obtain ⟨r0, r1, r2, r3, r4, r5, rf⟩ := last_cells hr4
  clear hb4 hr4
  go_wp2_with fail
  obtain ⟨s1, s2⟩ := lst_set HR4.out (.string l.s.name) (.int .i64 l.s.val) (.int .i64 l.s.tm) (.bool l.s.cnt) (.bool l.live) (.int .i64 l.own)
  exact bodyPost_ret (results_cell_slot (P := Try.prog) rfl _ _ w.heap.size 54 #[.string l.s.name, .int .i64 l.s.val, .int .i64 l.s.tm, .bool l.s.cnt, .bool l.live, .int .i64 l.own] (0, 0) _ rfl s1 last_struct rfl (by kernel_rfl)) rfl ⟨rfl, HT4.out.trans s2 fun i hi => .inr (by simp at hi; omega)⟩
theorem getM_any {B : Nat} {w : World} {p b most n : Nat} {P : PM} (h : Sm B w p b most P n) {x : ByteArray} (hx : NmOk x) :
    Calls Try.prog 20 #[ptr p, .string x] w fun e w' => e = .returned (.tuple #[(getM (P x)).1.val', .bool (getM (P x)).2]) ∧ Turns [] w w' := by
  cases hp : P x with
  | none => rw [← hp]; exact getM_none h hx hp
  | some q => rw [← hp]; exact getM_some (g := q.1) (l := q.2) h hx hp
end Go.Proofs.Ytadndefbdofodaa
