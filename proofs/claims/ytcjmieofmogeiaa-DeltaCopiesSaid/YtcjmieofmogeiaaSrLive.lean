/- The program's liveOf: going over its map in any order. -/
import Derived.Test.YtcjmieofmogeiaaSrFind
import Derived.Test.YtcjmieofmogeiaaSrPut1
import Derived.Carry
namespace Go.Proofs.Ytcjmieofmogeiaa
open Go.RowKit
variable {hd : Hd}

theorem newM_made (w : World) (most : Int) (hm : 0 ≤ most) : @Sm plainHd w.heap.size ((w.alloc (.map #[] 0)).alloc (.cells #[.int .i64 most, .map (some w.heap.size)] 66)) (w.heap.size + 1) w.heap.size most.toNat (fun _ => none) 0 := by
  have h0 := MapP.made nameKD lK w
  have ht : Turns [] (w.alloc (.map #[] 0)) ((w.alloc (.map #[] 0)).alloc (.cells #[.int .i64 most, .map (some w.heap.size)] 66)) := Turns.alloc _ _
  refine ⟨?_, h0.pre ht, ⟨by omega, fun x q hq => by cases hq⟩, by omega, fun x q hq => by cases hq⟩
  have := heap_alloc_new (w.alloc (.map #[] 0)) (.cells #[.int .i64 most, .map (some w.heap.size)] 66)
  rw [World.size_alloc] at this
  rw [Int.toNat_of_nonneg hm]
  exact this
set_option maxHeartbeats 400000 in
theorem newSt_any (most : Int) (w : World) :
    Calls Try.prog 23 #[.int .i64 most] w fun e w' => ∃ p b, e = .returned (ptr p) ∧ @Sm plainHd w.heap.size w' p b most.toNat (fun _ => none) 0 ∧ (∀ i, i = p ∨ i = b → w.heap.size ≤ i ∧ i < w'.heap.size) ∧ Turns [] w w' := by
  have HT : Hid (∀ a b, Turns [] w ((w.alloc a).alloc b)) := Lib.hid fun a b => (Turns.alloc w a).then (Turns.alloc _ b)
  have hmm := @run_makeMap Try.prog
  have HM : Hid (∀ x : Int, x = (most.toNat : Int) → @Sm plainHd w.heap.size ((w.alloc (.map #[] 0)).alloc (.cells #[.int .i64 x, .map (some w.heap.size)] 66)) (w.heap.size + 1) w.heap.size most.toNat (fun _ => none) 0) := Lib.hid fun x hx => by
    have := newM_made w x (by omega)
    rwa [show x.toNat = most.toNat by omega] at this
  go_enter Try.func23, Try.ntmps23
  go_wp2
  all_goals
    go_ret
    exact ⟨_, _, rfl, HM.out _ (by omega), by rintro i (rfl | rfl) <;> simp <;> omega, HT.out _ _⟩
set_option maxHeartbeats 400000 in
theorem lenM_any {B : Nat} {w : World} {p b most n : Nat} {P : PM} (h : Sm B w p b most P n) :
    Calls Try.prog 15 #[ptr p] w fun e w' => e = .returned (.int .i64 n) ∧ Turns [] w w' := by
  have q1 := h.c1
  have hl := h.len
  have HT := Lib.hid (Turns.refl [] w)
  clear h
  go_enter Try.func15, Try.ntmps15
  go_wp2
  go_ret
  exact ⟨rfl, HT.out⟩
/-- What Get tells. -/
def getM (o : Option (Nat × Lst)) : Lst × Bool := match o with | none => (⟨⟨⟨#[]⟩, 0, 0, false⟩, false, 0⟩, false) | some q => (q.2, true)
theorem results_cell_slot {P : Program} {fn : Func} {p q : Tmp} {ty : TypeId} (h : fn.results = #[.cell p ty, .tmp q]) (tmps : Array Value) (w : World) (g : Nat) (t : TypeId) (cs : Array Value) (fr : Nat × Nat) (d : TypeDesc)
    (hp : tmps.getD p undef = .pointer (some ⟨g, 0, none⟩)) (hg : w.heap[g]? = some (.cells cs t fr))
    (hu : P.underlying ty = some d) (hd : (match d with | .struct _ | .array _ _ => true | _ => false) = true) (hi : (P.info? ty).map (·.size) = some cs.size) :
    (results fn tmps).run P w = .ok (.tuple #[.agg cs, tmps.getD q undef]) w := by
  have hp' : tmps[p]?.getD undef = .pointer (some ⟨g, 0, none⟩) := by simpa using hp
  simp [results, h, hp', asAddr, run_loadVar_row w g t ty cs fr d hg hu hd hi]
theorem last_struct : Try.prog.underlying 88 = some (.struct (Try.prog.fieldsOf 88)) := by kernel_rfl
set_option maxRecDepth 100000 in
set_option maxHeartbeats 1000000 in
theorem getM_none {B : Nat} {w : World} {p b most n : Nat} {P : PM} (h : Sm B w p b most P n) {x : ByteArray} (hx : NmOk x) (hp : P x = none) :
    Calls Try.prog 37 #[ptr p, .string x] w fun e w' => e = .returned (.tuple #[(getM (P x)).1.val', .bool (getM (P x)).2]) ∧ Turns [] w w' := by
  rw [hp]
  show Calls _ _ _ w fun e w' => e = .returned (.tuple #[.agg #[.string ⟨#[]⟩, .int .i64 0, .int .i64 0, .bool false, .bool false, .int .i64 0], .bool false]) ∧ Turns [] w w'
  have HT : Hid (∀ x, Turns [] w (w.alloc x)) := Lib.hid (fun x => Turns.alloc _ _)
  have HS := Lib.hid h
  have q1 : ∀ C, (w.alloc C).cell? ⟨p, 1, none⟩ = some (.map (some b)) := fun C => (HS.out.pre (HT.out C)).c1
  have hl : ∀ C, (Instr.lookup 64 (.map (some b)) (.string x) true).run Try.prog (w.alloc C) = .ok (.tuple #[.pointer none, .bool false]) (w.alloc C) := fun C => by
    have := (HS.out.pre (HT.out C)).look hx
    rw [hp] at this
    exact this
  have hlp := h.lt
  clear h hx hp
  go_enter Try.func37, Try.ntmps37
  go_wp2_with fail
  exact bodyPost_ret (results_cell_slot (P := Try.prog) rfl _ _ w.heap.size 88 #[.string ⟨#[]⟩, .int .i64 0, .int .i64 0, .bool false, .bool false, .int .i64 0] (0, 0) _ rfl (heap_alloc_new w _) last_struct rfl (by kernel_rfl)) rfl ⟨rfl, HT.out _⟩
set_option maxRecDepth 100000 in
set_option maxHeartbeats 1000000 in
theorem getM_some {B : Nat} {w : World} {p b most n : Nat} {P : PM} (h : Sm B w p b most P n) {x : ByteArray} (hx : NmOk x) {g : Nat} {l : Lst} (hp : P x = some (g, l)) :
    Calls Try.prog 37 #[ptr p, .string x] w fun e w' => e = .returned (.tuple #[(getM (P x)).1.val', .bool (getM (P x)).2]) ∧ Turns [] w w' := by
  rw [hp]
  show Calls _ _ _ w fun e w' => e = .returned (.tuple #[.agg #[.string l.s.name, .int .i64 l.s.val, .int .i64 l.s.tm, .bool l.s.cnt, .bool l.live, .int .i64 l.own], .bool true]) ∧ Turns [] w w'
  have HT : Hid (∀ x, Turns [] w (w.alloc x)) := Lib.hid (fun x => Turns.alloc _ _)
  have HS := Lib.hid h
  have HX := Lib.hid hx
  have q1 : ∀ C, (w.alloc C).cell? ⟨p, 1, none⟩ = some (.map (some b)) := fun C => (HS.out.pre (HT.out C)).c1
  have hl : ∀ C, (Instr.lookup 64 (.map (some b)) (.string x) true).run Try.prog (w.alloc C) = .ok (.tuple #[.pointer (some ⟨g, 0, none⟩), .bool true]) (w.alloc C) := fun C => by
    have := (HS.out.pre (HT.out C)).look hx
    rw [hp] at this
    exact this
  have hg := (h.map.blk x _ hp).1
  have hlg := lt_of_block hg
  have HN := Lib.hid (h.nm x _ hp).1
  obtain ⟨k0, k1, k2, k3, k4, k5, -⟩ := last_cells hg
  have hlp := h.lt
  clear h hx hp hg
  go_enter Try.func37, Try.ntmps37
  go_upto_region 7 with fail
  obtain ⟨W1, hW1⟩ : ∃ W1, w.alloc (.cells #[.string ⟨#[]⟩, .int .i64 0, .int .i64 0, .bool false, .bool false, .int .i64 0] 88) = W1 := ⟨_, rfl⟩
  have hr1 : W1.heap[w.heap.size]? = some (.cells #[.string ⟨#[]⟩, .int .i64 0, .int .i64 0, .bool false, .bool false, .int .i64 0] 88 (0, 0)) := by rw [← hW1]; exact heap_alloc_new w _
  have hT1 : Turns [] w W1 := by rw [← hW1]; exact Turns.alloc _ _
  have hsz : W1.heap.size = w.heap.size + 1 := by rw [← hW1]; simp
  obtain ⟨W2, hW2⟩ : ∃ W2, W1.alloc (.cells #[.string l.s.name, .int .i64 l.s.val, .int .i64 l.s.tm, .bool l.s.cnt, .bool l.live, .int .i64 l.own] 88) = W2 := ⟨_, rfl⟩
  have hb2 : W2.heap[w.heap.size + 1]? = some (.cells #[.string l.s.name, .int .i64 l.s.val, .int .i64 l.s.tm, .bool l.s.cnt, .bool l.live, .int .i64 l.own] 88 (0, 0)) := by rw [← hW2, ← hsz]; exact heap_alloc_new W1 _
  have hT2 : Turns [] W1 W2 := by rw [← hW2]; exact Turns.alloc _ _
  have hr2 := (hT2.block _ (lt_of_block hr1) (by simp)).trans hr1
  have HT2 := Lib.hid (hT1.then hT2)
  have HR2 := Lib.hid hr2
  have HB2 := Lib.hid hb2
  rw [hW1, hW2]
  clear hW1 hW2 hr1 hT1 hT2 hsz q1 hl k0 k1 k2 k3 k4 k5 hr2
  have e0 : W2.cell? ⟨w.heap.size + 1, 0, none⟩ = some (.string l.s.name) := (last_cells hb2).1
  have HC := Lib.hid (clone_nm l.s.name W2 (by rw [HN.out]; exact HX.out))
  clear hb2
  go_wp2_with fail
  refine HC.out.mono ?_
  rintro e W3 ⟨rfl, ht3⟩
  have HT3 := Lib.hid ht3
  have hb3 := (ht3.block _ (lt_of_block HB2.out) (by simp)).trans HB2.out
  have HB3 := Lib.hid hb3
  have HR3 := Lib.hid ((ht3.block _ (lt_of_block HR2.out) (by simp)).trans HR2.out)
  obtain ⟨f0, -, -, -, -, -, ff⟩ := last_cells hb3
  clear ht3 e0 HC hb3
  go_upto_region 8 with fail
  obtain ⟨W4, hW4⟩ : ∃ W4, W3.setCell ⟨w.heap.size + 1, 0, none⟩ (.string l.s.name) = W4 := ⟨_, rfl⟩
  have hb4 : W4.heap[w.heap.size + 1]? = some (.cells #[.string l.s.name, .int .i64 l.s.val, .int .i64 l.s.tm, .bool l.s.cnt, .bool l.live, .int .i64 l.own] 88 (0, 0)) := by rw [← hW4]; exact heap_setCell_same W3 _ 0 _ _ _ HB3.out
  have hT4 : Turns [w.heap.size + 1] W3 W4 := by rw [← hW4]; exact Turns.setCell _ _ _ (by simp)
  have hr4 := (hT4.block w.heap.size (lt_of_block HR3.out) (by simp)).trans HR3.out
  have HT4 : Hid (Turns [] w W4) := Lib.hid ((HT2.out.then HT3.out).trans hT4 fun i hi => .inr (by simp at hi; omega))
  have HR4 := Lib.hid hr4
  rw [hW4]
  clear hW4 f0 ff hT4
  obtain ⟨e0, e1, e2, e3, e4, e5, -⟩ := last_cells hb4
  obtain ⟨r0, r1, r2, r3, r4, r5, rf⟩ := last_cells hr4
  clear hb4 hr4
  go_wp2_with fail
  obtain ⟨s1, s2⟩ := lst_set HR4.out (.string l.s.name) (.int .i64 l.s.val) (.int .i64 l.s.tm) (.bool l.s.cnt) (.bool l.live) (.int .i64 l.own)
  exact bodyPost_ret (results_cell_slot (P := Try.prog) rfl _ _ w.heap.size 88 #[.string l.s.name, .int .i64 l.s.val, .int .i64 l.s.tm, .bool l.s.cnt, .bool l.live, .int .i64 l.own] (0, 0) _ rfl s1 last_struct rfl (by kernel_rfl)) rfl ⟨rfl, HT4.out.trans s2 fun i hi => .inr (by simp at hi; omega)⟩
theorem getM_any {B : Nat} {w : World} {p b most n : Nat} {P : PM} (h : Sm B w p b most P n) {x : ByteArray} (hx : NmOk x) :
    Calls Try.prog 37 #[ptr p, .string x] w fun e w' => e = .returned (.tuple #[(getM (P x)).1.val', .bool (getM (P x)).2]) ∧ Turns [] w w' := by
  cases hp : P x with
  | none => rw [← hp]; exact getM_none h hx hp
  | some q => rw [← hp]; exact getM_some (g := q.1) (l := q.2) h hx hp
end Go.Proofs.Ytcjmieofmogeiaa

namespace Go.Proofs.Ytcjmieofmogeiaa
open Go.RowKit
variable {hd : Hd}

abbrev ptrsM (P : PM) : ByteArray → Option Value := fun x => (P x).map fun q => .pointer (some ⟨q.1, 0, none⟩)
/-- The map holds just what the list tells. -/
structure Tells (P : PM) (L : List One) : Prop where
  ne : NamesNe One.name L
  mem : ∀ y ∈ L, ∃ g, P y.name = some (g, y.l)
  all : ∀ x q, P x = some q → ∃ y ∈ L, y.name = x ∧ y.l = q.2
theorem ite_le (z : Prop) [Decidable z] (c : Nat) : (if z then c else c + 1) ≤ c + 1 := by split <;> omega
/-- An owner's live series. -/
def mineM (owner : Int) (o : Option (Nat × Lst)) : Option Value := match o with
  | some q => if q.2.live = true ∧ q.2.own = owner then some (.pointer (some ⟨q.1, 0, none⟩)) else none
  | none => none
theorem mine_yes {owner : Int} {g : Nat} {l : Lst} (h1 : l.live = true) (h2 : l.own = owner) : mineM owner (some (g, l)) = some (.pointer (some ⟨g, 0, none⟩)) := if_pos ⟨h1, h2⟩
theorem mine_no {owner : Int} {g : Nat} {l : Lst} (h : ¬ (l.live = true ∧ l.own = owner)) : mineM owner (some (g, l)) = none := if_neg h
/-- What has been found so far: the map at bu. -/
structure LiveQ (Z wr : World) (bu : Nat) (P : PM) (owner : Int) (left : ByteArray → Bool) (cnt n : Nat) : Prop where
  got : ∃ c, MapG nameKD pread wr bu (fun x => if left x = true then none else mineM owner (P x)) c ∧ c + cnt ≤ n
  turns : Turns [bu] Z wr
theorem Sm.in_lt {B : Nat} {w : World} {p b most n : Nat} {P : PM} (h : Sm B w p b most P n) {i : Nat} (hi : MapP.In b P i) : i < w.heap.size := by
  rcases hi with rfl | ⟨x, q, hq, rfl⟩
  · exact h.map.map.lt
  · exact lt_of_block (h.map.blk x q hq).1
set_option maxRecDepth 100000 in
set_option maxHeartbeats 2000000 in
theorem liveOf_any {B : Nat} {w : World} {p b most n : Nat} {P : PM} (h : Sm B w p b most P n) (hn : n ≤ 100000) (owner : Int) :
    Calls Try.prog 38 #[ptr p, .int .i64 owner] w fun e w' => e = .returned (.map (some w.heap.size)) ∧ (∃ c, MapG nameKD pread w' w.heap.size (fun x => mineM owner (P x)) c) ∧ Turns [] w w' := by
  have hmm := @run_makeMap Try.prog
  obtain ⟨Z, hZ⟩ : ∃ Z, Z = w.alloc (.map #[] 0) := ⟨_, rfl⟩
  have hT0 : Turns [] w Z := by rw [hZ]; exact Turns.alloc _ _
  have hM : MapG nameKD pread Z w.heap.size (fun _ => none) 0 := by rw [hZ]; exact MapG.made nameKD pread w
  have HZS : Hid (Z.heap.size = w.heap.size + 1) := Lib.hid (by rw [hZ]; simp)
  have HS := Lib.hid h
  have HS0 := Lib.hid (h.pre hT0)
  have HT0 := Lib.hid hT0
  have HM := Lib.hid hM
  have hlp := h.lt
  have HNN := Lib.hid hn
  have HNU : Hid (∀ i, MapP.In b P i → i ≠ w.heap.size) := Lib.hid fun i hi => Nat.ne_of_lt (h.in_lt hi)
  have c1 := HS0.out.c1
  clear h hT0 hn hM
  go_enter Try.func38, Try.ntmps38
  go_upto_region 2 with fail
  rw [← hZ]
  clear hZ hmm
  obtain ⟨bu, hbu⟩ : ∃ bu, bu = w.heap.size := ⟨_, rfl⟩
  rw [← hbu] at HM HZS HNU ⊢
  have HBU := Lib.hid hbu
  clear hbu
  go_wp2_with (at_range; refine wpList_range_g nameKD rfl _ 64 rfl 91 sm_keyed Try.underlying64 pread b n _ rfl HS0.out.map.map ?_; intro w0 hrg0 ht0 hs0)
  go_frame
  have HQ0 : Hid (LiveQ Z w0 bu P owner (fun x => (ptrsM P x).isSome) n n) := Lib.hid ⟨⟨0, (HM.out.turns ht0 (by simp)).congr fun x => by
      cases hp : P x with
      | none => simp [ptrsM, hp, mineM]
      | some q => simp [ptrsM, hp], by omega⟩, ht0.mono (by simp)⟩
  have HR0 := Lib.hid hrg0
  clear hrg0 ht0 hs0 c1
  go_loopw [] (fun wr => ∃ left cnt, RangeG nameKD pread wr b Z.heap.size (ptrsM P) left cnt ∧ Hid (LiveQ Z wr bu P owner left cnt n)) (fun wr => wr.rangeLeft b Z.heap.size)
  case atStart => exact ⟨_, _, HR0.out, HQ0⟩
  case round =>
    obtain ⟨left, cnt, hrg, HQ⟩ := hrel
    have HRG := Lib.hid hrg
    clear hrg
    go_wp2_with (at_next; refine wpList_next_g nameKD rfl _ rfl sm_keyed pread pread_inj b Z.heap.size _ left cnt rfl HRG.out ?_ ?_)
    · intro hl0
      have HL0 := Lib.hid hl0
      clear hl0
      go_wp2
      go_ret
      obtain ⟨c, hc, _⟩ := HQ.out.got
      rw [← HBU.out]
      exact ⟨rfl, ⟨c, hc.congr fun x => by rw [HL0.out x, if_neg (by simp)]⟩, HT0.out.trans HQ.out.turns fun i hi => .inr (by have := HBU.out; simp at hi; omega)⟩
    · intro x v w1 cnt1 hwx hlx g l hq hv hrg1 hlt hg1 hs1 hen
      subst hv
      have hrZ : bu ≠ Z.heap.size := by have := HZS.out; omega
      have hT1 : Turns [bu] Z w1 := HQ.out.turns.trans hg1 fun i hi => .inr (by simp at hi; omega)
      have hS1 := HS0.out.turns hT1 (by have := HS.out.lt; have := HBU.out; simp; omega) (by intro i hi hin; rw [List.mem_singleton] at hi; exact HNU.out i hin hi)
      have k1 := (hS1.map.cell hq (j := 4) (u := .bool l.live) rfl).1
      have k2 := (hS1.map.cell hq (j := 5) (u := .int .i64 l.own) rfl).1
      simp only at k1 k2
      obtain ⟨c, hc, hcn⟩ := HQ.out.got
      have hc1 := hc.turns hg1 (by simpa using hrZ)
      have HR1 := Lib.hid hrg1
      have HT1 := Lib.hid hT1
      have HRL := Lib.hid (show w1.rangeLeft b Z.heap.size < wr.rangeLeft b Z.heap.size by rw [HR1.out.left_eq, HRG.out.left_eq]; exact hlt)
      have HC1 := Lib.hid hc1
      have HCN := Lib.hid (show c + cnt1 + 1 ≤ n by omega)
      have HNO : Hid (¬ (l.live = true ∧ l.own = owner) → LiveQ Z w1 bu P owner (fun y => left y && !decide (y = x)) cnt1 n) := Lib.hid fun hno => ⟨⟨c, hc1.congr fun y => by
        by_cases hy : y = x
        · subst hy
          rw [if_pos hlx, if_neg (by simp), hq, mine_no hno]
        · simp [hy], by omega⟩, hT1⟩
      have HHX := Lib.hid hwx
      have HLX := Lib.hid hlx
      have HHQ := Lib.hid hq
      clear hrg1 hlt hg1 hs1 hT1 hS1 hc hc1 hwx hlx hq hcn
      obtain ⟨lv, hlv⟩ : ∃ lv, lv = l.live := ⟨_, rfl⟩
      rw [← hlv] at k1
      have HLV := Lib.hid hlv
      clear hlv
      cases lv with
      | false =>
        go_wp2_with fail
        go_roundw
        case rel => exact ⟨_, cnt1, HR1.out, Lib.hid (HNO.out fun h => by rw [← HLV.out] at h; simp at h)⟩
        case measure => exact HRL.out
      | true =>
        by_cases ho : l.own = owner
        · have hb : (l.own == owner) = true := by simpa using ho
          have HO := Lib.hid ho
          obtain ⟨w2, hrun, hm2, htu⟩ := HC1.out.store (t := 64) (e := 91) sm_keyed Try.underlying64 (by have := HCN.out; have := HNN.out; unfold maxLen; omega) HHX.out (v := .pointer (some ⟨g, 0, none⟩)) (pread_ptr g)
          have hlb : b < w.heap.size := HS.out.map.map.lt
          have HR2 := Lib.hid (HR1.out.turns htu (by have := HBU.out; simp; omega) (by have := HZS.out; simp; omega))
          have HQ2 : Hid (LiveQ Z w2 bu P owner (fun y => left y && !decide (y = x)) cnt1 n) := Lib.hid ⟨⟨_, hm2.congr fun y => by
            by_cases hy : y = x
            · subst hy
              rw [if_pos rfl, if_neg (by simp), HHQ.out, mine_yes HLV.out.symm HO.out]
            · simp [hy], by have := HCN.out; exact Nat.le_trans (Nat.add_le_add_right (ite_le _ c) cnt1) (by omega)⟩, HT1.out.then htu⟩
          have HRL2 := Lib.hid (show w2.rangeLeft b Z.heap.size < wr.rangeLeft b Z.heap.size by rw [HR2.out.left_eq]; have := HRL.out; rwa [HR1.out.left_eq] at this)
          clear hm2 htu ho
          go_wp2_with fail
          go_roundw
          case rel => exact ⟨_, cnt1, HR2.out, HQ2⟩
          case measure => exact HRL2.out
        · have hb : (l.own == owner) = false := by simpa using ho
          have HO := Lib.hid ho
          clear ho
          go_wp2_with fail
          go_roundw
          case rel => exact ⟨_, cnt1, HR1.out, Lib.hid (HNO.out fun h => HO.out h.2)⟩
          case measure => exact HRL.out
end Go.Proofs.Ytcjmieofmogeiaa
