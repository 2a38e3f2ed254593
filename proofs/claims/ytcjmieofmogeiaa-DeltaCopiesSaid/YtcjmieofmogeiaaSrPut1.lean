/- The program's put: one sample. -/
import Derived.Test.YtcjmieofmogeiaaSrFind
namespace Go.Proofs.Ytcjmieofmogeiaa
open Go.RowKit
variable {hd : Hd}

/-- The call's boxes: the sample, the result. -/
structure PutB (w W : World) (bx rx : Nat) (x : Smp) : Prop where
  bx : Bx w W bx x
  res : W.heap[rx]? = some (.cells #[.string ⟨#[]⟩, .int .i64 0, .int .i64 0, .bool false, .int .i64 0, .bool false, .int .i64 0] 71 (0, 0))
  low : w.heap.size ≤ rx
theorem PutB.pre {w W W' : World} {bx rx : Nat} {x : Smp} (h : PutB w W bx rx x) (ht : Turns [] W W') : PutB w W' bx rx x :=
  ⟨⟨(ht.block bx (lt_of_block h.bx.blk) (by simp)).trans h.bx.blk, h.bx.turns.then ht, h.bx.new⟩, (ht.block rx (lt_of_block h.res) (by simp)).trans h.res, h.low⟩
theorem sn_set {W : World} {q : Nat} {c0 c1 c2 c3 c4 c5 c6 : Value} (h : W.heap[q]? = some (.cells #[c0, c1, c2, c3, c4, c5, c6] 71 (0, 0))) (a0 a1 a2 a3 a4 a5 a6 : Value) :
    (((((((W.setCell ⟨q, 0, none⟩ a0).setCell ⟨q, 1, none⟩ a1).setCell ⟨q, 2, none⟩ a2).setCell ⟨q, 3, none⟩ a3).setCell ⟨q, 4, none⟩ a4).setCell ⟨q, 5, none⟩ a5).setCell ⟨q, 6, none⟩ a6).heap[q]? = some (.cells #[a0, a1, a2, a3, a4, a5, a6] 71 (0, 0)) ∧
    Turns [q] W (((((((W.setCell ⟨q, 0, none⟩ a0).setCell ⟨q, 1, none⟩ a1).setCell ⟨q, 2, none⟩ a2).setCell ⟨q, 3, none⟩ a3).setCell ⟨q, 4, none⟩ a4).setCell ⟨q, 5, none⟩ a5).setCell ⟨q, 6, none⟩ a6) := by
  have s0 := heap_setCell_same _ q 0 _ _ a0 h
  rw [show (#[c0, c1, c2, c3, c4, c5, c6] : Array Value).setIfInBounds 0 a0 = #[a0, c1, c2, c3, c4, c5, c6] from rfl] at s0
  have s1 := heap_setCell_same _ q 1 _ _ a1 s0
  rw [show (#[a0, c1, c2, c3, c4, c5, c6] : Array Value).setIfInBounds 1 a1 = #[a0, a1, c2, c3, c4, c5, c6] from rfl] at s1
  have s2 := heap_setCell_same _ q 2 _ _ a2 s1
  rw [show (#[a0, a1, c2, c3, c4, c5, c6] : Array Value).setIfInBounds 2 a2 = #[a0, a1, a2, c3, c4, c5, c6] from rfl] at s2
  have s3 := heap_setCell_same _ q 3 _ _ a3 s2
  rw [show (#[a0, a1, a2, c3, c4, c5, c6] : Array Value).setIfInBounds 3 a3 = #[a0, a1, a2, a3, c4, c5, c6] from rfl] at s3
  have s4 := heap_setCell_same _ q 4 _ _ a4 s3
  rw [show (#[a0, a1, a2, a3, c4, c5, c6] : Array Value).setIfInBounds 4 a4 = #[a0, a1, a2, a3, a4, c5, c6] from rfl] at s4
  have s5 := heap_setCell_same _ q 5 _ _ a5 s4
  rw [show (#[a0, a1, a2, a3, a4, c5, c6] : Array Value).setIfInBounds 5 a5 = #[a0, a1, a2, a3, a4, a5, c6] from rfl] at s5
  have s6 := heap_setCell_same _ q 6 _ _ a6 s5
  rw [show (#[a0, a1, a2, a3, a4, a5, c6] : Array Value).setIfInBounds 6 a6 = #[a0, a1, a2, a3, a4, a5, a6] from rfl] at s6
  refine ⟨s6, ?_⟩
  exact ((((((Turns.setCell W _ _ (by simp)).then (Turns.setCell _ _ _ (by simp))).then (Turns.setCell _ _ _ (by simp))).then (Turns.setCell _ _ _ (by simp))).then (Turns.setCell _ _ _ (by simp))).then (Turns.setCell _ _ _ (by simp))).then (Turns.setCell _ _ _ (by simp))
theorem lst_set {W : World} {q : Nat} {c0 c1 c2 c3 c4 c5 : Value} (h : W.heap[q]? = some (.cells #[c0, c1, c2, c3, c4, c5] 88 (0, 0))) (a0 a1 a2 a3 a4 a5 : Value) :
    ((((((W.setCell ⟨q, 0, none⟩ a0).setCell ⟨q, 1, none⟩ a1).setCell ⟨q, 2, none⟩ a2).setCell ⟨q, 3, none⟩ a3).setCell ⟨q, 4, none⟩ a4).setCell ⟨q, 5, none⟩ a5).heap[q]? = some (.cells #[a0, a1, a2, a3, a4, a5] 88 (0, 0)) ∧
    Turns [q] W ((((((W.setCell ⟨q, 0, none⟩ a0).setCell ⟨q, 1, none⟩ a1).setCell ⟨q, 2, none⟩ a2).setCell ⟨q, 3, none⟩ a3).setCell ⟨q, 4, none⟩ a4).setCell ⟨q, 5, none⟩ a5) := by
  have s0 := heap_setCell_same _ q 0 _ _ a0 h
  rw [show (#[c0, c1, c2, c3, c4, c5] : Array Value).setIfInBounds 0 a0 = #[a0, c1, c2, c3, c4, c5] from rfl] at s0
  have s1 := heap_setCell_same _ q 1 _ _ a1 s0
  rw [show (#[a0, c1, c2, c3, c4, c5] : Array Value).setIfInBounds 1 a1 = #[a0, a1, c2, c3, c4, c5] from rfl] at s1
  have s2 := heap_setCell_same _ q 2 _ _ a2 s1
  rw [show (#[a0, a1, c2, c3, c4, c5] : Array Value).setIfInBounds 2 a2 = #[a0, a1, a2, c3, c4, c5] from rfl] at s2
  have s3 := heap_setCell_same _ q 3 _ _ a3 s2
  rw [show (#[a0, a1, a2, c3, c4, c5] : Array Value).setIfInBounds 3 a3 = #[a0, a1, a2, a3, c4, c5] from rfl] at s3
  have s4 := heap_setCell_same _ q 4 _ _ a4 s3
  rw [show (#[a0, a1, a2, a3, c4, c5] : Array Value).setIfInBounds 4 a4 = #[a0, a1, a2, a3, a4, c5] from rfl] at s4
  have s5 := heap_setCell_same _ q 5 _ _ a5 s4
  rw [show (#[a0, a1, a2, a3, a4, c5] : Array Value).setIfInBounds 5 a5 = #[a0, a1, a2, a3, a4, a5] from rfl] at s5
  exact ⟨s5, (((((Turns.setCell W _ _ (by simp)).then (Turns.setCell _ _ _ (by simp))).then (Turns.setCell _ _ _ (by simp))).then (Turns.setCell _ _ _ (by simp))).then (Turns.setCell _ _ _ (by simp))).then (Turns.setCell _ _ _ (by simp))⟩
theorem seen_cells {W : World} {q : Nat} {c0 c1 c2 c3 c4 c5 c6 : Value} (h : W.heap[q]? = some (.cells #[c0, c1, c2, c3, c4, c5, c6] 71 (0, 0))) :
    W.cell? ⟨q, 0, none⟩ = some c0 ∧ W.cell? ⟨q, 1, none⟩ = some c1 ∧ W.cell? ⟨q, 2, none⟩ = some c2 ∧ W.cell? ⟨q, 3, none⟩ = some c3 ∧ W.cell? ⟨q, 4, none⟩ = some c4 ∧ W.cell? ⟨q, 5, none⟩ = some c5 ∧ W.cell? ⟨q, 6, none⟩ = some c6 ∧ ∀ j, W.frozen? ⟨q, j, none⟩ = false := by
  refine ⟨?_, ?_, ?_, ?_, ?_, ?_, ?_, fun j => ?_⟩ <;> simp [World.cell?, World.frozen?, h]
theorem last_cells {W : World} {q : Nat} {c0 c1 c2 c3 c4 c5 : Value} (h : W.heap[q]? = some (.cells #[c0, c1, c2, c3, c4, c5] 88 (0, 0))) :
    W.cell? ⟨q, 0, none⟩ = some c0 ∧ W.cell? ⟨q, 1, none⟩ = some c1 ∧ W.cell? ⟨q, 2, none⟩ = some c2 ∧ W.cell? ⟨q, 3, none⟩ = some c3 ∧ W.cell? ⟨q, 4, none⟩ = some c4 ∧ W.cell? ⟨q, 5, none⟩ = some c5 ∧ ∀ j, W.frozen? ⟨q, j, none⟩ = false := by
  refine ⟨?_, ?_, ?_, ?_, ?_, ?_, fun j => ?_⟩ <;> simp [World.cell?, World.frozen?, h]
/-- What put does. -/
def seenM (x : Smp) (l : Lst) : Sn := if l.live then ⟨x, 1, true, l.s.val⟩ else ⟨x, 1, false, 0⟩
def PutQ [hd : Hd] (B : Nat) (w : World) (p b most : Nat) (P : PM) (n : Nat) (owner : Int) (x : Smp) (e : Ending) (w' : World) : Prop :=
  (verM most n x ((P x.name).map (·.2)) ≠ 1 ∧ e = .returned (Sn.val' ⟨x, verM most n x ((P x.name).map (·.2)), false, 0⟩) ∧ Turns [] w w') ∨
  (verM most n x ((P x.name).map (·.2)) = 1 ∧ ∃ g l, (P x.name = some (g, l) ∨ P x.name = none ∧ w.heap.size ≤ g ∧ l.live = false) ∧ e = .returned (Sn.val' (seenM x l)) ∧
    Sm B w' p b most (updM P x.name (g, nowL owner x)) (if (P x.name).isSome then n else n + 1) ∧ Turns [b, g] w w')
theorem Sm.wrote {B : Nat} {w w' : World} {p b most n : Nat} {P : PM} {x : ByteArray} {g : Nat} {l l' : Lst} (h : Sm B w p b most (updM P x (g, l)) n) (ht : Turns [g] w w') (hg : w'.heap[g]? = some (.cells (lK.enc l').toArray lK.te (0, 0))) (hn : l'.s.name = x) : Sm B w' p b most (updM P x (g, l')) n := by
  have e : updM P x (g, l') = fun z => if z = x then some (g, l') else updM P x (g, l) z := funext fun z => by
    by_cases hz : z = x
    · rw [if_pos hz, hz, updM_here]
    · rw [if_neg hz, updM_ne hz, updM_ne hz]
  have hgp := h.apart.2 x _ (updM_here P x (g, l))
  refine ⟨(ht.block p h.lt (by simpa using Ne.symm hgp)).trans h.head, ?_, ⟨h.apart.1, fun z q hq => ?_⟩, h.low, fun z q hq => ?_⟩
  · rw [e]
    exact h.map.write (updM_here P x (g, l)) ht hg
  · rcases updM_or hq with ⟨rfl, rfl⟩ | ⟨hz, hq⟩
    · exact hgp
    · exact h.apart.2 z q (by rw [updM_ne hz]; exact hq)
  · rcases updM_or hq with ⟨rfl, rfl⟩ | ⟨hz, hq⟩
    · exact ⟨hn, (h.nm z _ (updM_here P z (g, l))).2⟩
    · exact h.nm z q (by rw [updM_ne hz]; exact hq)
theorem putQ_yes {B : Nat} {w w' : World} {p b most n : Nat} {P : PM} {owner : Int} {x : Smp} {v : Int} (hv : v = verM most n x ((P x.name).map (·.2))) (h1 : v = 1) {g : Nat} {l : Lst}
    (was : P x.name = some (g, l) ∨ P x.name = none ∧ w.heap.size ≤ g ∧ l.live = false) (hs : Sm B w' p b most (updM P x.name (g, nowL owner x)) (if (P x.name).isSome then n else n + 1)) (ht : Turns [b, g] w w') :
    PutQ B w p b most P n owner x (.returned (.agg #[.string x.name, .int .i64 x.val, .int .i64 x.tm, .bool x.cnt, .int .i64 v, .bool l.live, .int .i64 (if l.live then l.s.val else 0)])) w' := by
  subst h1
  refine .inr ⟨hv.symm, g, l, was, ?_, hs, ht⟩
  unfold seenM
  cases l.live <;> rfl
theorem putQ_no {B : Nat} {w w' : World} {p b most n : Nat} {P : PM} {owner : Int} {x : Smp} {v : Int} (hv : v = verM most n x ((P x.name).map (·.2))) (h1 : v ≠ 1) (ht : Turns [] w w') :
    PutQ B w p b most P n owner x (.returned (.agg #[.string x.name, .int .i64 x.val, .int .i64 x.tm, .bool x.cnt, .int .i64 v, .bool false, .int .i64 0])) w' := by
  subst hv
  exact .inl ⟨h1, rfl, ht⟩
set_option maxRecDepth 100000 in
set_option maxHeartbeats 4000000 in
theorem put1_any {B : Nat} {w : World} {p b most n : Nat} {P : PM} (h : Sm B w p b most P n) (hn : n ≤ 100000) (hB : B ≤ w.heap.size) (owner : Int) (x : Smp) (hx : NmOk x.name) :
    Calls Try.prog 39 #[ptr p, .int .i64 owner, x.val'] w (PutQ B w p b most P n owner x) := by
  have HS := Lib.hid h
  have HX := Lib.hid hx
  have HN := Lib.hid hn
  have HBB := Lib.hid hB
  obtain ⟨v, hv⟩ : ∃ v, v = verM most n x ((P x.name).map (·.2)) := ⟨_, rfl⟩
  have HVE := Lib.hid hv
  have HV : Hid (∀ W, Hid (Turns [] w W) → Calls Try.prog 44 #[ptr p, .agg #[.string x.name, .int .i64 x.val, .int .i64 x.tm, .bool x.cnt]] W fun e w' => e = .returned (.int .i64 v) ∧ Turns [] W w') := Lib.hid fun W hW => by
    have := ver_any (HS.out.pre hW.out) x HX.out HN.out
    rw [← HVE.out] at this
    exact this
  have HB0 := Lib.hid (Bx.made w x)
  show Calls _ _ #[ptr p, .int .i64 owner, .agg #[.string x.name, .int .i64 x.val, .int .i64 x.tm, .bool x.cnt]] w _
  clear h hx hn hB hv
  go_enter Try.func39, Try.ntmps39
  go_upto_region 1 with fail
  obtain ⟨Z, hZ⟩ : ∃ Z, w.alloc (.cells #[.string x.name, .int .i64 x.val, .int .i64 x.tm, .bool x.cnt] 52) = Z := ⟨_, rfl⟩
  obtain ⟨W0, hW0⟩ : ∃ W0, Z.alloc (.cells #[.string ⟨#[]⟩, .int .i64 0, .int .i64 0, .bool false, .int .i64 0, .bool false, .int .i64 0] 71) = W0 := ⟨_, rfl⟩
  rw [hZ] at HB0 ⊢
  rw [hW0]
  have hzs : Z.heap.size = w.heap.size + 1 := by rw [← hZ]; simp
  have HP0 : Hid (PutB w W0 w.heap.size (w.heap.size + 1) x) := by
    have ht : Turns [] Z W0 := by rw [← hW0]; exact Turns.alloc _ _
    refine Lib.hid ⟨⟨(ht.block _ (by omega) (by simp)).trans HB0.out.blk, HB0.out.turns.then ht, Nat.le_refl _⟩, ?_, by omega⟩
    rw [← hW0, ← hzs]
    exact heap_alloc_new Z _
  clear hW0 hZ hzs HB0
  go_cut [7] from 9 to 13 (fun v7 wx => ∃ q, v7 = ptr q ∧ Hid (wx.heap[q]? = some (.cells #[.string x.name, .int .i64 x.val, .int .i64 x.tm, .bool x.cnt, .int .i64 v, .bool false, .int .i64 0] 71 (0, 0)) ∧ W0.heap.size ≤ q ∧ Turns [] W0 wx))
  case first =>
    have q0 := HP0.out.bx.c0
    have q1 := HP0.out.bx.c1
    have q2 := HP0.out.bx.c2
    have q3 := HP0.out.bx.c3
    have HTW := Lib.hid HP0.out.bx.turns
    have HV1 : Hid (∀ W, Hid (Turns [] W0 W) → Calls Try.prog 44 #[ptr p, .agg #[.string x.name, .int .i64 x.val, .int .i64 x.tm, .bool x.cnt]] W fun e w' => e = .returned (.int .i64 v) ∧ Turns [] W w') := Lib.hid fun W hW => HV.out W (Lib.hid (HTW.out.then hW.out))
    have HD := Lib.hid (Turns.refl [] W0)
    have HSK : Hid (∀ W, Hid (Turns [] W0 W) → W.cell? ⟨w.heap.size, 0, none⟩ = some (.string x.name) ∧ W.cell? ⟨w.heap.size, 1, none⟩ = some (.int .i64 x.val) ∧ W.cell? ⟨w.heap.size, 2, none⟩ = some (.int .i64 x.tm) ∧ W.cell? ⟨w.heap.size, 3, none⟩ = some (.bool x.cnt)) := Lib.hid fun W hW => by
      have := (HP0.out.pre hW.out).bx
      exact ⟨this.c0, this.c1, this.c2, this.c3⟩
    have hlt : w.heap.size < W0.heap.size := lt_of_block HP0.out.bx.blk
    have HAL : Hid (∀ W, Turns [] (W0.drew.alloc (.cells #[.string ⟨#[]⟩, .int .i64 0, .int .i64 0, .bool false, .int .i64 0, .bool false, .int .i64 0] 71)) W → W.heap[W0.heap.size]? = some (.cells #[.string ⟨#[]⟩, .int .i64 0, .int .i64 0, .bool false, .int .i64 0, .bool false, .int .i64 0] 71 (0, 0))) := Lib.hid fun W hW => (hW.block _ (by simp) (by simp)).trans (heap_alloc_new W0.drew _)
    have HCL : ∀ W : World, W.heap[W0.heap.size]? = some (.cells #[.string ⟨#[]⟩, .int .i64 0, .int .i64 0, .bool false, .int .i64 0, .bool false, .int .i64 0] 71 (0, 0)) → (W.cell? ⟨W0.heap.size, 0, none⟩ = some (.string ⟨#[]⟩) ∧ W.cell? ⟨W0.heap.size, 1, none⟩ = some (.int .i64 0) ∧ W.cell? ⟨W0.heap.size, 2, none⟩ = some (.int .i64 0) ∧ W.cell? ⟨W0.heap.size, 3, none⟩ = some (.bool false) ∧ W.cell? ⟨W0.heap.size, 4, none⟩ = some (.int .i64 0) ∧ W.cell? ⟨W0.heap.size, 5, none⟩ = some (.bool false) ∧ W.cell? ⟨W0.heap.size, 6, none⟩ = some (.int .i64 0)) ∧ ∀ j, W.frozen? ⟨W0.heap.size, j, none⟩ = false := fun W h => ⟨by refine ⟨?_, ?_, ?_, ?_, ?_, ?_, ?_⟩ <;> simp [World.cell?, h], fun j => by simp [World.frozen?, h]⟩
    have HCLH := Lib.hid HCL
    clear HCL
    clear HV
    go_region_law ((go_simp; go_at_call 44; first | (refine (HV1.out _ (Lib.hid HD.out.drew)).mono ?_; rintro e w2 ⟨rfl, ht2⟩; obtain ⟨d0, d1, d2, d3⟩ := HSK.out _ (Lib.hid (HD.out.drew.then ht2)); have HT2 := Lib.hid (HD.out.drew.then ht2); have hlt2 : w.heap.size < w2.heap.size := Nat.lt_of_lt_of_le hlt ht2.size) | (refine (HV1.out _ (Lib.hid (HD.out.drew.then (Turns.alloc _ _)))).mono ?_; rintro e w2 ⟨rfl, ht2⟩; obtain ⟨d0, d1, d2, d3⟩ := HSK.out _ (Lib.hid ((HD.out.drew.then (Turns.alloc _ _)).then ht2)); have hz := HAL.out _ ht2; have HZ := Lib.hid hz; obtain ⟨⟨z0, z1, z2, z3, z4, z5, z6⟩, zf⟩ := HCLH.out _ hz; have HT2 := Lib.hid ht2; clear hz)))
    all_goals
      clear HAL HCLH HSK HV1 HTW q0 q1 q2 q3
      go_wp2
      go_meet
      first
        | (obtain ⟨s1, s2⟩ := sn_set HZ.out (.string x.name) (.int .i64 x.val) (.int .i64 x.tm) (.bool x.cnt) (.int .i64 v) (.bool false) (.int .i64 0)
           have hT : Turns [] W0 w2 := (HD.out.drew.then (Turns.alloc _ _)).then HT2.out
           have hT2 := hT.trans s2 fun i hi => .inr (by rw [List.mem_singleton] at hi; rw [hi]; exact Nat.le_refl _)
           clear HZ
           exact ⟨W0.heap.size, rfl, Lib.hid ⟨s1, Nat.le_refl _, hT2⟩⟩)
        | exact ⟨w2.heap.size, rfl, Lib.hid ⟨heap_alloc_new w2 _, HT2.out.size, HT2.out.then (Turns.alloc _ _)⟩⟩
  case rest =>
  obtain ⟨q, rfl, HC⟩ := hcut
  have hr0 : w.heap.size + 1 < W0.heap.size := lt_of_block HP0.out.res
  have q0 := (HP0.out.pre HC.out.2.2).bx.c0
  have HCl := Lib.hid (clone_nm x.name wc HX.out)
  go_wp2_with fail
  refine HCl.out.mono ?_
  rintro e w1 ⟨rfl, ht1⟩
  have HT1 := Lib.hid ht1
  have HQ1 : Hid (w1.heap[q]? = some (.cells #[.string x.name, .int .i64 x.val, .int .i64 x.tm, .bool x.cnt, .int .i64 v, .bool false, .int .i64 0] 71 (0, 0))) := Lib.hid ((ht1.block q (lt_of_block HC.out.1) (by simp)).trans HC.out.1)
  obtain ⟨z0, z1, z2, z3, z4, z5, z6, zf⟩ := seen_cells HQ1.out
  clear ht1 q0 HCl z1 z2 z3 z4 z5 z6
  go_upto_region 3 with fail
  obtain ⟨w2, hw2⟩ : ∃ w2, w1.setCell ⟨q, 0, none⟩ (.string x.name) = w2 := ⟨_, rfl⟩
  have HQ2 : Hid (w2.heap[q]? = some (.cells #[.string x.name, .int .i64 x.val, .int .i64 x.tm, .bool x.cnt, .int .i64 v, .bool false, .int .i64 0] 71 (0, 0))) := Lib.hid (by rw [← hw2]; exact heap_setCell_same w1 q 0 _ _ (.string x.name) HQ1.out)
  have hqW : W0.heap.size ≤ q := HC.out.2.1
  have HT2 : Hid (Turns [] W0 w2) := Lib.hid ((HC.out.2.2.then HT1.out).trans (show Turns [q] w1 w2 by rw [← hw2]; exact Turns.setCell _ _ _ (by simp)) fun i hi => .inr (by simp at hi; omega))
  rw [hw2]
  clear hw2 z0 zf HQ1 HT1 HC
  obtain ⟨z0, z1, z2, z3, z4, z5, z6, zf⟩ := seen_cells HQ2.out
  by_cases hv1 : v = 1
  · have HV1 := Lib.hid hv1
    have hb : (v != 1) = false := by simpa using hv1
    have hTw : Turns [] w w2 := HP0.out.bx.turns.then HT2.out
    have HTW := Lib.hid hTw
    have HF := Lib.hid (find_any (HS.out.pre hTw) HN.out (by have := HBB.out; have := hTw.size; omega) HX.out)
    have q0 := (HP0.out.pre HT2.out).bx.c0
    clear hv1 hTw
    go_wp2_with fail
    refine HF.out.mono ?_
    rintro e w3 ⟨g, l, rfl, hf⟩
    have hbl : b < w.heap.size := HS.out.map.map.lt
    have hgl : g < w.heap.size ∨ w2.heap.size ≤ g := by
      rcases hf.was with h | h
      · exact .inl (lt_of_block (HS.out.map.blk _ _ h).1)
      · exact .inr h.2.1
    have hq2 : q < w2.heap.size := lt_of_block HQ2.out
    have HFR := Lib.hid hf
    have hz3 := (hf.turns.block q hq2 (by simp; omega)).trans HQ2.out
    have HZ3 := Lib.hid hz3
    have HBX3 := Lib.hid ((hf.turns.block w.heap.size (by have := HTW.out.size; omega) (by simp; omega)).trans (HP0.out.pre HT2.out).bx.blk)
    have HRX3 := Lib.hid ((hf.turns.block (w.heap.size + 1) (by omega) (by simp; omega)).trans (HP0.out.pre HT2.out).res)
    have HT3 : Hid (Turns [b, g] w w3) := Lib.hid (HTW.out.mono (by simp) |>.then (hf.turns.mono (by simp)))
    have HWAS : Hid (P x.name = some (g, l) ∨ P x.name = none ∧ w.heap.size ≤ g ∧ l.live = false) := Lib.hid (hf.was.imp id fun h => ⟨h.1, Nat.le_trans HTW.out.size h.2.1, h.2.2⟩)
    have hg3 := hf.blk
    have HNM := Lib.hid hf.nm
    have HS3 := Lib.hid hf.sm
    obtain ⟨k0, k1, k2, k3, k4, k5, -⟩ := last_cells hg3
    have HG3 := Lib.hid hg3
    obtain ⟨lv, hlv⟩ : ∃ lv, lv = l.live := ⟨_, rfl⟩
    have HLV := Lib.hid hlv
    rw [← hlv] at k4
    clear HF hf z0 z1 z2 z3 z4 z5 z6 zf hg3 hlv q0
    obtain ⟨z0, z1, z2, z3, z4, z5, z6, zf⟩ := seen_cells hz3
    have hqg : q ≠ g := by omega
    clear hz3
    go_upto_if 30 with fail
    go_cut [8] from 31 to 37 (fun v8 wx => v8 = ptr g ∧ Hid (wx.heap[q]? = some (.cells #[.string x.name, .int .i64 x.val, .int .i64 x.tm, .bool x.cnt, .int .i64 v, .bool lv, .int .i64 (if lv then l.s.val else 0)] 71 (0, 0)) ∧ Turns [q] w3 wx))
    case first =>
      cases lv with
      | true =>
        go_upto_region 7 with fail
        go_region
        go_wp2
        go_meet
        exact ⟨rfl, Lib.hid ⟨heap_setCell_same _ q 6 _ _ _ (heap_setCell_same w3.drew q 5 _ _ _ HZ3.out), ((Turns.refl [q] w3).drew.then (Turns.setCell _ _ _ (by simp))).then (Turns.setCell _ _ _ (by simp))⟩⟩
      | false =>
        go_wp2
        go_meet
        exact ⟨rfl, Lib.hid ⟨HZ3.out, Turns.refl _ _⟩⟩
    case rest =>
    obtain ⟨rfl, HC4⟩ := hcut
    obtain ⟨ah, hah⟩ : ∃ ah : Int, ah = if lv then l.s.val else 0 := ⟨_, rfl⟩
    rw [← hah] at HC4
    have HAH := Lib.hid hah
    clear hah
    have hx1 : w.heap.size ≠ q := by omega
    have hx2 : w.heap.size + 1 ≠ q := by omega
    have hs3 : w2.heap.size ≤ w3.heap.size := HFR.out.turns.size
    have hT4 := HC4.out.2
    have hbx4 := (hT4.block w.heap.size (lt_of_block HBX3.out) (by simpa using hx1)).trans HBX3.out
    have HBX4 := Lib.hid hbx4
    have HRX4 := Lib.hid ((hT4.block (w.heap.size + 1) (lt_of_block HRX3.out) (by simpa using hx2)).trans HRX3.out)
    have hg4 := (hT4.block g (lt_of_block HG3.out) (by simpa using Ne.symm hqg)).trans HG3.out
    have HG4 := Lib.hid hg4
    have k0' := (last_cells hg4).1
    rw [HNM.out] at k0'
    have b0 : wc.cell? ⟨w.heap.size, 0, none⟩ = some (.string x.name) := by simp [World.cell?, hbx4]
    have bf : wc.frozen? ⟨w.heap.size, 0, none⟩ = false := by simp [World.frozen?, hbx4]
    clear k0 k1 k2 k3 k4 k5 z0 z1 z2 z3 z4 z5 z6 zf hT4 hbx4 hg4
    go_upto_region 9 with fail
    obtain ⟨w5, hw5⟩ : ∃ w5, wc.setCell ⟨w.heap.size, 0, none⟩ (.string x.name) = w5 := ⟨_, rfl⟩
    have hT5 : Turns [w.heap.size] wc w5 := by rw [← hw5]; exact Turns.setCell _ _ _ (by simp)
    have hbx5 : w5.heap[w.heap.size]? = some (.cells #[.string x.name, .int .i64 x.val, .int .i64 x.tm, .bool x.cnt] 52 (0, 0)) := by rw [← hw5]; exact heap_setCell_same wc w.heap.size 0 _ _ _ HBX4.out
    rw [hw5]
    clear hw5 k0' b0 bf
    have hg5 := (hT5.block g (lt_of_block HG4.out) (by simp; omega)).trans HG4.out
    have HG5 := Lib.hid hg5
    have HT5 := Lib.hid hT5
    obtain ⟨k0, k1, k2, k3, k4, k5, kf⟩ := last_cells hg5
    have b0 : w5.cell? ⟨w.heap.size, 0, none⟩ = some (.string x.name) := by simp [World.cell?, hbx5]
    have b1 : w5.cell? ⟨w.heap.size, 1, none⟩ = some (.int .i64 x.val) := by simp [World.cell?, hbx5]
    have b2 : w5.cell? ⟨w.heap.size, 2, none⟩ = some (.int .i64 x.tm) := by simp [World.cell?, hbx5]
    have b3 : w5.cell? ⟨w.heap.size, 3, none⟩ = some (.bool x.cnt) := by simp [World.cell?, hbx5]
    clear hg5 hT5 hbx5
    go_upto_region 10 with fail
    have hset := lst_set HG5.out (.string x.name) (.int .i64 x.val) (.int .i64 x.tm) (.bool x.cnt) (.bool true) (.int .i64 owner)
    obtain ⟨w6, hw6⟩ : ∃ w6, (((((w5.setCell ⟨g, 0, none⟩ (.string x.name)).setCell ⟨g, 1, none⟩ (.int .i64 x.val)).setCell ⟨g, 2, none⟩ (.int .i64 x.tm)).setCell ⟨g, 3, none⟩ (.bool x.cnt)).setCell ⟨g, 4, none⟩ (.bool true)).setCell ⟨g, 5, none⟩ (.int .i64 owner) = w6 := ⟨_, rfl⟩
    rw [hw6] at hset ⊢
    have HSET := Lib.hid hset
    clear hw6 hset k0 k1 k2 k3 k4 k5 kf b0 b1 b2 b3
    have hrx6 := (HSET.out.2.block (w.heap.size + 1) (by have := lt_of_block HRX4.out; have := HT5.out.size; omega) (by simp; omega)).trans ((HT5.out.block (w.heap.size + 1) (lt_of_block HRX4.out) (by simp)).trans HRX4.out)
    have hq6 := (HSET.out.2.block q (by have := lt_of_block HC4.out.1; have := HT5.out.size; omega) (by simpa using hqg)).trans ((HT5.out.block q (lt_of_block HC4.out.1) (by simpa using Ne.symm hx1)).trans HC4.out.1)
    have HRX6 := Lib.hid hrx6
    obtain ⟨z0, z1, z2, z3, z4, z5, z6, -⟩ := seen_cells hq6
    obtain ⟨r0, r1, r2, r3, r4, r5, r6, rf⟩ := seen_cells hrx6
    clear hrx6 hq6
    go_wp2_with fail
    obtain ⟨s1, s2⟩ := sn_set HRX6.out (.string x.name) (.int .i64 x.val) (.int .i64 x.tm) (.bool x.cnt) (.int .i64 v) (.bool lv) (.int .i64 ah)
    refine bodyPost_ret (results_cell_row (P := Try.prog) rfl _ _ (w.heap.size + 1) 71 #[.string x.name, .int .i64 x.val, .int .i64 x.tm, .bool x.cnt, .int .i64 v, .bool lv, .int .i64 ah] (0, 0) _ rfl s1 seen_struct rfl (by kernel_rfl)) rfl ?_
    have hin : ∀ i, w.heap.size ≤ i → i ≠ g → ¬ MapP.In b (updM P x.name (g, l)) i := by
      rintro i h1 h2 (e | ⟨z, r, hr, e⟩)
      · omega
      · rcases updM_or hr with ⟨-, rfl⟩ | ⟨-, hr⟩
        · exact h2 e.symm
        · have := lt_of_block (HS.out.map.blk z r hr).1; omega
    have hpl := HS.out.lt
    have hS4 := HS3.out.turns HC4.out.2 (by simp; omega) (by intro i hi; rw [List.mem_singleton] at hi; exact hin i (by omega) (by omega))
    have hS5 := hS4.turns HT5.out (by simp; omega) (by intro i hi; rw [List.mem_singleton] at hi; exact hin i (by omega) (by omega))
    have hS6 := hS5.wrote (l' := nowL owner x) HSET.out.2 HSET.out.1 rfl
    have hin' : ¬ MapP.In b (updM P x.name (g, nowL owner x)) (w.heap.size + 1) := by
      rintro (e | ⟨z, r, hr, e⟩)
      · omega
      · rcases updM_or hr with ⟨-, rfl⟩ | ⟨-, hr⟩
        · simp only at e; omega
        · have := lt_of_block (HS.out.map.blk z r hr).1; omega
    have hS7 := hS6.turns s2 (by simp; omega) (by intro i hi; rw [List.mem_singleton] at hi; subst hi; exact hin')
    have hw : ∀ {A B : World} {F : List Nat}, Turns [b, g] w A → Turns F A B → (∀ i ∈ F, i = g ∨ w.heap.size ≤ i) → Turns [b, g] w B := fun h1 h2 hF => h1.trans h2 fun i hi => (hF i hi).imp (fun e => by simp [e]) id
    have hT7 := hw (hw (hw (hw HT3.out HC4.out.2 (by simp; omega)) HT5.out (by simp)) HSET.out.2 (by simp)) s2 (by simp)
    have hfin := putQ_yes (l := l) HVE.out HV1.out HWAS.out hS7 hT7
    rw [← HLV.out, ← HAH.out] at hfin
    exact hfin
  · have hb : (v != 1) = true := by simpa using hv1
    have HV1 := Lib.hid hv1
    have HR := Lib.hid (HP0.out.pre HT2.out)
    obtain ⟨r0, r1, r2, r3, r4, r5, r6, rf⟩ := seen_cells HR.out.res
    have hqr : q ≠ w.heap.size + 1 := by omega
    clear hv1
    go_wp2_with fail
    obtain ⟨s1, s2⟩ := sn_set HR.out.res (.string x.name) (.int .i64 x.val) (.int .i64 x.tm) (.bool x.cnt) (.int .i64 v) (.bool false) (.int .i64 0)
    exact bodyPost_ret (results_cell_row (P := Try.prog) rfl _ _ (w.heap.size + 1) 71 #[.string x.name, .int .i64 x.val, .int .i64 x.tm, .bool x.cnt, .int .i64 v, .bool false, .int .i64 0] (0, 0) _ rfl s1 seen_struct rfl (by kernel_rfl)) rfl (putQ_no HVE.out HV1.out (HR.out.bx.turns.trans s2 fun i hi => .inr (by simp at hi; omega)))
end Go.Proofs.Ytcjmieofmogeiaa
