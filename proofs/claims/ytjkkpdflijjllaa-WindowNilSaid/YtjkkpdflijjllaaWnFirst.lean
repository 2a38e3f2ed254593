/- The document's first: the first open window closes. -/
import Derived.Test.YtjkkpdflijjllaaWnRef
namespace Go.Proofs.Ytjkkpdflijjllaa
open Go.RowKit

/-- append of what is read, none too, in a region that keeps its order. -/
theorem EK.wpList_append_all {α : Type} {K : EK α} {P : Program} (ok : K.Ok P) {w : World} {ops : Array Oper} {rest : List Oper} {o : Oper} {a : Act} {Q : Exit → Act → World → Prop} (hgd : o.guard = none) (s x : Operand)
    (ho : o.op = .call { callee := .builtin .append, args := #[s, x], argTypes := #[K.ts, K.ts] })
    (base : Nat) (v : Value) (l1 : List α) (hs : a.eval s = v) (hown : K.Own base w v l1)
    (B : Nat) (A : Option Addr) (l2 : List α) (n c : Nat) (hn : l2.length = n) (hx : a.eval x = .slice A n c) (hr : K.Reads w B A l2)
    (hlen : l1.length + l2.length ≤ 100000) (hbase : base ≤ w.heap.size)
    (h : ∀ v' w', K.Own base w' v' (l1 ++ l2) → Turns (ownB v) w w' → (∀ i ∈ ownB v', i ∈ ownB v ∨ i = w.heap.size) → wpList P ops Q rest (a.put o.dst v') w') : wpList P ops Q (o :: rest) a w :=
  wpList_plain hgd fun _ hK => EK.wp_append_all ok s x ho base v l1 hs hown B A l2 n c hn hx hr hlen hbase fun v' w' h1 h2 h3 => hK _ _ (h v' w' h1 h2 h3)
theorem EK.ReadsG.drop {α : Type} {K : EK α} {P : Program} (ok : K.Ok P) {W : World} {G : List Nat} {b off : Nat} {l : List α} (h : K.ReadsG W G (some ⟨b, off, none⟩) l) (k : Nat) : K.ReadsG W G (some ⟨b, off + k * K.sz, none⟩) (l.drop k) := by
  rcases h with rfl | ⟨b', off', e, hg, hb, hc⟩
  · exact .inl (by simp)
  · cases e
    refine .inr ⟨b, off + k * K.sz, rfl, hg, hb, fun j u hj => ?_⟩
    have e : K.flat l = K.flat (l.take k) ++ K.flat (l.drop k) := by
      unfold EK.flat
      rw [← List.flatMap_append, List.take_append_drop]
    rcases Nat.lt_or_ge k l.length with hk | hk
    · have hlen : (K.flat (l.take k)).length = k * K.sz := by
        rw [EK.flat_len ok, List.length_take, Nat.min_eq_left (Nat.le_of_lt hk)]
      have := hc (k * K.sz + j) u (by rw [e, List.getElem?_append_right (by omega), hlen, Nat.add_sub_cancel_left]; exact hj)
      rw [← Nat.add_assoc] at this
      exact this
    · rw [List.drop_eq_nil_of_le hk] at hj
      simp [EK.flat] at hj
theorem lone_cellsW {X : World} (C : Array Value) (t : TypeId) {Y : World} (ht : Turns [] (X.alloc (.cells C t)) Y) (j : Nat) (u : Value) (h : C[j]? = some u) : Y.cell? ⟨X.heap.size, j, none⟩ = some u := by
  rw [ht.cell (by simp) (by simp)]
  have := heap_alloc_new X (.cells C t)
  unfold World.cell?
  simp only [this]
  exact h
theorem lt_of_cellW {X : World} {b j : Nat} {u : Value} (h : X.cell? ⟨b, j, none⟩ = some u) : b < X.heap.size := World.block_lt_of_cell? _ _ h
theorem wn_struct : Try.prog.underlying 42 = some (.struct (Try.prog.fieldsOf 42)) := by kernel_rfl
/-- The first open window is closed. -/
def firstW (S : Ws) : Ws := match S.L with
  | [] => S
  | x :: L => { S with L := L, floor := if S.floor < x.num then x.num else S.floor }
theorem RefW.putList {B : Nat} {w : World} {rv : Nat} {G G' : List Nat} {v v' : Value} {S : Ws} {L : List Wn} (h : RefW B w rv G v S) (hl : WnL w G' v' L) (hn : rv ∉ G') (hf : ∀ i ∈ G', B ≤ i ∧ i < w.heap.size) :
    RefW B (w.setCell ⟨rv, 3, none⟩ v') rv G' v' { S with L := L } := by
  have ht : Turns [rv] w (w.setCell ⟨rv, 3, none⟩ v') := Turns.setCell _ _ _ (by simp)
  have hd := heap_setCell_same w rv 3 _ _ v' h.head
  exact ⟨hd, hl.turns ht fun i hi hm => hn (by rw [List.mem_singleton] at hm; rw [← hm]; exact hi), h.low, hn, fun i hi => ⟨(hf i hi).1, Nat.lt_of_lt_of_le (hf i hi).2 ht.size⟩⟩
set_option maxRecDepth 100000 in
set_option maxHeartbeats 4000000 in
theorem rfirstW_any {B : Nat} {w : World} {rv : Nat} {G : List Nat} {v : Value} {S : Ws} (h : RefW B w rv G v S) {x : Wn} {L' : List Wn} (hL : S.L = x :: L') (hl : L'.length ≤ 50000) :
    Calls Try.prog 42 #[.pointer (some ⟨rv, 0, none⟩)] w fun e w' => ∃ r v' G', e = .returned (.agg #[.int .i64 x.num, .slice r.A x.cr.length r.c]) ∧ WRd w' G' r x ∧ RefW B w' rv G' v' (firstW S) ∧ Turns [rv] w w' ∧ (∀ i ∈ G, i ∈ G') ∧ ∀ i ∈ G', i ∈ G ∨ w.heap.size ≤ i := by
  obtain ⟨c0, c1, c2, c3, c4, c5, c6, c7, fz⟩ := h.cells
  obtain ⟨A, c, R, rfl, hlc, hcm, hR, hRs⟩ := h.list
  have hx : S.L[0]? = some x := by rw [hL]; rfl
  obtain ⟨r, hr⟩ : ∃ r, R[0]? = some r := ⟨_, List.getElem?_eq_getElem (by rw [hRs.1, hL]; simp)⟩
  have hw := hRs.2 0 r x hr hx
  obtain ⟨b, off, rfl, hbG, hbw, hcc⟩ := hR.at wOk hr
  have d0 : w.cell? ⟨b, off, none⟩ = some (.int .i64 x.num) := by
    have := hcc 0 _ rfl
    simp only [Nat.zero_mul, Nat.add_zero] at this
    rw [← hw.num]
    exact this
  have d1 : w.cell? ⟨b, off + 1, none⟩ = some (.slice r.A x.cr.length r.c) := by
    have := hcc 1 _ rfl
    simp only [Nat.zero_mul, Nat.zero_add] at this
    rw [← hw.len]
    exact this
  have hSL : S.L.length = L'.length + 1 := by rw [hL, List.length_cons]
  have hRL : R.length = L'.length + 1 := by rw [hRs.1, hSL]
  rw [hSL] at c3
  have f1 : ((L'.length : Nat) : Int) ≤ 50000 := by omega
  have f2 : 1 ≤ c := by omega
  have HT : Hid (∀ W, Turns [] w W → wK.Reads W W.heap.size (if c = 1 then some ⟨b, off, none⟩ else some ⟨b, off + 2, none⟩) (R.drop 1)) := Lib.hid (fun W ht => by
    have h1 := (hR.turns ht (by simp)).drop wOk 1
    split
    · left
      exact List.drop_eq_nil_of_le (by omega)
    · exact h1.reads)
  have HDL := Lib.hid (show (R.drop 1).length = L'.length by rw [List.length_drop, hRL]; rfl)
  have H := Lib.hid h
  have HR := Lib.hid hR
  have HRs := Lib.hid hRs
  have HW := Lib.hid hw
  have hbr : b ≠ rv := fun e => h.ne (by rw [← e]; exact hbG)
  have hlt := h.lt
  have f3 := fz 3
  have f4 := fz 4
  clear h hR hRs hw hcc hx hr fz
  go_enter Try.func42, Try.ntmps42
  go_upto_region 2 with fail
  have HW1 : Hid (Turns [] w ((w.alloc (.cells #[.int .i64 0, .slice none 0 0] 42)).alloc (.cells #[.int .i64 x.num, .slice r.A x.cr.length r.c] 42))) := Lib.hid ((Turns.alloc _ _).then (Turns.alloc _ _))
  have HX1 : Hid (∀ Y, Turns [] ((w.alloc (.cells #[.int .i64 0, .slice none 0 0] 42)).alloc (.cells #[.int .i64 x.num, .slice r.A x.cr.length r.c] 42)) Y → Y.cell? ⟨w.heap.size + 1, 0, none⟩ = some (.int .i64 x.num) ∧ Y.cell? ⟨w.heap.size + 1, 1, none⟩ = some (.slice r.A x.cr.length r.c)) := Lib.hid (fun Y ht => by
    have e : (w.alloc (.cells #[.int .i64 0, .slice none 0 0] 42)).heap.size = w.heap.size + 1 := by simp
    rw [← e]
    exact ⟨lone_cellsW _ _ ht 0 _ rfl, lone_cellsW _ _ ht 1 _ rfl⟩)
  have HX0 : Hid (∀ Y, Turns [] ((w.alloc (.cells #[.int .i64 0, .slice none 0 0] 42)).alloc (.cells #[.int .i64 x.num, .slice r.A x.cr.length r.c] 42)) Y → Y.heap[w.heap.size]? = some (.cells #[.int .i64 0, .slice none 0 0] 42 (0, 0))) := Lib.hid (fun Y ht => by
    have h1 := heap_alloc_new w (.cells #[.int .i64 0, .slice none 0 0] 42)
    have h2 := (Turns.alloc (F := []) (w.alloc (.cells #[.int .i64 0, .slice none 0 0] 42)) (.cells #[.int .i64 x.num, .slice r.A x.cr.length r.c] 42)).block w.heap.size (by simp) (by simp)
    exact (ht.block w.heap.size (by simp; omega) (by simp)).trans (h2.trans h1))
  have HS1 : Hid (w.heap.size + 2 ≤ ((w.alloc (.cells #[.int .i64 0, .slice none 0 0] 42)).alloc (.cells #[.int .i64 x.num, .slice r.A x.cr.length r.c] 42)).heap.size) := Lib.hid (by simp)
  generalize (w.alloc (.cells #[.int .i64 0, .slice none 0 0] 42)).alloc (.cells #[.int .i64 x.num, .slice r.A x.cr.length r.c] 42) = W1 at HW1 HX1 HX0 HS1 ⊢
  obtain ⟨x0, x1⟩ := HX1.out W1 (Turns.refl _ _)
  obtain ⟨c0, c1, c2, c3, c4, c5, c6, c7, fz⟩ := (H.out.pre HW1.out).cells
  rw [hSL] at c3
  have f3 := fz 3
  have f4 := fz 4
  have HLE := Lib.hid hl
  have HSL := Lib.hid hSL
  have HLL := Lib.hid hL
  clear hl hSL hL hRL hlc hcm fz d0 d1
  go_wp2_with (at_builtin; refine EK.wpList_append_all wOk rfl (.const (.slice none 0 0)) (.tmp 15) rfl W1.heap.size (.slice none 0 0) [] rfl (World.ownsRow_nil _ _ _ _) W1.heap.size _ (R.drop 1) L'.length (c - 1) HDL.out rfl (HT.out _ HW1.out) (by rw [HDL.out]; have := HLE.out; simp; omega) (Nat.le_refl _) ?_; intro v2 w2 ho2 ht2 hf2; rw [List.nil_append] at ho2; have HO2 := Lib.hid ho2; have HT2 := Lib.hid (show Turns [] W1 w2 from ht2.mono (by simp [ownB, Value.ownBlock])); obtain ⟨c0, c1, c2, c3, c4, c5, c6, c7, fz⟩ := (H.out.pre (HW1.out.then HT2.out)).cells; have f3 := fz 3; have f4 := fz 4; obtain ⟨x0, x1⟩ := HX1.out w2 HT2.out; obtain ⟨A2, k2, rfl, -⟩ := ho2.reads; clear ho2 ht2 hf2 fz)
  all_goals
    have HO3 := Lib.hid (show wK.Own W1.heap.size w2 (.slice A2 (R.length - 1) k2) (R.drop 1) by have := HO2.out; rwa [List.length_drop] at this)
    have HE : Hid (RefW B (w2.setCell ⟨rv, 3, none⟩ (.slice A2 (R.length - 1) k2)) rv (ownB (.slice A2 (R.length - 1) k2) ++ G) (.slice A2 (R.length - 1) k2) { S with L := L' } ∧ Turns [rv] w (w2.setCell ⟨rv, 3, none⟩ (.slice A2 (R.length - 1) k2)) ∧ WRd (w2.setCell ⟨rv, 3, none⟩ (.slice A2 (R.length - 1) k2)) (ownB (.slice A2 (R.length - 1) k2) ++ G) r x ∧ (∀ i ∈ ownB (.slice A2 (R.length - 1) k2) ++ G, i ∈ G ∨ w.heap.size ≤ i) ∧ (∀ i ∈ ownB (.slice A2 (R.length - 1) k2) ++ G, i ≠ w.heap.size) ∧ ∀ i ∈ G, i ∈ ownB (.slice A2 (R.length - 1) k2) ++ G) := Lib.hid (by
      have ht : Turns [] w w2 := HW1.out.then HT2.out
      have h2 := H.out.pre ht
      have hnew : ∀ i ∈ ownB (.slice A2 (R.length - 1) k2), w.heap.size + 2 ≤ i ∧ i < w2.heap.size := fun i hi => ⟨Nat.le_trans HS1.out (HO3.out.foot i hi).1, (HO3.out.foot i hi).2⟩
      have hnG : rv ∉ ownB (.slice A2 (R.length - 1) k2) ++ G := fun hm => by
        rcases List.mem_append.1 hm with h | h
        · have := (hnew _ h).1; omega
        · exact H.out.ne h
      have hrs : WRds w2 (ownB (.slice A2 (R.length - 1) k2) ++ G) (R.drop 1) L' := by
        have := ((HRs.out.turns ht (by simp)).drop 1).mono (G' := ownB (.slice A2 (R.length - 1) k2) ++ G) fun i hi => List.mem_append.2 (.inr hi)
        rw [HLL.out] at this
        exact this
      refine ⟨h2.putList (WnL.built HO3.out hrs fun i hi => List.mem_append.2 (.inl hi)) hnG fun i hi => ?_, ?_, ?_, fun i hi => ?_, fun i hi => ?_, fun i hi => List.mem_append.2 (.inr hi)⟩
      · rcases List.mem_append.1 hi with h | h
        · have := hnew i h
          have := H.out.low
          exact ⟨by omega, by omega⟩
        · exact h2.foot i h
      · exact (ht.mono (by simp)).trans (Turns.setCell (F := [rv]) _ _ _ (by simp)) fun i hi => .inl hi
      · refine ((HW.out.turns ht (by simp)).mono fun i hi => List.mem_append.2 (.inr hi)).turns (Turns.setCell (F := [rv]) _ _ _ (by simp)) fun i hi hm => ?_
        rw [List.mem_singleton] at hm
        exact hnG (by rw [← hm]; exact hi)
      · rcases List.mem_append.1 hi with h | h
        · exact .inr (by have := (hnew i h).1; omega)
        · exact .inl h
      · rcases List.mem_append.1 hi with h | h
        · have := (hnew i h).1; omega
        · have := (H.out.foot i h).2; omega)
    have HBX : Hid ((w2.setCell ⟨rv, 3, none⟩ (.slice A2 (R.length - 1) k2)).heap[w.heap.size]? = some (.cells #[.int .i64 0, .slice none 0 0] 42 (0, 0)) ∧ (∀ j, (w2.setCell ⟨rv, 3, none⟩ (.slice A2 (R.length - 1) k2)).cell? ⟨w.heap.size + 1, j, none⟩ = w2.cell? ⟨w.heap.size + 1, j, none⟩)) := Lib.hid (by
      have h0 := HX0.out w2 HT2.out
      have hs : w.heap.size + 1 < w2.heap.size := by
        have := lt_of_cellW x0
        exact this
      refine ⟨((Turns.setCell (F := [rv]) w2 ⟨rv, 3, none⟩ _ (by simp)).block _ (by omega) (by simp; omega)).trans h0, fun j => (Turns.setCell (F := [rv]) w2 ⟨rv, 3, none⟩ _ (by simp)).cell hs (by simp; omega) j⟩)
    generalize w2.setCell ⟨rv, 3, none⟩ (.slice A2 (R.length - 1) k2) = W3 at HE HBX ⊢
    generalize Value.slice A2 (R.length - 1) k2 = v3 at HE HO3 ⊢
    generalize ownB v3 ++ G = G3 at HE ⊢
    obtain ⟨c0, c1, c2, c3, c4, c5, c6, c7, fz⟩ := HE.out.1.cells
    have f4 := fz 4
    rw [← HBX.out.2 0] at x0
    rw [← HBX.out.2 1] at x1
    have HFW := Lib.hid (show firstW S = { S with L := L', floor := if S.floor < x.num then x.num else S.floor } by unfold firstW; rw [HLL.out])
    have HLT := Lib.hid hlt
    have HFN : Hid (∀ (W : World) (v : Value) (G' : List Nat), RefW B W rv G' v (firstW S) → Turns [rv] w W → WRd W G' r x → (∀ i ∈ G', i ≠ w.heap.size) → (∃ o0 o1 : Value, W.heap[w.heap.size]? = some (.cells #[o0, o1] 42 (0, 0))) → ∀ y0 y1 : Value, RefW B ((W.setCell ⟨w.heap.size, 0, none⟩ y0).setCell ⟨w.heap.size, 1, none⟩ y1) rv G' v (firstW S) ∧ Turns [rv] w ((W.setCell ⟨w.heap.size, 0, none⟩ y0).setCell ⟨w.heap.size, 1, none⟩ y1) ∧ WRd ((W.setCell ⟨w.heap.size, 0, none⟩ y0).setCell ⟨w.heap.size, 1, none⟩ y1) G' r x) := Lib.hid (fun W v G' h1 h2 h3 h4 h5 y0 y1 => by
      have ht : Turns [w.heap.size] W ((W.setCell ⟨w.heap.size, 0, none⟩ y0).setCell ⟨w.heap.size, 1, none⟩ y1) := (Turns.setCell _ _ _ (by simp)).trans (Turns.setCell (F := [w.heap.size]) _ _ _ (by simp)) fun i hi => .inl hi
      have hne : ∀ i ∈ G', i ∉ [w.heap.size] := fun i hi hm => h4 i hi (by simpa using hm)
      exact ⟨h1.turns ht (by simp; have := HLT.out; omega) hne, h2.trans ht fun i hi => .inr (by rw [List.mem_singleton] at hi; omega), h3.turns ht hne⟩)
    have fx0 : W3.frozen? ⟨w.heap.size, 0, none⟩ = false := by simp [World.frozen?, HBX.out.1]
    have fx1 : W3.frozen? ⟨w.heap.size, 1, none⟩ = false := by simp [World.frozen?, HBX.out.1]
    have z0 : W3.cell? ⟨w.heap.size, 0, none⟩ = some (.int .i64 0) := by simp [World.cell?, HBX.out.1]
    have z1 : W3.cell? ⟨w.heap.size, 1, none⟩ = some (.slice none 0 0) := by simp [World.cell?, HBX.out.1]
    have hn1 : w.heap.size + 1 ≠ rv := by omega
    have hn2 : w.heap.size ≠ rv := by omega
    have HFH : Hid (∀ (W : World), W.heap[w.heap.size]? = some (.cells #[.int .i64 0, .slice none 0 0] 42 (0, 0)) → ∀ y0 y1 : Value, ((W.setCell ⟨w.heap.size, 0, none⟩ y0).setCell ⟨w.heap.size, 1, none⟩ y1).heap[w.heap.size]? = some (.cells #[y0, y1] 42 (0, 0))) := Lib.hid (fun W h y0 y1 => by
      have h1 := heap_setCell_same W w.heap.size 0 _ _ y0 h
      have h2 := heap_setCell_same _ w.heap.size 1 _ _ y1 h1
      exact h2)
    by_cases hfl : S.floor < x.num
    · have d : decide (S.floor < x.num) = true := by simpa using hfl
      have HFA : Hid (∀ n, RefW B ((W3.drewN n).setCell ⟨rv, 4, none⟩ (.int .i64 x.num)) rv G3 v3 (firstW S) ∧ Turns [rv] w ((W3.drewN n).setCell ⟨rv, 4, none⟩ (.int .i64 x.num)) ∧ WRd ((W3.drewN n).setCell ⟨rv, 4, none⟩ (.int .i64 x.num)) G3 r x ∧ ((W3.drewN n).setCell ⟨rv, 4, none⟩ (.int .i64 x.num)).heap[w.heap.size]? = some (.cells #[.int .i64 0, .slice none 0 0] 42 (0, 0))) := Lib.hid (fun n => by
        have hd : Turns [] W3 (W3.drewN n) := (Turns.refl [] W3).drewN n
        have hs : Turns [rv] (W3.drewN n) ((W3.drewN n).setCell ⟨rv, 4, none⟩ (.int .i64 x.num)) := Turns.setCell _ _ _ (by simp)
        have hlw := HLT.out
        rw [HFW.out, if_pos hfl]
        refine ⟨(HE.out.1.pre hd).put 4 _ rfl rfl, (HE.out.2.1.then (hd.mono (by simp))).trans hs fun i hi => .inl hi, (HE.out.2.2.1.turns hd (by simp)).turns hs fun i hi hm => HE.out.1.ne (by rw [List.mem_singleton] at hm; rw [← hm]; exact hi), ?_⟩
        exact (hs.block w.heap.size (lt_of_block ((hd.block w.heap.size (lt_of_block HBX.out.1) (by simp)).trans HBX.out.1)) (by simp; omega)).trans ((hd.block w.heap.size (lt_of_block HBX.out.1) (by simp)).trans HBX.out.1))
      clear hfl
      go_wp2_with fail
      go_quiet (fail)
      go_wp2
      have ha := HFA.out nq
      refine bodyPost_ret (results_cell_row (P := Try.prog) rfl _ _ w.heap.size 42 #[.int .i64 x.num, .slice r.A x.cr.length r.c] (0, 0) _ rfl (HFH.out _ ha.2.2.2 _ _) wn_struct rfl (by kernel_rfl)) rfl ?_
      obtain ⟨q1, q2, q3⟩ := HFN.out _ v3 G3 ha.1 ha.2.1 ha.2.2.1 HE.out.2.2.2.2.1 ⟨_, _, ha.2.2.2⟩ (.int .i64 x.num) (.slice r.A x.cr.length r.c)
      exact ⟨r, v3, G3, rfl, q3, q1, q2, HE.out.2.2.2.2.2, HE.out.2.2.2.1⟩
    · have d : decide (S.floor < x.num) = false := by simpa using hfl
      have HFA : Hid (∀ n, RefW B (W3.drewN n) rv G3 v3 (firstW S) ∧ Turns [rv] w (W3.drewN n) ∧ WRd (W3.drewN n) G3 r x ∧ (W3.drewN n).heap[w.heap.size]? = some (.cells #[.int .i64 0, .slice none 0 0] 42 (0, 0))) := Lib.hid (fun n => by
        have hd : Turns [] W3 (W3.drewN n) := (Turns.refl [] W3).drewN n
        rw [HFW.out, if_neg hfl]
        exact ⟨HE.out.1.pre hd, HE.out.2.1.then (hd.mono (by simp)), HE.out.2.2.1.turns hd (by simp), (hd.block w.heap.size (lt_of_block HBX.out.1) (by simp)).trans HBX.out.1⟩)
      clear hfl
      go_wp2_with fail
      go_quiet (fail)
      go_wp2
      have ha := HFA.out nq
      refine bodyPost_ret (results_cell_row (P := Try.prog) rfl _ _ w.heap.size 42 #[.int .i64 x.num, .slice r.A x.cr.length r.c] (0, 0) _ rfl (HFH.out _ ha.2.2.2 _ _) wn_struct rfl (by kernel_rfl)) rfl ?_
      obtain ⟨q1, q2, q3⟩ := HFN.out _ v3 G3 ha.1 ha.2.1 ha.2.2.1 HE.out.2.2.2.2.1 ⟨_, _, ha.2.2.2⟩ (.int .i64 x.num) (.slice r.A x.cr.length r.c)
      exact ⟨r, v3, G3, rfl, q3, q1, q2, HE.out.2.2.2.2.2, HE.out.2.2.2.1⟩
end Go.Proofs.Ytjkkpdflijjllaa
