/- How timers stand: the program's compare, and the library's sort by it. -/
import Derived.Test.YtaepgcicgmbbeaaWhMem
import Derived.Test.YtaepgcicgmbbeaaShelf
import Derived.Deep.RegionLaw
namespace Go.Proofs.Ytaepgcicgmbbeaa
open Go.RowKit Go.Sort Go.Shelf

def cmpI (a b : Int) : Int := if a < b then -1 else if b < a then 1 else 0
def cfF (x y : Fi) : Int := if cmpI x.2 y.2 ≠ 0 then cmpI x.2 y.2 else cmpI x.1 y.1
theorem ltOf_cfF (x y : Fi) : ltOf cfF x y = ltF x y := by
  unfold ltOf ltF cfF cmpI
  by_cases h1 : x.2 < y.2
  · simp [h1]
  · by_cases h2 : y.2 < x.2
    · have : ¬ (x.2 = y.2) := by omega
      simp [h1, h2, this]
    · have e : x.2 = y.2 := by omega
      by_cases h3 : x.1 < y.1
      · simp [e, h3]
      · by_cases h4 : y.1 < x.1
        · simp [e, h3, h4]
        · simp [e, h3, h4]
instance : Inhabited Fi := ⟨(0, 0)⟩
theorem swoF : SWO (ltOf cfF) where
  irrefl x := by rw [ltOf_cfF]; exact ltF_irrefl _
  trans x y z h1 h2 := by rw [ltOf_cfF] at *; exact ltF_trans h1 h2
  ntrans x y z h1 h2 := by
    rw [ltOf_cfF] at *
    unfold ltF at *
    rw [decide_eq_false_iff_not] at *
    omega
set_option maxHeartbeats 400000 in
theorem nanL_any (a : Int) (w : World) : Calls Try.prog 40 #[.int .i64 a] w fun e w' => e = .returned (.bool false) ∧ w = w' := by
  go_enter Try.func40, Try.ntmps40
  go_wp2
  go_ret
  exact ⟨by simp, rfl⟩
set_option maxHeartbeats 400000 in
theorem nanI_any (a : Int) (w : World) : Calls Try.prog 41 #[.int .i64 a] w fun e w' => e = .returned (.bool false) ∧ w = w' := by
  go_enter Try.func41, Try.ntmps41
  go_wp2
  go_ret
  exact ⟨by simp, rfl⟩
set_option maxHeartbeats 1000000 in
theorem cmpL_any (a b : Int) (w : World) : Calls Try.prog 36 #[.int .i64 a, .int .i64 b] w fun e w' => e = .returned (.int .i64 (cmpI a b)) ∧ w = w' := by
  have hn := fun x W => Lib.hid (nanL_any x W)
  unfold cmpI
  by_cases h1 : a < b
  · rw [if_pos h1]
    go_enter Try.func36, Try.ntmps36
    go_wp2_with (go_at_call 40; refine (Hid.out (hn _ _)).mono ?_; rintro e w' ⟨rfl, rfl⟩)
    go_ret
    exact ⟨rfl, rfl⟩
  · rw [if_neg h1]
    have e1 : decide (a < b) = false := by simpa using h1
    by_cases h2 : b < a
    · rw [if_pos h2]
      go_enter Try.func36, Try.ntmps36
      go_wp2_with (go_at_call 40; refine (Hid.out (hn _ _)).mono ?_; rintro e w' ⟨rfl, rfl⟩)
      go_ret
      exact ⟨rfl, rfl⟩
    · rw [if_neg h2]
      have e2 : decide (b < a) = false := by simpa using h2
      go_enter Try.func36, Try.ntmps36
      go_wp2_with (go_at_call 40; refine (Hid.out (hn _ _)).mono ?_; rintro e w' ⟨rfl, rfl⟩)
      go_ret
      exact ⟨rfl, rfl⟩
set_option maxHeartbeats 1000000 in
theorem cmpI_any (a b : Int) (w : World) : Calls Try.prog 37 #[.int .i64 a, .int .i64 b] w fun e w' => e = .returned (.int .i64 (cmpI a b)) ∧ w = w' := by
  have hn := fun x W => Lib.hid (nanI_any x W)
  unfold cmpI
  by_cases h1 : a < b
  · rw [if_pos h1]
    go_enter Try.func37, Try.ntmps37
    go_wp2_with (go_at_call 41; refine (Hid.out (hn _ _)).mono ?_; rintro e w' ⟨rfl, rfl⟩)
    go_ret
    exact ⟨rfl, rfl⟩
  · rw [if_neg h1]
    have e1 : decide (a < b) = false := by simpa using h1
    by_cases h2 : b < a
    · rw [if_pos h2]
      go_enter Try.func37, Try.ntmps37
      go_wp2_with (go_at_call 41; refine (Hid.out (hn _ _)).mono ?_; rintro e w' ⟨rfl, rfl⟩)
      go_ret
      exact ⟨rfl, rfl⟩
    · rw [if_neg h2]
      have e2 : decide (b < a) = false := by simpa using h2
      go_enter Try.func37, Try.ntmps37
      go_wp2_with (go_at_call 41; refine (Hid.out (hn _ _)).mono ?_; rintro e w' ⟨rfl, rfl⟩)
      go_ret
      exact ⟨rfl, rfl⟩
set_option maxHeartbeats 1000000 in
theorem or_any (p : Nat) (a b : Int) (w : World) (h0 : w.cell? ⟨p, 0, none⟩ = some (.int .i64 a)) (h1 : w.cell? ⟨p, 1, none⟩ = some (.int .i64 b)) :
    Calls Try.prog 35 #[.slice (some ⟨p, 0, none⟩) 2 2] w fun e w' => e = .returned (.int .i64 (if a ≠ 0 then a else b)) ∧ w = w' := by
  by_cases ha : a = 0
  · subst ha
    rw [if_neg (by simp)]
    by_cases hb : b = 0
    · subst hb
      go_enter Try.func35, Try.ntmps35
      go_wp2
      refine wp_loop_rounds 3 ?_
      rw [rounds_succ]
      go_wp2
      rw [rounds_succ]
      go_wp2
      rw [rounds_succ]
      go_wp2
      go_ret
      exact ⟨rfl, rfl⟩
    · have e1 : (b != 0) = true := by simpa using hb
      go_enter Try.func35, Try.ntmps35
      go_wp2
      refine wp_loop_rounds 2 ?_
      rw [rounds_succ]
      go_wp2
      rw [rounds_succ]
      go_wp2
      go_ret
      exact ⟨rfl, rfl⟩
  · rw [if_pos ha]
    have e1 : (a != 0) = true := by simpa using ha
    go_enter Try.func35, Try.ntmps35
    go_wp2
    refine wp_loop_rounds 1 ?_
    rw [rounds_succ]
    go_wp2
    go_ret
    exact ⟨rfl, rfl⟩
theorem grown3 (w : World) (a b c : Obj) : ∃ q os', ((((w.alloc a).alloc b).alloc c).drew) = grow (w.drewN q) os' := by
  refine ⟨1, #[a] ++ #[b] ++ #[c], ?_⟩
  rw [alloc_eq_grow, alloc_eq_grow, alloc_eq_grow, grow_grow, grow_grow]
  rfl
set_option maxRecDepth 100000 in
set_option maxHeartbeats 4000000 in
theorem compare_any (x y : Fi) (w : World) : Calls Try.prog 31 #[.agg #[.int .i64 x.1, .int .i64 x.2], .agg #[.int .i64 y.1, .int .i64 y.2]] w fun e w' => e = .returned (.int .i64 (cfF x y)) ∧ ∃ q os', w' = grow (w.drewN q) os' := by
  have HL := Lib.hid (fun W => cmpL_any x.2 y.2 W)
  have HI := Lib.hid (fun W => cmpI_any x.1 y.1 W)
  unfold cfF
  generalize cmpI x.2 y.2 = a at HL ⊢
  generalize cmpI x.1 y.1 = b at HI ⊢
  have HO := Lib.hid (fun p W h0 h1 => or_any p a b W h0 h1)
  generalize (if a ≠ 0 then a else b) = r at HO ⊢
  obtain ⟨W, hW⟩ : ∃ W, W = (w.alloc (.cells #[.int .i64 x.1, .int .i64 x.2] 44)).alloc (.cells #[.int .i64 y.1, .int .i64 y.2] 44) := ⟨_, rfl⟩
  have p0 : W.cell? ⟨w.heap.size, 0, none⟩ = some (.int .i64 x.1) := by rw [hW]; simp
  have p1 : W.cell? ⟨w.heap.size, 1, none⟩ = some (.int .i64 x.2) := by rw [hW]; simp
  have p2 : W.cell? ⟨w.heap.size + 1, 0, none⟩ = some (.int .i64 y.1) := by rw [hW]; simp
  have p3 : W.cell? ⟨w.heap.size + 1, 1, none⟩ = some (.int .i64 y.2) := by rw [hW]; simp
  have HW := Lib.hid hW
  have HQ : Hid (∀ C, ((W.alloc (.cells #[.int .i64 a, .int .i64 b] C)).drew).cell? ⟨W.heap.size, 0, none⟩ = some (.int .i64 a) ∧ ((W.alloc (.cells #[.int .i64 a, .int .i64 b] C)).drew).cell? ⟨W.heap.size, 1, none⟩ = some (.int .i64 b)) := Lib.hid (fun C => ⟨by simp, by simp⟩)
  go_enter Try.func31, Try.ntmps31
  go_wp2
  rw [← hW]
  clear hW
  go_region_law (first | (go_simp; go_at_call 36; refine (HL.out _).mono ?_; rintro e w1 ⟨rfl, rfl⟩) | (go_simp; go_at_call 37; refine (HI.out _).mono ?_; rintro e w1 ⟨rfl, rfl⟩) | (go_simp; go_at_call 35; refine (HO.out _ _ (HQ.out _).1 (HQ.out _).2).mono ?_; rintro e w1 ⟨rfl, rfl⟩))
  all_goals
    clear HL HI HO HQ p0 p1 p2 p3
    go_wp2
    go_ret
    refine ⟨rfl, ?_⟩
    rw [HW.out]
    exact grown3 w _ _ _
theorem cmpLays (blk off size : Nat) (w : World) : CmpLays Try.prog 31 #[] fK.enc 2 cfF blk off size w :=
  fun _ _ _ _ x y => compare_any x y _
theorem isAggFi (w : World) : (isAgg 44).run Try.prog w = .ok true w := by kernel_rfl
theorem sizeFi (w : World) : (Go.sizeOf 44).run Try.prog w = .ok 2 w := by kernel_rfl

theorem flatK_at (l : List Fi) (t : Nat) (ht : t < l.length * 2) : (flatK fK.enc 2 l.toArray)[t]? = (fK.flat l)[t]? := by
  have h2 : t / 2 < l.length := by omega
  have hx : l[t / 2]? = some l[t / 2] := List.getElem?_eq_getElem h2
  have hg : l.toArray[t / 2]! = l[t / 2] := by simp [getElem!_pos, h2]
  have hk := get_flatK fK.enc 2 l.toArray t (by simpa using ht)
  rw [hg] at hk
  have hs : (flatK fK.enc 2 l.toArray)[t]? = some ((flatK fK.enc 2 l.toArray)[t]!) := by
    rw [getElem!_pos _ t (by simpa using ht)]
    exact Array.getElem?_eq_getElem _
  rw [hs, hk]
  obtain ⟨e1, e2⟩ := fK_flat_at hx
  generalize l[t / 2] = x at *
  have hd := Nat.div_add_mod t 2
  rcases Nat.mod_two_eq_zero_or_one t with h0 | h1
  · rw [h0]
    rw [show t / 2 * 2 = t by omega] at e1
    rw [e1]; rfl
  · rw [h1]
    rw [show t / 2 * 2 + 1 = t by omega] at e2
    rw [e2]; rfl
theorem flatK_eq (l : List Fi) : flatK fK.enc 2 l.toArray = (fK.flat l).toArray := by
  apply Array.ext'
  apply List.ext_getElem?
  intro t
  rw [Array.getElem?_toList]
  simp only [List.toList_toArray]
  have hf : (fK.flat l).length = l.length * 2 := EK.flat_len fOk l
  rcases Nat.lt_or_ge t (l.length * 2) with h | h
  · exact flatK_at l t h
  · rw [Array.getElem?_eq_none (by simpa using h), List.getElem?_eq_none (by rw [hf]; exact h)]
theorem own_holds {B : Nat} {w : World} {g cap : Nat} {l : List Fi} (h : fK.Own B w (.slice (some ⟨g, 0, none⟩) l.length cap) l) : HoldsK fK.enc 2 w g 0 l.toArray := by
  have hc := World.ownsRow.cells h (g := g) rfl
  rcases h.2 with ⟨h1, _⟩ | ⟨g', cap', cur, h1, hb, hg, hn, hm, hs, ht⟩
  · cases h1
  · injection h1 with e1 _ e3
    injection e1 with e1
    injection e1 with e1
    subst e1
    unfold HoldsK
    rw [flatK_eq]
    intro j hj
    have hj' : j < (fK.flat l).length := by simpa using hj
    refine ⟨?_, by simp [World.frozen?, hg]⟩
    have := hc j _ (List.getElem?_eq_getElem hj')
    rw [add_plain'] at this
    rw [this]
    simp [getElem!_pos, hj']
theorem take_putCells {cur : Array Value} {F : List Value} (h : F.length ≤ cur.size) : (putCells id 0 F.toArray cur).toList.take F.length = F := by
  apply List.ext_getElem?
  intro j
  by_cases hj : j < F.length
  · rw [List.getElem?_take_of_lt hj, Array.getElem?_toList]
    simp [putCells, hj, show j < cur.size by omega]
  · rw [List.getElem?_take_eq_none (by omega), List.getElem?_eq_none (by omega)]
theorem own_sorted {B : Nat} {w : World} {g cap : Nat} {l l' : List Fi} (h : fK.Own B w (.slice (some ⟨g, 0, none⟩) l.length cap) l) (hl : l'.length = l.length) (q : Nat) (os : Array Obj) :
    fK.Own B (sortWorldK fK.enc 2 w g 0 q l'.toArray os) (.slice (some ⟨g, 0, none⟩) l.length cap) l' ∧ Turns [g] w (sortWorldK fK.enc 2 w g 0 q l'.toArray os) := by
  rcases h.2 with ⟨h1, _⟩ | ⟨g', cap', cur, h1, hb, hg, hn, hm, hs, ht⟩
  · cases h1
  · injection h1 with e1 _ e3
    injection e1 with e1
    injection e1 with e1
    subst e1 e3
    have hgl : g < w.heap.size := (Array.getElem?_eq_some_iff.1 hg).1
    have hfl : (fK.flat l').length = l.length * 2 := by rw [EK.flat_len fOk, hl]; rfl
    have hheap : (sortWorldK fK.enc 2 w g 0 q l'.toArray os).heap[g]? = some (.cells (putCells id 0 (fK.flat l').toArray cur) 44 (0, 0)) := by
      unfold sortWorldK putRowK
      rw [flatK_eq, heap_grow_old _ _ (by simpa [putRow, mapBlock, Sort.ahead] using hgl)]
      simp [putRow, mapBlock, Sort.ahead, Array.getElem?_modify, hg, onCells]
      rfl
    refine ⟨⟨EK.flat_len fOk l', .inr ⟨g, cap, _, by rw [hl], hb, hheap, by rw [hl]; exact hn, hm, by simpa [putCells] using hs, ?_⟩⟩, ?_⟩
    · show (putCells id 0 (fK.flat l').toArray cur).toList.take (l'.length * 2) = _
      rw [hl, ← hfl]
      exact take_putCells (by rw [hfl]; have hs' : cur.size = cap * 2 := hs; rw [hs']; exact Nat.mul_le_mul_right _ hn)
    · refine ⟨rfl, rfl, rfl, by simp [sortWorldK, putRowK, putRow, mapBlock, Sort.ahead], fun k hk hkg => ?_⟩
      unfold sortWorldK putRowK
      have hkg' : g ≠ k := fun e => hkg (by simp [e])
      rw [heap_grow_old _ _ (by simpa [putRow, mapBlock, Sort.ahead] using hk)]
      simp [putRow, mapBlock, Sort.ahead, Array.getElem?_modify, hkg']
theorem perm_list {d d' : Array Fi} (h : PermIn 0 d.size d d') : d'.toList.Perm d.toList := by
  have h1 := h.2.2
  have h2 := h.1
  have e1 : d'.extract 0 d.size = d' := by rw [← h2]; simp
  have e2 : d.extract 0 d.size = d := by simp
  rwa [e1, e2] at h1
/-- slices.SortFunc by compare: timers of numbers of their own. -/
theorem sort_any {B : Nat} (v : Value) (l : List Fi) (w : World) (hl : l.length ≤ 1000) (h : fK.Own B w v l) (hi : Ids l) (hv : l ≠ []) :
    Calls Try.prog 34 #[v, .func (.func 31) #[] #[]] w fun e w' =>
      e = .returned (.tuple #[]) ∧ ∃ l', l'.Perm l ∧ Srt l' ∧ fK.Own B w' v l' ∧ Turns (ownB v) w w' := by
  rcases h.form with ⟨_, h0⟩ | ⟨g, cap, rfl, _, hgl, _⟩
  · exact absurd h0 hv
  have eg : ∀ args w, (callFunc 31 args).run Try.prog w = .ok (.enter 31 args) w := enters_of Try.func31 (by kernel_rfl) rfl
  have hcon := AnyQ.slices_SortFunc Try.sortFi 2 isAggFi sizeFi fK.enc (fun _ => rfl) (fun x v hv => fOk.one x v hv) cfF swoF 31 #[] g 0 cap l.toArray w eg (cmpLays g 0 _ w) (own_holds h) hgl (by simp; omega)
  refine hcon.mono ?_
  rintro e w' ⟨rfl, d', q, os, hp, hs, rfl⟩
  have hsz : d'.size = l.length := by simpa using hp.1
  have hw := own_sorted h (l' := d'.toList) (by simpa using hsz) q os
  have hpl : d'.toList.Perm l := by simpa using perm_list hp
  refine ⟨rfl, d'.toList, hpl, ?_, by simpa using hw.1, by simpa [ownB, Value.ownBlock] using hw.2⟩
  have hid := Ids.perm hi hpl.symm
  unfold Srt
  unfold Ids at hid
  rw [List.pairwise_iff_getElem] at hid ⊢
  intro i j hi' hj' hij
  have h1 := hid i j hi' hj' hij
  have h2 := hs i j (Nat.zero_le _) hij (by simpa [hsz] using hj')
  rw [ltOf_cfF] at h2
  simp only [Array.length_toList] at hi' hj'
  rw [getElem!_pos d' j hj', getElem!_pos d' i hi'] at h2
  cases h3 : ltF d'.toList[i] d'.toList[j] with
  | true => rfl
  | false => exact absurd (congrArg Prod.fst (ltF_total h3 h2)) h1
end Go.Proofs.Ytaepgcicgmbbeaa
