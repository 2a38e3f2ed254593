/- The program's tell. -/
import Derived.Test.YtlelemjmknbnaaaGreatDoorHeadCloses
import Derived.Deep.RegionWith
import Derived.Deep.RegionHeld3
namespace Go.Proofs.YtlelemjmknbnaaaGreatDoor
open Go.RowKit

def HdV (h : Hd) : Value := .agg #[.int .i64 (h.status : Int), .int .i64 h.length, .bool h.chunked, .bool h.close]
def zeroH : Value := .agg #[.int .i64 0, .int .i64 0, .bool false, .bool false]
def TlP (r : Hd ⊕ Nat) : Ending := match r with
  | .inr e => .returned (.tuple #[zeroH, .int .i64 (e : Int)])
  | .inl h => .returned (.tuple #[HdV h, .int .i64 0])
/-- The result's cells are as they were made. -/
structure RQ (w W : World) : Prop where
  head : W.heap[w.heap.size]? = some (.cells #[.int .i64 0, .int .i64 0, .bool false, .bool false] 35 (0, 0))
  below : Below w.heap.size w W
theorem RQ.step {w W W' : World} (h : RQ w W) {B : Nat} (hB : w.heap.size < B) (hb : Below B W W') : RQ w W' := ⟨(hb.block _ hB).trans h.head, h.below.trans (hb.mono (Nat.le_of_lt hB))⟩
theorem RQ.lt {w W : World} (h : RQ w W) : w.heap.size < W.heap.size := lt_of_block h.head
theorem RQ.next {w W W' : World} (h : RQ w W) (hb : Below W.heap.size W W') : RQ w W' := h.step h.lt hb
theorem rq_made (w : World) : RQ w (w.alloc (.cells #[.int .i64 0, .int .i64 0, .bool false, .bool false] 35)) := ⟨heap_alloc_new w _, below_alloc (Nat.le_refl _) _⟩
theorem RQ.cells {w W : World} (h : RQ w W) : W.cell? ⟨w.heap.size, 0, none⟩ = some (.int .i64 0) ∧ W.cell? ⟨w.heap.size, 1, none⟩ = some (.int .i64 0) ∧ W.cell? ⟨w.heap.size, 2, none⟩ = some (.bool false) ∧ W.cell? ⟨w.heap.size, 3, none⟩ = some (.bool false) ∧ ∀ j, W.frozen? ⟨w.heap.size, j, none⟩ = false := read_cells h.head
/-- The head that is told lies at H. -/
structure R3 (w : World) (H : Nat) (a b c d : Value) (W : World) : Prop where
  rq : RQ w W
  head : W.heap[H]? = some (.cells #[a, b, c, d] 35 (0, 0))
theorem R3.next {w W W' : World} {H : Nat} {a b c d : Value} (h : R3 w H a b c d W) (hb : Below W.heap.size W W') : R3 w H a b c d W' := ⟨h.rq.next hb, (hb.block _ (lt_of_block h.head)).trans h.head⟩
theorem R3.drew {w W : World} {H : Nat} {a b c d : Value} (h : R3 w H a b c d W) : R3 w H a b c d W.drew := ⟨⟨h.rq.head, h.rq.below.drew⟩, h.head⟩
theorem r3_made {w W : World} (h : RQ w W) (a b c d : Value) : R3 w W.heap.size a b c d (W.alloc (.cells #[a, b, c, d] 35)) := ⟨h.next (below_alloc (Nat.le_refl _) _), heap_alloc_new W _⟩
theorem mx_up {w W : World} (h : MX w) (hb : Below w.heap.size w W) : MX W := h.grown hb
theorem tell_len {old : Bool} {st : Nat} {fs : List Fld} {ls cs : List (List UInt8)} (h1 : valuesL tLen fs = ls) (h2 : valuesL tCod fs = cs) (h : agreeL ls = false ∨ (0 < ls.length ∧ 0 < cs.length)) : tellL old st fs = .inr 11 := by
  unfold tellL
  simp only []
  rw [h1, h2, if_pos h]
theorem tell_chunk {old : Bool} {st : Nat} {fs : List Fld} {ls cs : List (List UInt8)} (h1 : valuesL tLen fs = ls) (h2 : valuesL tCod fs = cs) (h : ¬ (agreeL ls = false ∨ (0 < ls.length ∧ 0 < cs.length))) (hc : 0 < cs.length ∧ (old = true ∨ 1 < cs.length ∨ smallL (cs.headD []) ≠ tChunked)) : tellL old st fs = .inr 12 := by
  unfold tellL
  simp only []
  rw [h1, h2, if_neg h, if_pos hc]
theorem tell_yes {old : Bool} {st : Nat} {fs : List Fld} {ls cs vs : List (List UInt8)} (h1 : valuesL tLen fs = ls) (h2 : valuesL tCod fs = cs) (h3 : valuesL tCon fs = vs) (h : ¬ (agreeL ls = false ∨ (0 < ls.length ∧ 0 < cs.length))) (hc : ¬ (0 < cs.length ∧ (old = true ∨ 1 < cs.length ∨ smallL (cs.headD []) ≠ tChunked))) :
    tellL old st fs = .inl ⟨st, if 0 < ls.length then (numL (ls.headD []) : Int) else -1, decide (0 < cs.length), (decide ((if 0 < ls.length then (numL (ls.headD []) : Int) else -1) < 0) && !decide (0 < cs.length)) || closesL vs old⟩ := by
  unfold tellL
  simp only []
  rw [h1, h2, h3, if_neg h, if_neg hc]
theorem valuesL_mem {nm x : List UInt8} {fs : List Fld} (h : x ∈ valuesL nm fs) : ∃ f ∈ fs, f.2 = x := by
  unfold valuesL at h
  obtain ⟨f, hf, rfl⟩ := List.mem_map.1 h
  exact ⟨f, (List.mem_filter.1 hf).1, rfl⟩
theorem agree_num {ls : List (List UInt8)} (h : agreeL ls = true) (h0 : 0 < ls.length) : isNum 1 15 (ls.headD []) = true := by
  unfold agreeL at h
  rw [List.all_eq_true] at h
  cases ls with
  | nil => simp at h0
  | cons a l =>
    have := h a (List.mem_cons_self ..)
    rw [Bool.and_eq_true] at this
    exact this.2
theorem headD_at {ls : List (List UInt8)} (h0 : 0 < ls.length) : ls[0]? = some (ls.headD []) := by
  cases ls with
  | nil => simp at h0
  | cons a l => rfl
set_option maxRecDepth 100000 in
set_option maxHeartbeats 3000000 in
theorem tell_any (w : World) (p : Nat) (old : Bool) (st sz : Nat) (v : Value) (fs : List Fld) (h : Lin0 w p old st v fs sz) (hfs : fs.length ≤ 64) (hz : ∀ f ∈ fs, f.2.length ≤ 1000000) (hm : MX w) :
    Calls Tryz.prog 36 #[.pointer (some ⟨p, 0, none⟩)] w fun e w' => e = TlP (tellL old st fs) ∧ Below w.heap.size w w' := by
  have HV : Hid (∀ (W : World) (nm : List UInt8), Hid (RQ w W) → Calls Tryz.prog 42 #[.pointer (some ⟨p, 0, none⟩), .string ⟨nm.toArray⟩] W fun e w' => (∃ v', e = .returned v' ∧ sK.Own W.heap.size w' v' (valuesL nm fs)) ∧ Below W.heap.size W w') := Lib.hid (fun W nm hq => values_any nm W p old st sz v fs (h.below hq.out.below) hfs)
  have HV1 : Hid (∀ (W : World), Hid (RQ w W) → Calls Tryz.prog 42 #[.pointer (some ⟨p, 0, none⟩), .string ⟨#[99, 111, 110, 116, 101, 110, 116, 45, 108, 101, 110, 103, 116, 104]⟩] W fun e w' => (∃ v', e = .returned v' ∧ sK.Own W.heap.size w' v' (valuesL tLen fs)) ∧ Below W.heap.size W w') := Lib.hid (fun W hq => HV.out W tLen hq)
  have HV2 : Hid (∀ (W : World), Hid (RQ w W) → Calls Tryz.prog 42 #[.pointer (some ⟨p, 0, none⟩), .string ⟨#[116, 114, 97, 110, 115, 102, 101, 114, 45, 101, 110, 99, 111, 100, 105, 110, 103]⟩] W fun e w' => (∃ v', e = .returned v' ∧ sK.Own W.heap.size w' v' (valuesL tCod fs)) ∧ Below W.heap.size W w') := Lib.hid (fun W hq => HV.out W tCod hq)
  have HV3 : Hid (∀ (W : World), Hid (RQ w W) → Calls Tryz.prog 42 #[.pointer (some ⟨p, 0, none⟩), .string ⟨#[99, 111, 110, 110, 101, 99, 116, 105, 111, 110]⟩] W fun e w' => (∃ v', e = .returned v' ∧ sK.Own W.heap.size w' v' (valuesL tCon fs)) ∧ Below W.heap.size W w') := Lib.hid (fun W hq => HV.out W tCon hq)
  have HLC : Hid (∀ W, Hid (RQ w W) → W.cell? ⟨p, 0, none⟩ = some (.bool old) ∧ W.cell? ⟨p, 1, none⟩ = some (.int .i64 (st : Int))) := Lib.hid (fun W hq => ⟨(h.below hq.out.below).cells.1, (h.below hq.out.below).cells.2.1⟩)
  have HMX := Lib.hid hm
  have HVL : Hid (∀ nm, (valuesL nm fs).length ≤ 64 ∧ ∀ x ∈ valuesL nm fs, x.length ≤ 1000000) := Lib.hid (fun nm => ⟨Nat.le_trans (valuesL_len nm fs) hfs, fun x hx => by obtain ⟨f, hf, rfl⟩ := valuesL_mem hx; exact hz f hf⟩)
  have HQ0 := Lib.hid (rq_made w)
  obtain ⟨ls, hls⟩ : ∃ ls, ls = valuesL tLen fs := ⟨_, rfl⟩
  obtain ⟨cs, hcs⟩ : ∃ cs, cs = valuesL tCod fs := ⟨_, rfl⟩
  obtain ⟨vs, hvs⟩ : ∃ vs, vs = valuesL tCon fs := ⟨_, rfl⟩
  obtain ⟨TL, hTL⟩ : ∃ TL, TL = tellL old st fs := ⟨_, rfl⟩
  have HTA : Hid (agreeL ls = false ∨ (0 < ls.length ∧ 0 < cs.length) → TL = .inr 11) := Lib.hid (fun x => hTL ▸ tell_len hls.symm hcs.symm x)
  have HTB : Hid (¬ (agreeL ls = false ∨ (0 < ls.length ∧ 0 < cs.length)) → 0 < cs.length ∧ (old = true ∨ 1 < cs.length ∨ smallL (cs.headD []) ≠ tChunked) → TL = .inr 12) := Lib.hid (fun x y => hTL ▸ tell_chunk hls.symm hcs.symm x y)
  have HTC := Lib.hid (fun x y => hTL.trans (tell_yes (old := old) (st := st) hls.symm hcs.symm hvs.symm x y))
  have HLS := Lib.hid (hls ▸ HVL.out tLen)
  have HCS := Lib.hid (hcs ▸ HVL.out tCod)
  have HVS := Lib.hid (hvs ▸ HVL.out tCon)
  rw [← hls] at HV1
  rw [← hcs] at HV2
  rw [← hvs] at HV3
  rw [← hTL]
  clear hls hcs hvs hTL HV hm hz hfs h HVL
  go_enter Tryz.func36, Tryz.ntmps36
  go_wp2_with fail
  refine (HV1.out _ HQ0).mono ?_
  rintro e w1 ⟨⟨v1, rfl, ho1⟩, hb1⟩
  have HQ1 := Lib.hid (HQ0.out.next hb1)
  have HO1 := Lib.hid ho1
  clear ho1 hb1 HV1 HQ0
  go_wp2_with fail
  refine (HV2.out _ HQ1).mono ?_
  rintro e w2 ⟨⟨v2, rfl, ho2⟩, hb2⟩
  have HQ2 := Lib.hid (HQ1.out.next hb2)
  have HO1b := Lib.hid (HO1.out.below hb2)
  obtain ⟨A1, c1, rfl, hr1, hc1, -⟩ := HO1b.out.reads
  obtain ⟨A2, c2, rfl, hr2, hc2, -⟩ := ho2.reads
  have HR1 := Lib.hid hr1
  have HR2 := Lib.hid hr2
  have HAG := Lib.hid (agree_any hr1 hc1 HLS.out.1 HLS.out.2)
  have hl1 := HLS.out.1
  have hl2 := HCS.out.1
  clear ho2 hb2 HV2 HO1 hr1 hr2
  obtain ⟨q0, q1, q2, q3, qf⟩ := read_cells HQ2.out.head
  have f0 := qf 0
  have f1 := qf 1
  have f2 := qf 2
  have f3 := qf 3
  clear qf
  obtain ⟨p0, p1⟩ := HLC.out _ HQ2
  cases hag : agreeL ls with
  | false =>
    have HR := Lib.hid (HTA.out (.inl hag))
    rw [hag] at HAG
    obtain ⟨e0, e1, e2, e3⟩ := set4_cells HQ2.out.head (.int .i64 0) (.int .i64 0) (.bool false) (.bool false)
    have HBB := Lib.hid (HQ2.out.below.trans (set4_below (B := w.heap.size) w2 (Nat.le_refl _) (.int .i64 0) (.int .i64 0) (.bool false) (.bool false)))
    unfold set4 at e0 e1 e2 e3 HBB
    clear HTA HTB HTC hag
    go_wp2_with (go_at_call 43; refine (Hid.out HAG).mono ?_; rintro e w3 ⟨rfl, rfl⟩)
    exact bodyPost_ret (v := .tuple #[zeroH, .int .i64 11]) (by simp [results, Tryz.f36, go_sem, e0, e1, e2, e3, zeroH]) rfl ⟨by rw [HR.out]; rfl, HBB.out⟩
  | true =>
    rw [hag] at HAG
    by_cases hb : 0 < ls.length ∧ 0 < cs.length
    · have HR := Lib.hid (HTA.out (.inr hb))
      obtain ⟨e0, e1, e2, e3⟩ := set4_cells HQ2.out.head (.int .i64 0) (.int .i64 0) (.bool false) (.bool false)
      have HBB := Lib.hid (HQ2.out.below.trans (set4_below (B := w.heap.size) w2 (Nat.le_refl _) (.int .i64 0) (.int .i64 0) (.bool false) (.bool false)))
      unfold set4 at e0 e1 e2 e3 HBB
      have g1 : (0 : Int) < (ls.length : Int) := by omega
      have g2 : (0 : Int) < (cs.length : Int) := by omega
      obtain ⟨g3, g4⟩ := hb
      clear HTA HTB HTC hag
      go_wp2_with (go_at_call 43; refine (Hid.out HAG).mono ?_; rintro e w3 ⟨rfl, rfl⟩)
      exact bodyPost_ret (v := .tuple #[zeroH, .int .i64 11]) (by simp [results, Tryz.f36, go_sem, e0, e1, e2, e3, zeroH]) rfl ⟨by rw [HR.out]; rfl, HBB.out⟩
    · have hno : ¬ (agreeL ls = false ∨ (0 < ls.length ∧ 0 < cs.length)) := by rw [hag]; simpa using hb
      have HTB' := Lib.hid (HTB.out hno)
      have HTC' := Lib.hid (HTC.out hno)
      by_cases hcs0 : cs.length = 0
      · have HT := Lib.hid (HTC'.out (by omega))
        rw [hcs0] at HT ⊢
        by_cases hls0 : ls.length = 0
        · rw [hls0] at HT HAG ⊢
          have HR : Hid (TL = .inl ⟨st, -1, false, true⟩) := Lib.hid (by rw [HT.out]; rfl)
          have HQ3 := Lib.hid (r3_made HQ2.out (.int .i64 (st : Int)) (.int .i64 (-1)) (.bool false) (.bool true))
          obtain ⟨r0, r1, r2, r3, rf⟩ := HQ3.out.rq.cells
          have s0 := rf 0
          have s1 := rf 1
          have s2 := rf 2
          have s3 := rf 3
          obtain ⟨e0, e1, e2, e3⟩ := set4_cells HQ3.out.rq.head (.int .i64 (st : Int)) (.int .i64 (-1)) (.bool false) (.bool true)
          have HBB := Lib.hid (HQ3.out.rq.below.trans (set4_below (B := w.heap.size) _ (Nat.le_refl _) (.int .i64 (st : Int)) (.int .i64 (-1)) (.bool false) (.bool true)))
          unfold set4 at e0 e1 e2 e3 HBB
          clear rf
          clear HTA HTB HTC HTB' HTC' hno hb hag hcs0 hls0 HT
          go_wp2_with (go_at_call 43; refine (Hid.out HAG).mono ?_; rintro e w3 ⟨rfl, rfl⟩)
          go_region
          go_wp2
          exact bodyPost_ret (v := .tuple #[.agg #[.int .i64 (st : Int), .int .i64 (-1), .bool false, .bool true], .int .i64 0]) (by simp [results, Tryz.f36, go_sem, e0, e1, e2, e3]) rfl ⟨by rw [HR.out]; rfl, by first | exact HBB.out | exact HBB.out.drew⟩
        · have hl0 : 0 < ls.length := by omega
          have HNA := Lib.hid (fun o => number_any ⟨(ls.headD []).toArray⟩ (w2.alloc o) (isNum_more (agree_num hag hl0) (by omega)))
          change Hid (∀ o, Calls _ _ _ _ fun e w' => e = .returned (.int .i64 (numL (ls.headD []) : Int)) ∧ w2.alloc o = w') at HNA
          obtain ⟨gA, oA, hA1, hgA, hx0⟩ := sK_at HR1.out (headD_at hl0)
          subst hA1
          rw [Nat.add_zero] at hx0
          have HR : Hid (TL = .inl ⟨st, (numL (ls.headD []) : Int), false, closesL vs old⟩) := Lib.hid (by rw [HT.out, if_pos hl0, decide_eq_false (p := (numL (ls.headD []) : Int) < 0) (by omega)]; rfl)
          obtain ⟨x0, hxx⟩ : ∃ x0, x0 = ls.headD [] := ⟨_, rfl⟩
          rw [← hxx] at HNA HR hx0
          obtain ⟨nn, hnn⟩ : ∃ nn : Nat, nn = numL x0 := ⟨_, rfl⟩
          rw [← hnn] at HNA HR
          have hx0' : ∀ o, (w2.alloc o).cell? ⟨gA, oA, none⟩ = some (.string ⟨x0.toArray⟩) := fun o => (World.cell?_alloc_lt w2 o ⟨gA, oA, none⟩ hgA).trans hx0
          have hn1 : decide ((nn : Int) < 0) = false := by simp
          have g1 : (0 : Int) < (ls.length : Int) := by omega
          have HQ3 : Hid (∃ d, R3 w w2.heap.size (.int .i64 (st : Int)) (.int .i64 (nn : Int)) (.bool false) d (w2.alloc (.cells #[.int .i64 (st : Int), .int .i64 (nn : Int), .bool false, .bool false] 35))) := Lib.hid ⟨_, r3_made HQ2.out (.int .i64 (st : Int)) (.int .i64 (nn : Int)) (.bool false) (.bool false)⟩
          have HVC : Hid (∀ W, Hid (∃ d, R3 w w2.heap.size (.int .i64 (st : Int)) (.int .i64 (nn : Int)) (.bool false) d W) → Calls Tryz.prog 42 #[.pointer (some ⟨p, 0, none⟩), .string ⟨#[99, 111, 110, 110, 101, 99, 116, 105, 111, 110]⟩] W fun e w' => ∃ A c, e = .returned (.slice A vs.length c) ∧ Hid (sK.Reads w' w'.heap.size A vs ∧ vs.length ≤ c) ∧ Hid (∃ d, R3 w w2.heap.size (.int .i64 (st : Int)) (.int .i64 (nn : Int)) (.bool false) d w')) := Lib.hid (fun W hq => (HV3.out W (Lib.hid hq.out.choose_spec.rq)).mono (by rintro e w' ⟨⟨v', rfl, ho⟩, hb⟩; obtain ⟨A, c, rfl, hr, hc, -⟩ := ho.reads; exact ⟨A, c, rfl, Lib.hid ⟨hr, hc⟩, Lib.hid ⟨_, hq.out.choose_spec.next hb⟩⟩))
          have HCL : Hid (∀ W A c, Hid (sK.Reads W W.heap.size A vs ∧ vs.length ≤ c) → Hid (∃ d, R3 w w2.heap.size (.int .i64 (st : Int)) (.int .i64 (nn : Int)) (.bool false) d W) → Calls Tryz.prog 46 #[.slice A vs.length c, .bool old] W fun e w' => e = .returned (.bool (closesL vs old)) ∧ Hid (∃ d, R3 w w2.heap.size (.int .i64 (st : Int)) (.int .i64 (nn : Int)) (.bool false) d w')) := Lib.hid (fun W A c hr hq => (closes_any old hr.out.1 hr.out.2 HVS.out.1 HVS.out.2 (mx_up HMX.out hq.out.choose_spec.rq.below)).mono (by rintro e w' ⟨rfl, hb⟩; exact ⟨rfl, Lib.hid ⟨_, hq.out.choose_spec.next hb⟩⟩))
          have HSK : Hid (∀ W, Hid (∃ d, R3 w w2.heap.size (.int .i64 (st : Int)) (.int .i64 (nn : Int)) (.bool false) d W) → (W.cell? ⟨p, 0, none⟩ = some (.bool old) ∧ W.cell? ⟨w2.heap.size, 1, none⟩ = some (.int .i64 (nn : Int)) ∧ Hid (∃ d, R3 w w2.heap.size (.int .i64 (st : Int)) (.int .i64 (nn : Int)) (.bool false) d W))) := Lib.hid (fun W hq => ⟨(HLC.out W (Lib.hid hq.out.choose_spec.rq)).1, (read_cells hq.out.choose_spec.head).2.1, hq⟩)
          have HST : Hid (∀ W x, Hid (∃ d, R3 w w2.heap.size (.int .i64 (st : Int)) (.int .i64 (nn : Int)) (.bool false) d W) → Hid (∃ d, R3 w w2.heap.size (.int .i64 (st : Int)) (.int .i64 (nn : Int)) (.bool false) d (W.setCell ⟨w2.heap.size, 3, none⟩ x))) := Lib.hid (fun W x hq => Lib.hid ⟨_, hq.out.choose_spec.rq.step HQ2.out.lt ((Below.refl _ _).setCell (show w2.heap.size ≤ w2.heap.size from Nat.le_refl _) x), heap_setCell_same W w2.heap.size 3 _ _ x hq.out.choose_spec.head⟩)
          have HDR : Hid (∀ W, Hid (∃ d, R3 w w2.heap.size (.int .i64 (st : Int)) (.int .i64 (nn : Int)) (.bool false) d W) → Hid (∃ d, R3 w w2.heap.size (.int .i64 (st : Int)) (.int .i64 (nn : Int)) (.bool false) d W.drew)) := Lib.hid (fun W hq => Lib.hid ⟨_, hq.out.choose_spec.drew⟩)
          generalize closesL vs old = cl at HCL HR
          clear HTA HTB HTC HTB' HTC' hno hb hag hcs0 hls0 HT hnn hgA hxx
          go_wp2_with (first | (go_at_call 43; refine (Hid.out HAG).mono ?_; rintro e w3 ⟨rfl, rfl⟩) | (go_at_call 45; refine (HNA.out _).mono ?_; rintro e w3 ⟨rfl, rfl⟩))
          refine wp_region_noPanic ?_
          first | go_region_held (fun w' => w'.cell? ⟨p, 0, none⟩ = some (.bool old) ∧ w'.cell? ⟨w2.heap.size, 1, none⟩ = some (.int .i64 (nn : Int)) ∧ Hid (∃ d, R3 w w2.heap.size (.int .i64 (st : Int)) (.int .i64 (nn : Int)) (.bool false) d w')) (first | exact HSK.out _ (HDR.out _ HQ3) | (refine HSK.out _ ?_; assumption) | (refine HSK.out _ (HST.out _ _ ?_); assumption) | (refine HSK.out _ ?_; go_split_ands; assumption)) ((first | (go_at_call 42; refine (HVC.out _ (by go_split_ands; assumption)).mono ?_; rintro e w4 ⟨A3, c3, rfl, HR3, hq4⟩) | (go_at_call 46; refine (HCL.out _ _ _ HR3 (by go_split_ands; assumption)).mono ?_; rintro e w5 ⟨rfl, hq5⟩; obtain ⟨d5, hd5⟩ := hq5.out; obtain ⟨r0, r1, r2, r3, rf⟩ := hd5.rq.cells; have s0 := rf 0; have s1 := rf 1; have s2 := rf 2; have s3 := rf 3; obtain ⟨t0, t1, t2, t3, tf⟩ := read_cells hd5.head; have tf3 := tf 3; have HQ5 := Lib.hid hd5; clear hd5 rf tf))) | fail "region"
          all_goals
            refine NoPanic.normal ?_
            rename_i hHH
            clear hHH t0 t1 t2 t3 r0 r1 r2 r3 s0 s1 s2 s3 tf3
            have h6 : R3 w w2.heap.size (.int .i64 (st : Int)) (.int .i64 (nn : Int)) (.bool false) (.bool cl) (w5.setCell ⟨w2.heap.size, 3, none⟩ (.bool cl)) := ⟨HQ5.out.rq.step HQ2.out.lt ((Below.refl _ _).setCell (show w2.heap.size ≤ w2.heap.size from Nat.le_refl _) _), heap_setCell_same w5 w2.heap.size 3 _ _ _ HQ5.out.head⟩
            generalize w5.setCell ⟨w2.heap.size, 3, none⟩ (.bool cl) = w6 at h6 ⊢
            obtain ⟨r0, r1, r2, r3, rf⟩ := h6.rq.cells
            have s0 := rf 0
            have s1 := rf 1
            have s2 := rf 2
            have s3 := rf 3
            obtain ⟨t0, t1, t2, t3, -⟩ := read_cells h6.head
            have HQ6 := Lib.hid h6.rq
            clear rf h6
            obtain ⟨e0, e1, e2, e3⟩ := set4_cells HQ6.out.head (.int .i64 (st : Int)) (.int .i64 (nn : Int)) (.bool false) (.bool cl)
            have HBB := Lib.hid (HQ6.out.below.trans (set4_below (B := w.heap.size) _ (Nat.le_refl _) (.int .i64 (st : Int)) (.int .i64 (nn : Int)) (.bool false) (.bool cl)))
            unfold set4 at e0 e1 e2 e3 HBB
            go_wp2
            exact bodyPost_ret (v := .tuple #[.agg #[.int .i64 (st : Int), .int .i64 (nn : Int), .bool false, .bool cl], .int .i64 0]) (by simp [results, Tryz.f36, go_sem, e0, e1, e2, e3]) rfl ⟨by rw [HR.out]; rfl, by first | exact HBB.out | exact HBB.out.drew⟩
      · have hlc : 0 < cs.length := by omega
        have hls0 : ls.length = 0 := by omega
        have hcn : (0 : Int) < (cs.length : Int) := by omega
        obtain ⟨gB, oB, hA2, hgB, hy0⟩ := sK_at HR2.out (headD_at hlc)
        subst hA2
        rw [Nat.add_zero] at hy0
        have HYZ := Lib.hid (HCS.out.2 _ (List.mem_of_getElem? (headD_at hlc)))
        obtain ⟨y0, hyy⟩ : ∃ y0, y0 = cs.headD [] := ⟨_, rfl⟩
        rw [← hyy] at HYZ hy0 HTB' HTC'
        have HSMY : Hid (Calls Tryz.prog 44 #[.string ⟨y0.toArray⟩] w2 fun e w' => e = .returned (.string ⟨(smallL y0).toArray⟩) ∧ Below w2.heap.size w2 w') := Lib.hid (small_any ⟨y0.toArray⟩ w2 (by rw [Lib.size_eq]; exact HYZ.out))
        rw [hls0] at HTC' HAG ⊢
        have HHC : Hid (0 < cs.length) := Lib.hid hlc
        cases old with
        | true =>
          have HR := Lib.hid (HTB'.out ⟨hlc, .inl rfl⟩)
          obtain ⟨e0, e1, e2, e3⟩ := set4_cells HQ2.out.head (.int .i64 0) (.int .i64 0) (.bool false) (.bool false)
          have HBB := Lib.hid (HQ2.out.below.trans (set4_below (B := w.heap.size) w2 (Nat.le_refl _) (.int .i64 0) (.int .i64 0) (.bool false) (.bool false)))
          unfold set4 at e0 e1 e2 e3 HBB
          clear HTA HTB HTC HTB' HTC' hno hb hag hcs0 hls0 hlc hyy hgB
          go_wp2_with (go_at_call 43; refine (Hid.out HAG).mono ?_; rintro e w3 ⟨rfl, rfl⟩)
          exact bodyPost_ret (v := .tuple #[zeroH, .int .i64 12]) (by simp [results, Tryz.f36, go_sem, e0, e1, e2, e3, zeroH]) rfl ⟨by rw [HR.out]; rfl, HBB.out⟩
        | false =>
          by_cases h1 : cs.length = 1
          · obtain ⟨sy, hsy⟩ : ∃ sy, sy = smallL y0 := ⟨_, rfl⟩
            rw [← hsy] at HSMY HTB' HTC'
            by_cases hch : sy = [99, 104, 117, 110, 107, 101, 100]
            · have HT := Lib.hid (HTC'.out (by rintro ⟨-, h | h | h⟩; cases h; omega; exact h hch))
              have HR : Hid (TL = .inl ⟨st, -1, true, closesL vs false⟩) := Lib.hid (by rw [HT.out, decide_eq_true hlc]; rfl)
              rw [h1] at hcn hc2 hl2 ⊢
              subst hch
              clear HTA HTB HTC HTB' HTC' hno hb hag hcs0 hls0 hlc hyy hgB HT h1
              go_wp2_with (go_at_call 43; refine (Hid.out HAG).mono ?_; rintro e w3 ⟨rfl, rfl⟩)
              refine (Hid.out HSMY).mono ?_
              rintro e w9 ⟨rfl, hb9⟩
              have HQ9 := Lib.hid (HQ2.out.next hb9)
              obtain ⟨p0', p1'⟩ := HLC.out _ HQ9
              clear hb9
              have HQ3 : Hid (∃ d, R3 w w9.heap.size (.int .i64 (st : Int)) (.int .i64 (-1)) (.bool true) d (w9.alloc (.cells #[.int .i64 (st : Int), .int .i64 (-1), .bool true, .bool false] 35))) := Lib.hid ⟨_, r3_made HQ9.out (.int .i64 (st : Int)) (.int .i64 (-1)) (.bool true) (.bool false)⟩
              have HVC : Hid (∀ W, Hid (∃ d, R3 w w9.heap.size (.int .i64 (st : Int)) (.int .i64 (-1)) (.bool true) d W) → Calls Tryz.prog 42 #[.pointer (some ⟨p, 0, none⟩), .string ⟨#[99, 111, 110, 110, 101, 99, 116, 105, 111, 110]⟩] W fun e w' => ∃ A c, e = .returned (.slice A vs.length c) ∧ Hid (sK.Reads w' w'.heap.size A vs ∧ vs.length ≤ c) ∧ Hid (∃ d, R3 w w9.heap.size (.int .i64 (st : Int)) (.int .i64 (-1)) (.bool true) d w')) := Lib.hid (fun W hq => (HV3.out W (Lib.hid hq.out.choose_spec.rq)).mono (by rintro e w' ⟨⟨v', rfl, ho⟩, hb⟩; obtain ⟨A, c, rfl, hr, hc, -⟩ := ho.reads; exact ⟨A, c, rfl, Lib.hid ⟨hr, hc⟩, Lib.hid ⟨_, hq.out.choose_spec.next hb⟩⟩))
              have HCL : Hid (∀ W A c, Hid (sK.Reads W W.heap.size A vs ∧ vs.length ≤ c) → Hid (∃ d, R3 w w9.heap.size (.int .i64 (st : Int)) (.int .i64 (-1)) (.bool true) d W) → Calls Tryz.prog 46 #[.slice A vs.length c, .bool false] W fun e w' => e = .returned (.bool (closesL vs false)) ∧ Hid (∃ d, R3 w w9.heap.size (.int .i64 (st : Int)) (.int .i64 (-1)) (.bool true) d w')) := Lib.hid (fun W A c hr hq => (closes_any false hr.out.1 hr.out.2 HVS.out.1 HVS.out.2 (mx_up HMX.out hq.out.choose_spec.rq.below)).mono (by rintro e w' ⟨rfl, hb⟩; exact ⟨rfl, Lib.hid ⟨_, hq.out.choose_spec.next hb⟩⟩))
              have HSK : Hid (∀ W, Hid (∃ d, R3 w w9.heap.size (.int .i64 (st : Int)) (.int .i64 (-1)) (.bool true) d W) → (W.cell? ⟨p, 0, none⟩ = some (.bool false) ∧ W.cell? ⟨w9.heap.size, 1, none⟩ = some (.int .i64 (-1)) ∧ Hid (∃ d, R3 w w9.heap.size (.int .i64 (st : Int)) (.int .i64 (-1)) (.bool true) d W))) := Lib.hid (fun W hq => ⟨(HLC.out W (Lib.hid hq.out.choose_spec.rq)).1, (read_cells hq.out.choose_spec.head).2.1, hq⟩)
              have HST : Hid (∀ W x, Hid (∃ d, R3 w w9.heap.size (.int .i64 (st : Int)) (.int .i64 (-1)) (.bool true) d W) → Hid (∃ d, R3 w w9.heap.size (.int .i64 (st : Int)) (.int .i64 (-1)) (.bool true) d (W.setCell ⟨w9.heap.size, 3, none⟩ x))) := Lib.hid (fun W x hq => Lib.hid ⟨_, hq.out.choose_spec.rq.step HQ9.out.lt ((Below.refl _ _).setCell (show w9.heap.size ≤ w9.heap.size from Nat.le_refl _) x), heap_setCell_same W w9.heap.size 3 _ _ x hq.out.choose_spec.head⟩)
              have HDR : Hid (∀ W, Hid (∃ d, R3 w w9.heap.size (.int .i64 (st : Int)) (.int .i64 (-1)) (.bool true) d W) → Hid (∃ d, R3 w w9.heap.size (.int .i64 (st : Int)) (.int .i64 (-1)) (.bool true) d W.drew)) := Lib.hid (fun W hq => Lib.hid ⟨_, hq.out.choose_spec.drew⟩)
              generalize closesL vs false = cl at HCL HR
              go_wp2_with fail
              refine wp_region_noPanic ?_
              first | go_region_held (fun w' => w'.cell? ⟨p, 0, none⟩ = some (.bool false) ∧ w'.cell? ⟨w9.heap.size, 1, none⟩ = some (.int .i64 (-1)) ∧ Hid (∃ d, R3 w w9.heap.size (.int .i64 (st : Int)) (.int .i64 (-1)) (.bool true) d w')) (first | exact HSK.out _ (HDR.out _ HQ3) | (refine HSK.out _ ?_; assumption) | (refine HSK.out _ (HST.out _ _ ?_); assumption) | (refine HSK.out _ ?_; go_split_ands; assumption)) ((first | (go_at_call 42; refine (HVC.out _ (by go_split_ands; assumption)).mono ?_; rintro e w4 ⟨A3, c3, rfl, HR3, hq4⟩) | (go_at_call 46; refine (HCL.out _ _ _ HR3 (by go_split_ands; assumption)).mono ?_; rintro e w5 ⟨rfl, hq5⟩; obtain ⟨d5, hd5⟩ := hq5.out; obtain ⟨r0, r1, r2, r3, rf⟩ := hd5.rq.cells; have s0 := rf 0; have s1 := rf 1; have s2 := rf 2; have s3 := rf 3; obtain ⟨t0, t1, t2, t3, tf⟩ := read_cells hd5.head; have tf3 := tf 3; have HQ5 := Lib.hid hd5; clear hd5 rf tf))) | fail "region"
              all_goals
                refine NoPanic.normal ?_
                rename_i hHH
                clear hHH t0 t1 t2 t3 r0 r1 r2 r3 s0 s1 s2 s3 tf3
                have h6 : R3 w w9.heap.size (.int .i64 (st : Int)) (.int .i64 (-1)) (.bool true) (.bool cl) (w5.setCell ⟨w9.heap.size, 3, none⟩ (.bool cl)) := ⟨HQ5.out.rq.step HQ9.out.lt ((Below.refl _ _).setCell (show w9.heap.size ≤ w9.heap.size from Nat.le_refl _) _), heap_setCell_same w5 w9.heap.size 3 _ _ _ HQ5.out.head⟩
                generalize w5.setCell ⟨w9.heap.size, 3, none⟩ (.bool cl) = w6 at h6 ⊢
                obtain ⟨r0, r1, r2, r3, rf⟩ := h6.rq.cells
                have s0 := rf 0
                have s1 := rf 1
                have s2 := rf 2
                have s3 := rf 3
                obtain ⟨t0, t1, t2, t3, -⟩ := read_cells h6.head
                have HQ6 := Lib.hid h6.rq
                clear rf h6
                obtain ⟨e0, e1, e2, e3⟩ := set4_cells HQ6.out.head (.int .i64 (st : Int)) (.int .i64 (-1)) (.bool true) (.bool cl)
                have HBB := Lib.hid (HQ6.out.below.trans (set4_below (B := w.heap.size) _ (Nat.le_refl _) (.int .i64 (st : Int)) (.int .i64 (-1)) (.bool true) (.bool cl)))
                unfold set4 at e0 e1 e2 e3 HBB
                go_wp2
                exact bodyPost_ret (v := .tuple #[.agg #[.int .i64 (st : Int), .int .i64 (-1), .bool true, .bool cl], .int .i64 0]) (by simp [results, Tryz.f36, go_sem, e0, e1, e2, e3]) rfl ⟨by rw [HR.out]; rfl, by first | exact HBB.out | exact HBB.out.drew⟩
            · have HR := Lib.hid (HTB'.out ⟨hlc, .inr (.inr hch)⟩)
              have bch : (sy == [99, 104, 117, 110, 107, 101, 100]) = false := by simpa using hch
              rw [h1] at hcn hc2 hl2 ⊢
              clear HTA HTB HTC HTB' HTC' hno hb hag hcs0 hls0 hlc hyy hgB h1 hsy
              go_wp2_with (go_at_call 43; refine (Hid.out HAG).mono ?_; rintro e w3 ⟨rfl, rfl⟩)
              refine (Hid.out HSMY).mono ?_
              rintro e w9 ⟨rfl, hb9⟩
              have HQ9 := Lib.hid (HQ2.out.next hb9)
              clear hb9
              obtain ⟨u0, u1, u2, u3, uf⟩ := read_cells HQ9.out.head
              have v0 := uf 0
              have v1 := uf 1
              have v2 := uf 2
              have v3 := uf 3
              clear uf
              obtain ⟨e0, e1, e2, e3⟩ := set4_cells HQ9.out.head (.int .i64 0) (.int .i64 0) (.bool false) (.bool false)
              have HBB := Lib.hid (HQ9.out.below.trans (set4_below (B := w.heap.size) w9 (Nat.le_refl _) (.int .i64 0) (.int .i64 0) (.bool false) (.bool false)))
              unfold set4 at e0 e1 e2 e3 HBB
              go_wp2
              exact bodyPost_ret (v := .tuple #[zeroH, .int .i64 12]) (by simp [results, Tryz.f36, go_sem, e0, e1, e2, e3, zeroH]) rfl ⟨by rw [HR.out]; rfl, HBB.out⟩
          · have HR := Lib.hid (HTB'.out ⟨hlc, .inr (.inl (by omega))⟩)
            have g1 : (1 : Int) < (cs.length : Int) := by omega
            have g1n : 1 < cs.length := by omega
            obtain ⟨e0, e1, e2, e3⟩ := set4_cells HQ2.out.head (.int .i64 0) (.int .i64 0) (.bool false) (.bool false)
            have HBB := Lib.hid (HQ2.out.below.trans (set4_below (B := w.heap.size) w2 (Nat.le_refl _) (.int .i64 0) (.int .i64 0) (.bool false) (.bool false)))
            unfold set4 at e0 e1 e2 e3 HBB
            clear HTA HTB HTC HTB' HTC' hno hb hag hcs0 hls0 hlc hyy hgB h1
            go_wp2_with (go_at_call 43; refine (Hid.out HAG).mono ?_; rintro e w3 ⟨rfl, rfl⟩)
            exact bodyPost_ret (v := .tuple #[zeroH, .int .i64 12]) (by simp [results, Tryz.f36, go_sem, e0, e1, e2, e3, zeroH]) rfl ⟨by rw [HR.out]; rfl, HBB.out⟩
end Go.Proofs.YtlelemjmknbnaaaGreatDoor
