/- The program's read. -/
import Derived.Test.YtlelemjmknbnaaaGreatDoorHeadLater
import Derived.Lib.SlBytesConst
namespace Go.Proofs.YtlelemjmknbnaaaGreatDoor
open Go.RowKit

theorem cutL_len (s : List UInt8) : (cutL s).length ≤ s.length := by
  unfold cutL
  split
  · rw [List.length_take]; omega
  · exact Nat.le_refl _
theorem cutR_len (s : List UInt8) : (cutR s).length ≤ s.length := by
  unfold cutR
  split
  · rw [List.length_drop]; omega
  · exact Nat.zero_le _
theorem cutR_lt {s : List UInt8} (h : endedB s = true) : (cutR s).length + 2 ≤ s.length := by
  unfold endedB at h
  rw [decide_eq_true_eq] at h
  have := Lib.index_room s tEnd h
  have e : tEnd.length = 2 := rfl
  unfold cutR
  rw [if_pos h, List.length_drop]
  omega
theorem cutR_nil {s : List UInt8} (h : endedB s = false) : cutR s = [] := by
  unfold endedB at h
  rw [decide_eq_false_iff_not] at h
  unfold cutR
  rw [if_neg h]
/-- bytes.Cut, telling whether it was found. -/
theorem cut_end {w : World} {B : Nat} {v s : Value} {l : List UInt8} (h : Sl w B v l) (hl : l.length ≤ 1000000) {B2 : Nat} (hs : Sl w B2 s tEnd) (hm : MX w) :
    Calls Tryz.prog 39 #[v, s] w fun e w' => ∃ a r, e = .returned (.tuple #[a, r, .bool (endedB l)]) ∧ Sl w' B a (cutL l) ∧ Sl w' B r (cutR l) ∧ Below w.heap.size w w' := by
  obtain ⟨A, c, rfl, hr, hc, hn⟩ := h
  obtain ⟨A2, c2, rfl, hr2, hc2, hn2⟩ := hs
  obtain ⟨m, hm⟩ := hm
  have hx := numsL_len l
  refine (Tryz.bytes_Cut_all A A2 l.length c tEnd.length c2 (numsL l) (numsL tEnd) m w hx (numsL_len _) (nums_range l) (nums_range _) hr.inn hr2.inn hn hc (by omega) (by decide) hm).mono fun e w' hh => ?_
  obtain ⟨he, q, rfl⟩ := hh
  rw [he, bytesOf_nums, bytesOf_nums]
  unfold Lib.cutV cutL cutR endedB
  have hroom := Lib.index_room l tEnd
  have e2 : tEnd.length = 2 := rfl
  rw [e2] at hroom ⊢
  by_cases h0 : 0 ≤ Lib.index l tEnd
  · have h1 := hroom h0
    rw [if_pos h0, if_pos h0, if_pos h0, decide_eq_true h0]
    exact ⟨_, _, rfl, (Sl.take hr hc hn _ (by omega)).below (below_drewN w q), (Sl.from hr hc hn _ (by omega)).below (below_drewN w q), below_drewN w q⟩
  · rw [if_neg h0, if_neg h0, if_neg h0, decide_eq_false h0]
    exact ⟨_, _, rfl, Sl.below ⟨A, c, rfl, hr, hc, hn⟩ (below_drewN w q), Sl.nil _ _, below_drewN w q⟩
def zeroV : Value := .agg #[.bool false, .int .i64 0, .slice none 0 0, .int .i64 0]
def RdP (B : Nat) (rd : Rd) (e : Ending) (w' : World) : Prop :=
  match rd with
  | .err n => e = .returned (.tuple #[zeroV, .int .i64 (n : Int)])
  | .part => e = .returned (.tuple #[zeroV, .int .i64 0])
  | .whole old st fs n => ∃ v, e = .returned (.tuple #[.agg #[.bool old, .int .i64 (st : Int), v, .int .i64 (n : Int)], .int .i64 0]) ∧ fK.Own B w' v fs
def ReadPost (rd : Rd) (w : World) (e : Ending) (w' : World) : Prop := RdP w.heap.size rd e w' ∧ Below w.heap.size w w'
/-- The head of the lines, set whole. -/
def set4 (W : World) (R : Nat) (a b c d : Value) : World := (((W.setCell ⟨R, 0, none⟩ a).setCell ⟨R, 1, none⟩ b).setCell ⟨R, 2, none⟩ c).setCell ⟨R, 3, none⟩ d
theorem set4_heap {W : World} {R : Nat} {x y z u : Value} {t : TypeId} (h : W.heap[R]? = some (.cells #[x, y, z, u] t (0, 0))) (a b c d : Value) : (set4 W R a b c d).heap[R]? = some (.cells #[a, b, c, d] t (0, 0)) :=
  heap_setCell_same _ R 3 _ _ _ (heap_setCell_same _ R 2 _ _ _ (heap_setCell_same _ R 1 _ _ _ (heap_setCell_same W R 0 _ _ _ h)))
theorem set4_cells {W : World} {R : Nat} {x y z u : Value} {t : TypeId} (h : W.heap[R]? = some (.cells #[x, y, z, u] t (0, 0))) (a b c d : Value) : (set4 W R a b c d).cell? ⟨R, 0, none⟩ = some a ∧ (set4 W R a b c d).cell? ⟨R, 1, none⟩ = some b ∧ (set4 W R a b c d).cell? ⟨R, 2, none⟩ = some c ∧ (set4 W R a b c d).cell? ⟨R, 3, none⟩ = some d := by
  have := set4_heap h a b c d
  simp [World.cell?, this]
theorem set4_turns (W : World) {R : Nat} (a b c d : Value) : Turns [R] W (set4 W R a b c d) :=
  (((Turns.setCell (F := [R]) W ⟨R, 0, none⟩ a (List.mem_singleton.2 rfl)).trans (Turns.setCell (F := [R]) _ ⟨R, 1, none⟩ b (List.mem_singleton.2 rfl)) (fun i hi => .inl hi)).trans (Turns.setCell (F := [R]) _ ⟨R, 2, none⟩ c (List.mem_singleton.2 rfl)) (fun i hi => .inl hi)).trans (Turns.setCell (F := [R]) _ ⟨R, 3, none⟩ d (List.mem_singleton.2 rfl)) (fun i hi => .inl hi)
theorem laterL_len {fs fs' : List Fld} {s : List UInt8} (hf : fs.length ≤ 64) (h : laterL fs s = some fs') : fs'.length ≤ 64 := by
  unfold laterL at h
  split at h
  · cases h
  · split at h
    · cases h
    · cases h
      rename_i hl
      simp
      omega
theorem set4_below {B : Nat} (W : World) {R : Nat} (hB : B ≤ R) (a b c d : Value) : Below B W (set4 W R a b c d) := ((((Below.refl _ _).setCell hB _).setCell hB _).setCell hB _).setCell hB _
theorem read_cells {W : World} {R : Nat} {x y z u : Value} {t : TypeId} (h : W.heap[R]? = some (.cells #[x, y, z, u] t (0, 0))) : W.cell? ⟨R, 0, none⟩ = some x ∧ W.cell? ⟨R, 1, none⟩ = some y ∧ W.cell? ⟨R, 2, none⟩ = some z ∧ W.cell? ⟨R, 3, none⟩ = some u ∧ ∀ j, W.frozen? ⟨R, j, none⟩ = false := by
  simp [World.cell?, World.frozen?, h]
theorem conv_lit (W : World) (C : Array Value) (p n c : Nat) (hp : p = W.heap.size) : (convert 22 22 (.slice (some ⟨p, 0, none⟩) n c)).run Tryz.prog (W.alloc (.cells C 5)) = .ok (.slice (some ⟨p, 0, none⟩) n c) (W.alloc (.cells C 5 (C.size, C.size + 1))) := by
  subst hp
  exact Lib.run_convert_bytes_const (P := Tryz.prog) W 22 5 C n c Tryz.underlying22 Tryz.underlying5
theorem sl_lit' (w : World) (t : TypeId) (l : List UInt8) (C : Array Value) (n p : Nat) (fr : Nat × Nat) (hC : C = (l.map bcell).toArray) (hn : n = l.length) (hp : p = w.heap.size) : Sl (w.alloc (.cells C t fr)) (p + 1) (.slice (some ⟨p, 0, none⟩) n n) l := by
  subst hp
  exact sl_lit w t l C n fr hC hn
def mz (r e : Value) : Nat := match r, e with
  | .slice _ n _, .bool true => n + 1
  | _, _ => 0
theorem readL_eq (l : List UInt8) {b : List UInt8} (hb : b = l.take 8192) : readL l = readB l.length b := by rw [hb]; rfl
theorem readB_no {n : Nat} {b : List UInt8} (h : endedB b = false) : readB n b = partL n := by
  unfold readB
  rw [h]
  rfl
theorem readB_status {n : Nat} {b : List UInt8} (h : endedB b = true) (h1 : firstL (cutL b) = none) : readB n b = .err 9 := by
  unfold readB
  rw [if_pos h, h1]
theorem readB_rows {n : Nat} {b : List UInt8} {old : Bool} {st : Nat} (h : endedB b = true) (h1 : firstL (cutL b) = some (old, st)) : readB n b = rowsR n b.length old st (rowsN b.length (cutR b) []) := by
  unfold readB
  rw [if_pos h, h1]
/-- The result's cells are as they were made. -/
structure RZ (w W : World) : Prop where
  head : W.heap[w.heap.size]? = some (.cells #[.bool false, .int .i64 0, .slice none 0 0, .int .i64 0] 70 (0, 0))
  below : Below w.heap.size w W
theorem RZ.step {w W W' : World} (h : RZ w W) {B : Nat} (hB : w.heap.size < B) (hb : Below B W W') : RZ w W' := ⟨(hb.block _ hB).trans h.head, h.below.trans (hb.mono (Nat.le_of_lt hB))⟩
theorem RZ.lt {w W : World} (h : RZ w W) : w.heap.size < W.heap.size := lt_of_block h.head
def mk2 (w : World) : World := (w.alloc (.cells #[.bool false, .int .i64 0, .slice none 0 0, .int .i64 0] 70)).alloc (.cells #[.bool false, .int .i64 0, .slice none 0 0, .int .i64 0] 70)
theorem mk2_rz (w : World) : RZ w (mk2 w) := by
  refine ⟨?_, ?_⟩
  · unfold mk2
    rw [heap_alloc_old _ _ (by simp)]
    exact heap_alloc_new w _
  · exact (below_alloc (Nat.le_refl _) _).trans (below_alloc (by simp) _)
theorem mk2_size (w : World) : (mk2 w).heap.size = w.heap.size + 2 := by simp [mk2]
theorem mk2_lin (w : World) : Lin (mk2 w) (w.heap.size + 1) false 0 (.slice none 0 0) [] 0 := by
  refine ⟨?_, EK.Own.nil _ _ (Nat.zero_le _)⟩
  unfold mk2
  have := heap_alloc_new (w.alloc (.cells #[.bool false, .int .i64 0, .slice none 0 0, .int .i64 0] 70)) (.cells #[.bool false, .int .i64 0, .slice none 0 0, .int .i64 0] 70)
  simpa using this
set_option maxRecDepth 100000 in
set_option maxHeartbeats 400000 in
theorem read_any {w : World} {A : Option Addr} {c : Nat} {l : List UInt8} (hr : BReads w w.heap.size A l) (hc : l.length ≤ c) (hn : A = none → c = 0) (hl : l.length ≤ 1000000) (hm : MX w) :
    Calls Tryz.prog 35 #[.slice A l.length c] w (ReadPost (readL l) w) := by
  obtain ⟨N, hN⟩ : ∃ N, N = min l.length 8192 := ⟨_, rfl⟩
  have HS := Lib.hid (Sl.take (w := w) (B := w.heap.size) hr hc hn N (by omega))
  obtain ⟨b, hb⟩ : ∃ b, b = l.take N := ⟨_, rfl⟩
  rw [← hb] at HS
  have HRE := Lib.hid (readL_eq l (b := b) (by rw [hb, hN, List.take_eq_take_iff]; omega))
  have HBL := Lib.hid (show b.length = N by rw [hb, List.length_take]; omega)
  have hmin : min (l.length : Int) 8192 = (N : Int) := by omega
  have hN0 : (0 : Int) ≤ (N : Int) := by omega
  have hNc : (N : Int) ≤ (c : Int) := by omega
  have HN8 := Lib.hid (show N ≤ 8192 by omega)
  have HMX := Lib.hid hm
  have HPL : Hid (partL l.length = if (N : Int) = 8192 then .err 13 else .part) := Lib.hid (by unfold partL; by_cases h : 8192 ≤ l.length; rw [if_pos h, if_pos (by omega)]; rw [if_neg h, if_neg (by omega)])
  have hcs := conv_lit
  clear hN hb hm hr hn
  go_enter Tryz.func35, Tryz.ntmps35
  go_wp2_with fail
  have HZ0 := mk2_rz w
  have HL0 := mk2_lin w
  have hz0 := mk2_size w
  have hMX0 := HMX.out.grown (HZ0.below)
  refine (cut_end (w := (mk2 w).alloc (.cells #[.int .u8 13, .int .u8 10] 5 (2, 3))) (HS.out.below (HZ0.below.trans (below_alloc (by omega) _))) (by have := HBL.out; have := HN8.out; omega) (B2 := w.heap.size + 1 + 1 + 1) (sl_lit' (mk2 w) _ tEnd _ _ (w.heap.size + 1 + 1) _ rfl rfl hz0.symm) (hMX0.grown (below_alloc (Nat.le_refl _) _))).mono ?_
  rintro e w1 ⟨a1, r1, rfl, ha1, hr1, hb1⟩
  have hb1' : Below (mk2 w).heap.size (mk2 w) w1 := (below_alloc (Nat.le_refl _) _).trans (hb1.mono (by simp))
  have HZ1 := Lib.hid (HZ0.step (by omega) hb1')
  have HL1 := Lib.hid (HL0.below hb1')
  have HM1 := Lib.hid (hMX0.grown hb1')
  have hcv1 := ha1.text
  have HR1 := Lib.hid hr1
  have HS1 := Lib.hid (HS.out.below HZ1.out.below)
  clear HZ0 HL0 hz0 hMX0 ha1 hr1 hb1 hb1' HS
  by_cases hen : endedB b = true
  · cases hf : firstL (cutL b) with
    | none =>
      have HR := Lib.hid (show readL l = .err 9 by rw [HRE.out, readB_status hen hf])
      have HFI := Lib.hid (first_any ⟨(cutL b).toArray⟩ w1 (w.heap.size + 1) (by have := HBL.out; have := HN8.out; have := cutL_len b; rw [Lib.size_eq]; show (cutL b).length ≤ _; omega) HM1.out HL1.out)
      change Hid (Calls _ _ _ _ (FPost (cutL b) _ _)) at HFI
      unfold FPost at HFI
      rw [hf] at HFI
      rw [hen]
      clear hen hf
      go_wp2_with fail
      refine (Hid.out HFI).mono ?_
      rintro e w2 ⟨⟨rfl, -⟩, hb2⟩
      have HZ2 := Lib.hid (HZ1.out.step (Nat.lt_succ_self _) hb2)
      clear hb2
      obtain ⟨c0, c1, c2, c3, cf⟩ := read_cells HZ2.out.head
      have f0 := cf 0
      have f1 := cf 1
      have f2 := cf 2
      have f3 := cf 3
      obtain ⟨q0, q1, q2, q3⟩ := set4_cells HZ2.out.head (.bool false) (.int .i64 0) (.slice none 0 0) (.int .i64 0)
      have HBB := Lib.hid (HZ2.out.below.trans (set4_below (B := w.heap.size) w2 (Nat.le_refl _) (.bool false) (.int .i64 0) (.slice none 0 0) (.int .i64 0)))
      unfold set4 at q0 q1 q2 q3 HBB
      clear cf
      go_wp2
      exact bodyPost_ret (v := .tuple #[zeroV, .int .i64 9]) (by simp [results, Tryz.f35, go_sem, q0, q1, q2, q3, zeroV]) rfl ⟨by rw [HR.out]; rfl, HBB.out⟩
    | some q =>
      obtain ⟨old, st⟩ := q
      obtain ⟨RW, hRW⟩ : ∃ RW, RW = rowsN b.length (cutR b) [] := ⟨_, rfl⟩
      have HR0 := Lib.hid (show readL l = rowsR l.length b.length old st RW by rw [HRE.out, readB_rows hen hf, hRW])
      have HRW := Lib.hid hRW
      have HFI := Lib.hid (first_any ⟨(cutL b).toArray⟩ w1 (w.heap.size + 1) (by have := HBL.out; have := HN8.out; have := cutL_len b; rw [Lib.size_eq]; show (cutL b).length ≤ _; omega) HM1.out HL1.out)
      change Hid (Calls _ _ _ _ (FPost (cutL b) _ _)) at HFI
      unfold FPost at HFI
      rw [hf] at HFI
      rw [hen]
      clear hen hf hRW
      go_wp2_with fail
      refine (Hid.out HFI).mono ?_
      rintro e w2 ⟨⟨rfl, hl2⟩, hb2⟩
      have HZ2 := Lib.hid (HZ1.out.step (Nat.lt_succ_self _) hb2)
      have HL2 := Lib.hid (hl2 old st rfl)
      have HM2 := Lib.hid (HMX.out.grown HZ2.out.below)
      have HR2 := Lib.hid (HR1.out.below (hb2.mono (Nat.le_succ _)))
      have HS2 := Lib.hid (HS1.out.below (hb2.mono (Nat.le_succ _)))
      clear hb2 hl2 hcv1 HFI HL1 HZ1 HM1 HR1 HS1
      go_wp2
      go_loopw [5, 6, 7] (fun _ r e wr => ∃ (en : Bool) (rest : List UInt8) (k : Nat) (fs : List Fld) (rv v : Value), rv = r ∧ e = .bool en ∧ Hid (Sl wr w.heap.size rv rest) ∧ Hid (RZ w wr) ∧ Hid (Lin wr (w.heap.size + 1) old st v fs 0) ∧ Hid (fs.length ≤ 64) ∧ Hid (rest.length ≤ N) ∧ Hid (en = true → RW = rowsN k rest fs ∧ rest.length ≤ k) ∧ Hid (en = false → RW = .part)) (fun _ r e _ => mz r e)
      case atStart => exact ⟨true, cutR b, b.length, [], _, _, rfl, rfl, HR2, HZ2, HL2, Lib.hid (by simp), Lib.hid (by have := HBL.out; have := cutR_len b; omega), Lib.hid (fun _ => ⟨HRW.out, cutR_len b⟩), Lib.hid (fun h => by cases h)⟩
      case round =>
        obtain ⟨en, rest, k, fs, rv, v, rfl, rfl, HSr, HZr, HLr, HFr, HNr, HYr, HPr⟩ := hrel
        have HMr := Lib.hid (HMX.out.grown HZr.out.below)
        cases en with
        | false =>
          have HR := Lib.hid (show readL l = if (N : Int) = 8192 then .err 13 else .part by rw [HR0.out, HPr.out rfl, ← HPL.out]; rfl)
          clear HYr HPr HLr HSr HFr HNr
          obtain ⟨c0, c1, c2, c3, cf⟩ := read_cells HZr.out.head
          have f0 := cf 0
          have f1 := cf 1
          have f2 := cf 2
          have f3 := cf 3
          obtain ⟨q0, q1, q2, q3⟩ := set4_cells HZr.out.head (.bool false) (.int .i64 0) (.slice none 0 0) (.int .i64 0)
          have HBB := Lib.hid (HZr.out.below.trans (set4_below (B := w.heap.size) wr (Nat.le_refl _) (.bool false) (.int .i64 0) (.slice none 0 0) (.int .i64 0)))
          unfold set4 at q0 q1 q2 q3 HBB
          clear cf
          by_cases h8 : (N : Int) = 8192
          · have g8 : ((N : Int) == 8192) = true := by simpa using h8
            rw [if_pos h8] at HR
            go_wp2
            exact bodyPost_ret (v := .tuple #[zeroV, .int .i64 13]) (by simp [results, Tryz.f35, go_sem, q0, q1, q2, q3, zeroV]) rfl ⟨by rw [HR.out]; rfl, HBB.out⟩
          · have g8 : ((N : Int) == 8192) = false := by simpa using h8
            have g8n : (N == 8192) = false := by simp; omega
            rw [if_neg h8] at HR
            go_wp2
            exact bodyPost_ret (v := .tuple #[zeroV, .int .i64 0]) (by simp [results, Tryz.f35, go_sem, q0, q1, q2, q3, zeroV]) rfl ⟨by rw [HR.out]; rfl, HBB.out⟩
        | true =>
          have HME : Hid (rest.length + 1 ≤ mz rv (.bool true)) := Lib.hid (by
            obtain ⟨Ar, cr, rfl, -, -, -⟩ := HSr.out
            exact Nat.le_refl _)
          obtain ⟨hy1, hy2⟩ := HYr.out rfl
          have HY1 := Lib.hid hy1
          have HY2 := Lib.hid hy2
          clear hy1 hy2 HYr HPr
          go_wp2_with fail
          refine (cut_end (w := wr.alloc (.cells #[.int .u8 13, .int .u8 10] 5 (2, 3))) (HSr.out.below (below_alloc (Nat.le_of_lt HZr.out.lt) _)) (by have := HNr.out; have := HN8.out; omega) (B2 := wr.heap.size + 1) (sl_lit wr _ tEnd _ _ _ rfl rfl) (HMr.out.grown (below_alloc (Nat.le_refl _) _))).mono ?_
          rintro e w3 ⟨a3, r3, rfl, ha3, hr3, hb3⟩
          have hb3' : Below wr.heap.size wr w3 := (below_alloc (Nat.le_refl _) _).trans (hb3.mono (by simp))
          have HZ3 := Lib.hid (HZr.out.step HZr.out.lt hb3')
          have HL3 := Lib.hid (HLr.out.below hb3')
          have HM3 := Lib.hid (HMr.out.grown hb3')
          have HR3 := Lib.hid hr3
          have hcv3 := ha3.text
          obtain ⟨A3, c3, rfl, -, -, -⟩ := ha3
          have HCL := Lib.hid (cutR_len rest)
          have HCT := Lib.hid (cutL_len rest)
          clear hr3 hb3 hb3' HSr HZr HLr HMr
          by_cases hend : endedB rest = true
          · rw [hend]
            obtain ⟨k, rfl⟩ : ∃ i, k = i + 1 := ⟨k - 1, by have := cutR_lt hend; have := HY2.out; omega⟩
            have HLT := Lib.hid (cutR_lt hend)
            by_cases hnil : cutL rest = []
            · have HR : Hid (readL l = .whole old st fs (N - (cutR rest).length)) := Lib.hid (by rw [HR0.out, HY1.out, rowsN, if_pos hend, if_pos hnil, HBL.out]; rfl)
              obtain ⟨Ar, cr, rfl, -, -, -⟩ := HR3.out
              have h0 : (cutL rest).length = 0 := by rw [hnil]; rfl
              rw [h0]
              obtain ⟨Av, cv, rfl, -, -, -⟩ := HL3.out.own.reads
              obtain ⟨e0, e1, e2, e3, ef⟩ := HL3.out.cells
              obtain ⟨b0, b1, b2, b3, bf⟩ := read_cells HZ3.out.head
              have ef3 := ef 3
              have f0 := bf 0
              have f1 := bf 1
              have f2 := bf 2
              have f3 := bf 3
              have hsub : (N : Int) - ((cutR rest).length : Int) = ((N - (cutR rest).length : Nat) : Int) := by have := HCL.out; have := HNr.out; omega
              have hZs : RZ w (w3.setCell ⟨w.heap.size + 1, 3, none⟩ (.int .i64 ((N - (cutR rest).length : Nat) : Int))) := HZ3.out.step (Nat.lt_succ_self _) ((Below.refl _ _).setCell (show w.heap.size + 1 ≤ w.heap.size + 1 from Nat.le_refl _) _)
              have hLs := HL3.out.setSz (N - (cutR rest).length)
              obtain ⟨q0, q1, q2, q3⟩ := set4_cells hZs.head (.bool old) (.int .i64 (st : Int)) (.slice Av fs.length cv) (.int .i64 ((N - (cutR rest).length : Nat) : Int))
              have HBB := Lib.hid (hZs.below.trans (set4_below (B := w.heap.size) _ (Nat.le_refl _) (.bool old) (.int .i64 (st : Int)) (.slice Av fs.length cv) (.int .i64 ((N - (cutR rest).length : Nat) : Int))))
              have HOW := Lib.hid (show fK.Own w.heap.size (set4 _ w.heap.size _ _ _ _) (.slice Av fs.length cv) fs from (hLs.own.turns (set4_turns _ (.bool old) (.int .i64 (st : Int)) (.slice Av fs.length cv) (.int .i64 ((N - (cutR rest).length : Nat) : Int))) (by
                intro g hg hm
                have := (World.ownsRow.lt hLs.own g hg).1
                rw [List.mem_singleton] at hm
                omega)).low (by omega))
              unfold set4 at q0 q1 q2 q3 HBB HOW
              clear hnil h0 hend ef bf hcv3 hZs hLs
              go_wp2
              exact bodyPost_ret (v := .tuple #[.agg #[.bool old, .int .i64 (st : Int), .slice Av fs.length cv, .int .i64 ((N - (cutR rest).length : Nat) : Int)], .int .i64 0]) (by simp [results, Tryz.f35, go_sem, q0, q1, q2, q3]) rfl ⟨by rw [HR.out]; exact ⟨_, rfl, HOW.out⟩, HBB.out⟩
            · have h0 : 0 < (cutL rest).length := List.length_pos_iff.2 hnil
              have h0' : (((cutL rest).length : Int) == 0) = false := by simp; omega
              have h0'' : ((cutL rest).length == 0) = false := by simp; omega
              have HLA := Lib.hid (later_any ⟨(cutL rest).toArray⟩ w3 (w.heap.size + 1) old st 0 v fs (by have := HCT.out; have := HNr.out; have := HN8.out; rw [Lib.size_eq]; show (cutL rest).length ≤ _; omega) HM3.out HL3.out HFr.out)
              change Hid (Calls _ _ _ _ (LPost fs (cutL rest) _ _ _ _ _)) at HLA
              unfold LPost at HLA
              have HYN := Lib.hid (show rowsN (k + 1) rest fs = match laterL fs (cutL rest) with | none => .bad | some fs' => rowsN k (cutR rest) fs' by rw [rowsN, if_pos hend, if_neg hnil]; rfl)
              have HLL : Hid (∀ fs', laterL fs (cutL rest) = some fs' → fs'.length ≤ 64) := Lib.hid (fun fs' h => laterL_len HFr.out h)
              cases hla : laterL fs (cutL rest) with
              | none =>
                rw [hla] at HLA HYN
                have HR : Hid (readL l = .err 10) := Lib.hid (by rw [HR0.out, HY1.out, HYN.out]; rfl)
                clear hla hnil hend h0 HYN HLL
                go_wp2_with fail
                refine (Hid.out HLA).mono ?_
                rintro e w4 ⟨⟨rfl, -⟩, hb4⟩
                have HZ4 := Lib.hid (HZ3.out.step (Nat.lt_succ_self _) hb4)
                clear hb4
                obtain ⟨c0, c1, c2, c3, cf⟩ := read_cells HZ4.out.head
                have f0 := cf 0
                have f1 := cf 1
                have f2 := cf 2
                have f3 := cf 3
                obtain ⟨q0, q1, q2, q3⟩ := set4_cells HZ4.out.head (.bool false) (.int .i64 0) (.slice none 0 0) (.int .i64 0)
                have HBB := Lib.hid (HZ4.out.below.trans (set4_below (B := w.heap.size) w4 (Nat.le_refl _) (.bool false) (.int .i64 0) (.slice none 0 0) (.int .i64 0)))
                unfold set4 at q0 q1 q2 q3 HBB
                clear cf
                go_wp2
                exact bodyPost_ret (v := .tuple #[zeroV, .int .i64 10]) (by simp [results, Tryz.f35, go_sem, q0, q1, q2, q3, zeroV]) rfl ⟨by rw [HR.out]; rfl, HBB.out⟩
              | some fs' =>
                rw [hla] at HLA HYN
                have HL64 := Lib.hid (HLL.out fs' hla)
                have HLT2 := Lib.hid (show (cutR rest).length ≤ k by have := HLT.out; have := HY2.out; omega)
                have HN' := Lib.hid (show (cutR rest).length ≤ N by have := HCL.out; have := HNr.out; omega)
                have HMZ : Hid (mz r3 (.bool true) < rest.length + 1) := Lib.hid (by
                  obtain ⟨Ar, cr, rfl, -, -, -⟩ := HR3.out
                  have := HLT.out
                  show (cutR rest).length + 1 < _
                  omega)
                clear hla hnil hend h0 HLL
                go_wp2_with fail
                refine (Hid.out HLA).mono ?_
                rintro e w4 ⟨⟨rfl, hl4⟩, hb4⟩
                obtain ⟨v4, hl4⟩ := hl4 fs' rfl
                have HL4 := Lib.hid hl4
                have HZ4 := Lib.hid (HZ3.out.step (Nat.lt_succ_self _) hb4)
                have HR4 := Lib.hid (HR3.out.below (hb4.mono (Nat.le_succ _)))
                clear hb4 hl4
                go_wp2
                go_round
                case rel => exact ⟨true, cutR rest, k, fs', _, v4, rfl, rfl, HR4, HZ4, HL4, HL64, HN', Lib.hid (fun _ => ⟨by rw [HY1.out, HYN.out], HLT2.out⟩), Lib.hid (fun h => by cases h)⟩
                case measure => exact Nat.lt_of_lt_of_le HMZ.out HME.out
          · have hend' : endedB rest = false := by simpa using hend
            rw [hend']
            have HP' := Lib.hid (show RW = .part by
              rw [HY1.out]
              cases k with
              | zero => rfl
              | succ k => rw [rowsN, if_neg (by rw [hend']; simp)])
            have HN' := Lib.hid (show (cutR rest).length ≤ N by have := HCL.out; have := HNr.out; omega)
            have HMZ0 : Hid (mz r3 (.bool false) = 0) := Lib.hid (by
              obtain ⟨Ar, cr, rfl, -, -, -⟩ := HR3.out
              rfl)
            clear hcv3 hend
            go_wp2
            go_round
            case rel => exact ⟨false, cutR rest, 0, fs, _, _, rfl, rfl, HR3, HZ3, HL3, HFr, HN', Lib.hid (fun h => by cases h), Lib.hid (fun _ => HP'.out)⟩
            case measure => exact HMZ0.out ▸ Nat.lt_of_lt_of_le (Nat.succ_pos _) HME.out
  · have hen' : endedB b = false := by simpa using hen
    have HR := Lib.hid (show readL l = if (N : Int) = 8192 then .err 13 else .part by rw [HRE.out, readB_no hen', HPL.out])
    rw [hen']
    clear hen hen' hcv1 HL1 HM1 HR1 HS1
    go_wp2
    go_loopw [7] (fun e wr => e = .bool false ∧ wr = w1) (fun _ _ => 0)
    case atStart => exact ⟨rfl, rfl⟩
    case round =>
      obtain ⟨rfl, rfl⟩ := hrel
      obtain ⟨c0, c1, c2, c3, cf⟩ := read_cells HZ1.out.head
      have f0 := cf 0
      have f1 := cf 1
      have f2 := cf 2
      have f3 := cf 3
      obtain ⟨q0, q1, q2, q3⟩ := set4_cells HZ1.out.head (.bool false) (.int .i64 0) (.slice none 0 0) (.int .i64 0)
      have HBB := Lib.hid (HZ1.out.below.trans (set4_below (B := w.heap.size) wr (Nat.le_refl _) (.bool false) (.int .i64 0) (.slice none 0 0) (.int .i64 0)))
      unfold set4 at q0 q1 q2 q3 HBB
      clear cf
      by_cases h8 : (N : Int) = 8192
      · have g8 : ((N : Int) == 8192) = true := by simpa using h8
        rw [if_pos h8] at HR
        go_wp2
        exact bodyPost_ret (v := .tuple #[zeroV, .int .i64 13]) (by simp [results, Tryz.f35, go_sem, q0, q1, q2, q3, zeroV]) rfl ⟨by rw [HR.out]; rfl, HBB.out⟩
      · have g8 : ((N : Int) == 8192) = false := by simpa using h8
        have g8n : (N == 8192) = false := by simp; omega
        rw [if_neg h8] at HR
        go_wp2
        exact bodyPost_ret (v := .tuple #[zeroV, .int .i64 0]) (by simp [results, Tryz.f35, go_sem, q0, q1, q2, q3, zeroV]) rfl ⟨by rw [HR.out]; rfl, HBB.out⟩
end Go.Proofs.YtlelemjmknbnaaaGreatDoor
