/- The program's tell: an open window with its credits by rising names. -/
import Derived.Test.YtjkkpdflijjllaaWiOps
import Derived.Test.YtjkkpdflijjllaaShelf
import Derived.Deep.RegionLaw
namespace Go.Proofs.Ytjkkpdflijjllaa
open Go.RowKit Go.Maps Go.Sort Go.Shelf

set_option maxHeartbeats 400000 in
theorem clone_wi (s : ByteArray) (w : World) (hs : s.size ≤ 140737488355328) :
    Calls Try.prog 39 #[.string s] w fun e w' => e = .returned (.string s) ∧ Turns [] w w' := by
  have HC := Lib.hid (Try.stringslite_Clone s w (by omega))
  go_enter Try.func39, Try.ntmps39
  go_wp2_with fail
  refine (Hid.out HC).mono ?_
  rintro e w1 ⟨rfl, hb⟩
  go_wp2
  go_ret
  exact ⟨rfl, Turns.of_below hb (Nat.le_refl _)⟩
theorem txtK_cells {B : Nat} {w : World} {v : Value} {l : List (List UInt8)} (h : txtK.Own B w v l) : ∃ A cap, v = .slice A l.length cap ∧ ∀ (k : Nat) (x : List UInt8), l[k]? = some x → ∃ kb, A = some ⟨kb, 0, none⟩ ∧ B ≤ kb ∧ kb < w.heap.size ∧ w.cell? ⟨kb, k, none⟩ = some (encStr x) := by
  rcases h.form with ⟨rfl, rfl⟩ | ⟨g, cap, rfl, hB, hg, _, _⟩
  · exact ⟨none, 0, rfl, fun k x hk => by simp at hk⟩
  · refine ⟨_, cap, rfl, fun k x hk => ⟨g, rfl, hB, hg, ?_⟩⟩
    have := World.ownsRow.cells h (g := g) rfl k (encStr x) (by rw [flat_txt, List.getElem?_map, hk]; rfl)
    rwa [add_plain', Nat.zero_add] at this
theorem i64K_cells {B : Nat} {w : World} {v : Value} {l : List Int} (h : i64K.Own B w v l) : ∃ A cap, v = .slice A l.length cap ∧ ∀ (k : Nat) (x : Int), l[k]? = some x → ∃ kb, A = some ⟨kb, 0, none⟩ ∧ B ≤ kb ∧ kb < w.heap.size ∧ w.cell? ⟨kb, k, none⟩ = some (.int .i64 x) := by
  rcases h.form with ⟨rfl, rfl⟩ | ⟨g, cap, rfl, hB, hg, _, _⟩
  · exact ⟨none, 0, rfl, fun k x hk => by simp at hk⟩
  · refine ⟨_, cap, rfl, fun k x hk => ⟨g, rfl, hB, hg, ?_⟩⟩
    have := World.ownsRow.cells h (g := g) rfl k (encZ x) (by rw [flat_i64, List.getElem?_map, hk]; rfl)
    rwa [add_plain', Nat.zero_add] at this
/-- The call's boxes: the result, what is told so far. -/
structure TellB (w : World) (n : Int) (v : Value) (R : List Cr) (X : World) : Prop where
  own : cK.Own (w.heap.size + 2) X v R
  res : X.heap[w.heap.size]? = some (.cells #[.int .i64 0, .slice none 0 0] 42 (0, 0))
  box : X.heap[w.heap.size + 1]? = some (.cells #[.int .i64 n, v] 42 (0, 0))
  tt : Turns [] w X
  more : w.heap.size + 2 ≤ X.heap.size
section
variable {w X Y : World} {n : Int} {v v' : Value} {R R' : List Cr}
theorem TellB.next (h : TellB w n v R X) (ht : Turns [] X Y) : TellB w n v R Y :=
  ⟨h.own.turns ht (by simp), (ht.block _ (lt_of_block h.res) (by simp)).trans h.res, (ht.block _ (lt_of_block h.box) (by simp)).trans h.box, h.tt.then ht, Nat.le_trans h.more ht.size⟩
theorem TellB.app (h : TellB w n v R X) (ho : cK.Own (w.heap.size + 2) Y v' R') (ht : Turns (ownB v) X Y) : TellB w n v' R' (Y.setCell ⟨w.heap.size + 1, 1, none⟩ v') := by
  have hr : w.heap.size ∉ ownB v := fun hm => by have := (h.own.foot _ hm).1; omega
  have hb : w.heap.size + 1 ∉ ownB v := fun hm => by have := (h.own.foot _ hm).1; omega
  have hr1 := (ht.block _ (lt_of_block h.res) hr).trans h.res
  have hb1 := (ht.block _ (lt_of_block h.box) hb).trans h.box
  have ht2 : Turns [w.heap.size + 1] Y (Y.setCell ⟨w.heap.size + 1, 1, none⟩ v') := Turns.setCell _ _ _ (by simp)
  have hb2 := heap_setCell_same Y (w.heap.size + 1) 1 _ _ v' hb1
  refine ⟨ho.turns ht2 fun g hg hm => ?_, (ht2.block _ (lt_of_block hr1) (by simp)).trans hr1, hb2, (h.tt.trans ht fun i hi => .inr (by have := (h.own.foot i hi).1; omega)).trans ht2 fun i hi => .inr (by simp at hi; omega), Nat.le_trans h.more (Nat.le_trans ht.size ht2.size)⟩
  have := (ho.foot g (by unfold ownB; rw [hg]; simp)).1
  simp at hm
  omega
theorem TellB.stays (h : TellB w n v R X) (ht : Turns (ownB v) X Y) : Y.cell? ⟨w.heap.size + 1, 1, none⟩ = some v ∧ Y.frozen? ⟨w.heap.size + 1, 1, none⟩ = false := by
  have hb : w.heap.size + 1 ∉ ownB v := fun hm => by have := (h.own.foot _ hm).1; omega
  have hb1 := (ht.block _ (lt_of_block h.box) hb).trans h.box
  exact ⟨by simp [World.cell?, hb1], by simp [World.frozen?, hb1]⟩
theorem TellB.cells (h : TellB w n v R X) : X.cell? ⟨w.heap.size + 1, 0, none⟩ = some (.int .i64 n) ∧ X.cell? ⟨w.heap.size + 1, 1, none⟩ = some v ∧ ∀ j, X.frozen? ⟨w.heap.size + 1, j, none⟩ = false := by
  have h1 := h.box
  refine ⟨?_, ?_, fun j => ?_⟩ <;> simp [World.cell?, World.frozen?, h1]
end
theorem win_set {W : World} {q : Nat} {c0 c1 : Value} (h : W.heap[q]? = some (.cells #[c0, c1] 42 (0, 0))) (a0 a1 : Value) :
    ((W.setCell ⟨q, 0, none⟩ a0).setCell ⟨q, 1, none⟩ a1).heap[q]? = some (.cells #[a0, a1] 42 (0, 0)) ∧ Turns [q] W ((W.setCell ⟨q, 0, none⟩ a0).setCell ⟨q, 1, none⟩ a1) := by
  have s0 := heap_setCell_same _ q 0 _ _ a0 h
  rw [show (#[c0, c1] : Array Value).setIfInBounds 0 a0 = #[a0, c1] from rfl] at s0
  have s1 := heap_setCell_same _ q 1 _ _ a1 s0
  rw [show (#[a0, c1] : Array Value).setIfInBounds 1 a1 = #[a0, a1] from rfl] at s1
  exact ⟨s1, (Turns.setCell W _ _ (by simp)).then (Turns.setCell _ _ _ (by simp))⟩
theorem win_struct : Try.prog.underlying 42 = some (.struct (Try.prog.fieldsOf 42)) := by kernel_rfl
set_option maxRecDepth 100000 in
set_option maxHeartbeats 4000000 in
theorem tell_any {B : Nat} {w : World} {p b : Nat} {P : PW} {S : Ws} (h : WiA B w p b P S) {n : Int} (hn : -9223372036854775808 ≤ n ∧ n ≤ 9223372036854775807) {g : Nat} {f : SM} {l : List Cr} (hp : P n = some (g, (f, l.length))) (hf : TelC f l) (hl : l.length ≤ 50000) :
    Calls Try.prog 38 #[ptrV p, .int .i64 n] w fun e w' => ∃ v, e = .returned (.agg #[.int .i64 n, v]) ∧ cK.Own w.heap.size w' v l ∧ Turns [] w w' := by
  have H := Lib.hid h
  have HF := Lib.hid hf
  have HL := Lib.hid hl
  have HLK : Hid (∀ W, Turns [] w W → W.cell? ⟨p, 7, none⟩ = some (.map (some b)) ∧ (Instr.lookup tO (.map (some b)) (.int .i64 n) false).run Try.prog W = .ok (.map (some g)) W) := Lib.hid fun W ht => by
    have h1 := h.pre ht
    obtain ⟨_, _, _, _, _, _, _, c7, _⟩ := h1.head.cells
    have h2 := h1.look1 (num_ok hn)
    rw [inW_some hp] at h2
    exact ⟨c7, h2⟩
  have HM : Hid (∀ W, Turns [] w W → MapS W g f l.length) := Lib.hid fun W ht => (((h.map.blk n _ hp).1 : MapS w g f l.length)).turns ht (by simp)
  have hplt := h.head.lt
  clear h hf hl hp
  go_enter Try.func38, Try.ntmps38
  go_upto_region 2 with fail
  obtain ⟨Z, hZ⟩ : ∃ Z, w.alloc (.cells #[.int .i64 0, .slice none 0 0] 42) = Z := ⟨_, rfl⟩
  obtain ⟨W0, hW0⟩ : ∃ W0, Z.alloc (.cells #[.int .i64 n, .slice none 0 0] 42) = W0 := ⟨_, rfl⟩
  rw [hZ, hW0]
  have hzs : Z.heap.size = w.heap.size + 1 := by rw [← hZ]; simp
  have hws : W0.heap.size = w.heap.size + 2 := by rw [← hW0]; simp [hzs]
  have hz1 : Turns [] w Z := by rw [← hZ]; exact Turns.alloc _ _
  have hz2 : Turns [] Z W0 := by rw [← hW0]; exact Turns.alloc _ _
  have HB0 : Hid (TellB w n (.slice none 0 0) [] W0) := Lib.hid ⟨World.ownsRow_nil _ _ _ _, (hz2.block _ (by omega) (by simp)).trans (by rw [← hZ]; exact heap_alloc_new w _), by rw [← hW0, ← hzs]; exact heap_alloc_new Z _, hz1.then hz2, by omega⟩
  clear hZ hW0 hzs hws hz1 hz2
  obtain ⟨c7, hlk⟩ := HLK.out W0 HB0.out.tt
  have HR := Lib.hid (risingS_any (HM.out W0 HB0.out.tt) HF.out (by have := HL.out; omega))
  go_wp2_with fail
  refine HR.out.mono ?_
  rintro e w1 ⟨⟨kv, rfl, hkv⟩, ht1⟩
  obtain ⟨KA, kc, rfl, hkeys⟩ := txtK_cells hkv
  have HKY := Lib.hid hkeys
  have HT1 := Lib.hid ht1
  have HB1 := Lib.hid (HB0.out.next ht1)
  have hln : (l.map fun x => kyC x.name).length = l.length := by simp
  rw [hln]
  clear hkv hkeys ht1 hln c7 hlk HR
  go_wp2_with fail
  obtain ⟨v0, hv0⟩ : ∃ v0, v0 = Value.slice none 0 0 := ⟨_, rfl⟩
  rw [← hv0] at HB1
  have HB2 := Lib.hid HB1.out
  have HW1 : Hid (∀ wr, Turns [w.heap.size + 1] w1 wr → ∀ i, W0.heap.size ≤ i → i < w1.heap.size → wr.heap[i]? = w1.heap[i]?) := Lib.hid fun wr ht i h1 h2 => ht.block i h2 (by have := HB0.out.more; simp; omega)
  have HV0 := Lib.hid hv0
  clear hv0
  go_loopw [19] (fun i wr => ∃ (k : Nat) (v : Value), k ≤ l.length ∧ i = .int .i64 k ∧ Hid (TellB w n v (l.take k) wr) ∧ Hid (∀ i, W0.heap.size ≤ i → i < w1.heap.size → i ∉ ownB v ∧ wr.heap[i]? = w1.heap[i]?) ∧ Hid (w1.heap.size ≤ wr.heap.size)) (fun i _ => l.length - (intOf i).toNat)
  case atStart => exact ⟨0, v0, Nat.zero_le _, rfl, HB2, Lib.hid (fun i h1 h2 => ⟨by rw [HV0.out]; simp [ownB, Value.ownBlock], rfl⟩), Lib.hid (Nat.le_refl _)⟩
  case round =>
    obtain ⟨k, v, hk, rfl, HB, HK, HS⟩ := hrel
    have hl9 : (l.length : Int) ≤ 50000 := by have := HL.out; omega
    by_cases hlt : k < l.length
    · obtain ⟨x, hx⟩ : ∃ x, l[k]? = some x := ⟨_, List.getElem?_eq_getElem hlt⟩
      have hxm := List.mem_of_getElem? hx
      obtain ⟨kb, rfl, hk1, hk2, hkc⟩ := HKY.out k (kyC x.name) (by simp [hx])
      have hc1 : wr.cell? ⟨kb, k, none⟩ = some (.string x.name) := by
        rw [World.cell?_of_block (a := ⟨kb, k, none⟩) (HK.out kb hk1 hk2).2, hkc]
      obtain ⟨c7, hlk⟩ := HLK.out wr HB.out.tt
      have hls := MapS.look (HM.out wr HB.out.tt) (HF.out.size x hxm)
      rw [HF.out.mem x hxm] at hls
      unfold sumV at hls
      simp only [Option.getD_some] at hls
      have hlt' : (k : Int) < (l.length : Int) := by omega
      have hk0 : (0 : Int) ≤ (k : Int) := by omega
      have HX := Lib.hid hx
      have HXS := Lib.hid (HF.out.size x hxm)
      clear hxm hx hk1 hkc
      go_upto_region 6 with fail
      obtain ⟨W2, hW2⟩ : ∃ W2, wr.alloc (.cells #[.int .i64 x.inc, .bool x.over] 78) = W2 := ⟨_, rfl⟩
      have hb2 : W2.heap[wr.heap.size]? = some (.cells #[.int .i64 x.inc, .bool x.over] 78 (0, 0)) := by rw [← hW2]; exact heap_alloc_new wr _
      have ht2 : Turns [] wr W2 := by rw [← hW2]; exact Turns.alloc _ _
      rw [hW2]
      have HTB := Lib.hid (HB.out.next ht2)
      have HB2b := Lib.hid hb2
      have HTW := Lib.hid ht2
      have HSK : Hid (∀ X, Hid (Turns [] W2 X) → X.cell? ⟨w.heap.size + 1, 1, none⟩ = some v ∧ X.cell? ⟨wr.heap.size, 0, none⟩ = some (.int .i64 x.inc) ∧ X.cell? ⟨wr.heap.size, 1, none⟩ = some (.bool x.over) ∧ X.frozen? ⟨w.heap.size + 1, 1, none⟩ = false) := Lib.hid fun X hX => by
        have h1 := HTB.out.next hX.out
        obtain ⟨_, d1, df⟩ := h1.cells
        have h2 := (hX.out.block _ (lt_of_block HB2b.out) (by simp)).trans HB2b.out
        exact ⟨d1, by simp [World.cell?, h2], by simp [World.cell?, h2], df _⟩
      have HD : Hid (Turns [] W2 W2.drew) := Lib.hid (Turns.refl [] W2).drew
      have HCL : Hid (∀ X, Hid (Turns [] W2 X) → Calls Try.prog 39 #[.string x.name] X fun e w' => e = .returned (.string x.name) ∧ Turns [] X w') := Lib.hid fun X _ => clone_wi _ _ HXS.out
      have HAP : Hid (∀ X C, Hid (Turns [] W2 X) → TellB w n v (l.take k) (X.alloc (.cells C 44)) ∧ w.heap.size + 2 ≤ (X.alloc (.cells C 44)).heap.size) := Lib.hid fun X C hX => by
        have h1 := HTB.out.next (hX.out.then (Turns.alloc (F := []) X (.cells C 44)))
        exact ⟨h1, h1.more⟩
      have HLE : Hid ((l.take k ++ [x]).length = k + 1) := Lib.hid (by simp; omega)
      have HLN : Hid ((l.take k).length + [x].length ≤ 100000) := Lib.hid (by have := HL.out; simp; omega)
      have HFIN : Hid (∀ (w3 w5 : World) (C : Array Value) (v5 : Value), Hid (Turns [] W2 w3) → Hid (cK.Own (w.heap.size + 2) w5 v5 (l.take k ++ [x])) → Hid (Turns (ownB v) (w3.alloc (.cells C 44)) w5) → Hid (∀ i ∈ ownB v5, i ∈ ownB v ∨ i = (w3.alloc (.cells C 44)).heap.size) →
          TellB w n v5 (l.take (k + 1)) (w5.setCell ⟨w.heap.size + 1, 1, none⟩ v5) ∧ (∀ i, W0.heap.size ≤ i → i < w1.heap.size → i ∉ ownB v5 ∧ (w5.setCell ⟨w.heap.size + 1, 1, none⟩ v5).heap[i]? = w1.heap[i]?) ∧ w1.heap.size ≤ (w5.setCell ⟨w.heap.size + 1, 1, none⟩ v5).heap.size) := Lib.hid fun w3 w5 C v5 h3 ho ht hf => by
        have hA := (HAP.out w3 C h3).1
        have e : l.take (k + 1) = l.take k ++ [x] := by rw [List.take_add_one, HX.out]; rfl
        rw [e]
        have hs1 : wr.heap.size ≤ (w3.alloc (.cells C 44)).heap.size := Nat.le_trans (Nat.le_trans (Nat.le_of_lt (lt_of_block HB2b.out)) h3.out.size) (by simp)
        have hs5 : (w3.alloc (.cells C 44)).heap.size ≤ w5.heap.size := ht.out.size
        have hst : Turns [w.heap.size + 1] w5 (w5.setCell ⟨w.heap.size + 1, 1, none⟩ v5) := Turns.setCell _ _ _ (by simp)
        have h1r := HS.out
        have hT3 : Turns [] wr (w3.alloc (.cells C 44)) := HTW.out.then (h3.out.then (Turns.alloc _ _))
        refine ⟨hA.app ho.out ht.out, fun i hi1 hi2 => ⟨fun hm => ?_, ?_⟩, by have := hst.size; omega⟩
        · rcases hf.out i hm with h | h
          · exact (HK.out i hi1 hi2).1 h
          · omega
        · have hk := HK.out i hi1 hi2
          have hw0 := HB0.out.more
          rw [hst.block i (by omega) (by simp; omega), ht.out.block i (by omega) hk.1, hT3.block i (by omega) (by simp), hk.2]
      obtain ⟨a0, a1, a2, a3⟩ := HSK.out _ HD
      have hwne : ¬ wr.heap.size = w.heap.size + 1 := by have := HB.out.more; omega
      clear hb2 ht2 hW2 c7 hlk hls hc1
      go_region_law ((first | (refine EK.step_append cOk (by rfl) (.tmp 32) (.tmp 40) (by rfl) (w.heap.size + 2) v (l.take k) (by rfl) (HAP.out w3 _ HT3).1.own (w3.heap.size + 1) (some ⟨w3.heap.size, 0, none⟩) [x] 1 1 (by rfl) (by rfl) (EK.Reads.lone cOk (W := w3) x _ _ (by rfl) (by rfl)) (by simp) HLN.out (HAP.out w3 _ HT3).2 ?_; intro v5 w5 ho5 ht5 hf5; obtain ⟨f0, f1⟩ := (HAP.out w3 _ HT3).1.stays ht5; obtain ⟨VA, vc, hv5, -⟩ := ho5.reads; rw [HLE.out] at hv5; subst hv5; have HO5 := Lib.hid ho5; have HT5 := Lib.hid ht5; have HF5 := Lib.hid hf5; clear ho5 ht5 hf5) | (go_simp; go_at_call 39; refine (HCL.out _ HD).mono ?_; rintro e w3 ⟨rfl, ht3⟩; have HT3 : Hid (Turns [] W2 w3) := Lib.hid (HD.out.then ht3); obtain ⟨b0, b1, b2, b3⟩ := HSK.out _ HT3; have hlt3 : w.heap.size + 1 < w3.heap.size := Nat.lt_of_lt_of_le (lt_of_block HTB.out.box) HT3.out.size; clear ht3)))
      all_goals
        clear a0 a1 a2 a3 b0 b1 b2 b3 f0 f1
        go_wp2
        go_roundw
        case rel =>
          obtain ⟨e1, e2, e3⟩ := HFIN.out w3 w5 _ _ HT3 HO5 HT5 HF5
          exact ⟨k + 1, _, by omega, by go_num, Lib.hid e1, Lib.hid e2, Lib.hid e3⟩
        case measure => simp [intOf] <;> omega
    · obtain rfl : k = l.length := by omega
      have hge : decide ((l.length : Int) < (l.length : Int)) = false := by simp
      rw [List.take_length] at HB
      obtain ⟨VA, vc, rfl, -⟩ := HB.out.own.reads
      obtain ⟨d0, d1, df⟩ := HB.out.cells
      have hr0 := HB.out.res
      have r0 : wr.cell? ⟨w.heap.size, 0, none⟩ = some (.int .i64 0) := by simp [World.cell?, hr0]
      have r1 : wr.cell? ⟨w.heap.size, 1, none⟩ = some (.slice none 0 0) := by simp [World.cell?, hr0]
      have rf : ∀ j, wr.frozen? ⟨w.heap.size, j, none⟩ = false := fun j => by simp [World.frozen?, hr0]
      have HR0 := Lib.hid hr0
      clear hr0
      go_wp2_with fail
      obtain ⟨s1, s2⟩ := win_set HR0.out (.int .i64 n) (.slice VA l.length vc)
      have ho : cK.Own w.heap.size ((wr.setCell ⟨w.heap.size, 0, none⟩ (.int .i64 n)).setCell ⟨w.heap.size, 1, none⟩ (.slice VA l.length vc)) (.slice VA l.length vc) l := (HB.out.own.turns s2 fun i hi hm => by
        have := (HB.out.own.foot i (by unfold ownB; rw [hi]; simp)).1
        simp at hm
        omega).low (by omega)
      exact bodyPost_ret (results_cell_row (P := Try.prog) rfl _ _ w.heap.size 42 #[.int .i64 n, .slice VA l.length vc] (0, 0) _ rfl s1 win_struct rfl (by kernel_rfl)) rfl ⟨_, rfl, ho, HB.out.tt.trans s2 fun i hi => .inr (by simp at hi; omega)⟩
end Go.Proofs.Ytjkkpdflijjllaa
