/- The document's meter: Put. -/
import Derived.Test.YtcjmieofmogeiaaDlMem
namespace Go.Proofs.Ytcjmieofmogeiaa
open Go.RowKit

/-- A count is written. -/
theorem RefM.count {B : Nat} {w : World} {rm rs : Nat} {T : Tl} {v : Value} {most : Nat} {L : List One} (h : RefM B w rm T rs v most L) (T' : Tl) (j : Nat) (n : Int) (he : (#[Value.pointer (some ⟨rs, 0, none⟩), .int .i64 (T.p : Int), .int .i64 (T.a : Int), .int .i64 (T.o : Int), .int .i64 (T.t : Int), .int .i64 (T.f : Int), .int .i64 (T.g : Int), .int .i64 (T.r : Int)] : Array Value).setIfInBounds j (.int .i64 n) = #[.pointer (some ⟨rs, 0, none⟩), .int .i64 (T'.p : Int), .int .i64 (T'.a : Int), .int .i64 (T'.o : Int), .int .i64 (T'.t : Int), .int .i64 (T'.f : Int), .int .i64 (T'.g : Int), .int .i64 (T'.r : Int)]) :
    RefM B (w.setCell ⟨rm, j, none⟩ (.int .i64 n)) rm T' rs v most L := by
  have ht : Turns [rm] w (w.setCell ⟨rm, j, none⟩ (.int .i64 n)) := Turns.setCell _ _ _ (by simp)
  refine ⟨?_, h.store.turns ht (fun hm => h.ne (by rw [List.mem_singleton] at hm; rw [hm]; simp)) (fun i hi hm => h.ne (by rw [List.mem_singleton] at hm; rw [← hm]; simp [hi])), h.low, h.ne⟩
  have := heap_setCell_same w rm j _ _ (.int .i64 n) h.head
  rw [he] at this
  exact this
/-- How far Put has come: its store's verdicts o, the gains so far. -/
structure PutM (B : Nat) (w : World) (rm rs : Nat) (v : Value) (most : Nat) (T : Tl) (L : List One) (S : List Sn) (G : List Gn) (o og : Value) (W : World) : Prop where
  ref : ∃ v', RefM B W rm T rs v' most L ∧ (∀ i ∈ ownB v', i ∈ ownB v ∨ w.heap.size ≤ i) ∧ (∀ i ∈ ownB o, i ∉ rm :: rs :: ownB v') ∧ ∀ i ∈ ownB og, i ∉ rm :: rs :: ownB v'
  seen : nK.Own w.heap.size W o S
  gains : gK.Own w.heap.size W og G
  apart : ∀ i ∈ ownB o, i ∉ ownB og
  tt : Turns (rm :: rs :: ownB v) w W
section
variable {B : Nat} {w W W' : World} {rm rs : Nat} {v : Value} {most : Nat} {T T' : Tl} {L : List One} {S : List Sn} {G : List Gn} {o og og' : Value}
theorem PutM.next (h : PutM B w rm rs v most T L S G o og W) (ht : Turns [] W W') : PutM B w rm rs v most T L S G o og W' := by
  obtain ⟨v', h1, h2, h3, h4⟩ := h.ref
  exact ⟨⟨v', h1.pre ht, h2, h3, h4⟩, h.seen.turns ht (by simp), h.gains.turns ht (by simp), h.apart, h.tt.trans ht (by simp)⟩
theorem PutM.drew (h : PutM B w rm rs v most T L S G o og W) : PutM B w rm rs v most T L S G o og W.drew := h.next ((Turns.refl [] W).drew)
theorem PutM.cells (h : PutM B w rm rs v most T L S G o og W) : W.cell? ⟨rm, 1, none⟩ = some (.int .i64 (T.p : Int)) ∧ W.cell? ⟨rm, 2, none⟩ = some (.int .i64 (T.a : Int)) ∧ W.cell? ⟨rm, 3, none⟩ = some (.int .i64 (T.o : Int)) ∧ W.cell? ⟨rm, 4, none⟩ = some (.int .i64 (T.t : Int)) ∧ W.cell? ⟨rm, 5, none⟩ = some (.int .i64 (T.f : Int)) ∧ W.cell? ⟨rm, 6, none⟩ = some (.int .i64 (T.g : Int)) ∧ W.cell? ⟨rm, 7, none⟩ = some (.int .i64 (T.r : Int)) ∧ ∀ j, W.frozen? ⟨rm, j, none⟩ = false := by
  obtain ⟨v', h1, _⟩ := h.ref
  exact h1.cells.2
theorem PutM.lt (h : PutM B w rm rs v most T L S G o og W) : rm < W.heap.size := by
  obtain ⟨v', h1, _⟩ := h.ref
  exact h1.lt
theorem PutM.count (h : PutM B w rm rs v most T L S G o og W) (T' : Tl) (j : Nat) (n : Int) (he : (#[Value.pointer (some ⟨rs, 0, none⟩), .int .i64 (T.p : Int), .int .i64 (T.a : Int), .int .i64 (T.o : Int), .int .i64 (T.t : Int), .int .i64 (T.f : Int), .int .i64 (T.g : Int), .int .i64 (T.r : Int)] : Array Value).setIfInBounds j (.int .i64 n) = #[.pointer (some ⟨rs, 0, none⟩), .int .i64 (T'.p : Int), .int .i64 (T'.a : Int), .int .i64 (T'.o : Int), .int .i64 (T'.t : Int), .int .i64 (T'.f : Int), .int .i64 (T'.g : Int), .int .i64 (T'.r : Int)]) :
    PutM B w rm rs v most T' L S G o og (W.setCell ⟨rm, j, none⟩ (.int .i64 n)) := by
  obtain ⟨v', h1, h2, h3, h4⟩ := h.ref
  have ht : Turns [rm] W (W.setCell ⟨rm, j, none⟩ (.int .i64 n)) := Turns.setCell _ _ _ (by simp)
  have no : ∀ x : Value, (∀ i ∈ ownB x, i ∉ rm :: rs :: ownB v') → ∀ g, x.ownBlock = some g → g ∉ [rm] := fun x hx g hg hm => by
    rw [List.mem_singleton] at hm
    exact hx g (by unfold ownB; rw [hg]; simp) (by rw [hm]; simp)
  exact ⟨⟨v', h1.count T' j n he, h2, h3, h4⟩, h.seen.turns ht (no o h3), h.gains.turns ht (no og h4), h.apart, h.tt.trans ht fun i hi => .inl (by rw [List.mem_singleton] at hi; rw [hi]; simp)⟩
theorem PutM.app (h : PutM B w rm rs v most T L S G o og W) {g2 : List Gn} (ho : gK.Own w.heap.size W' og' (G ++ g2)) (ht : Turns (ownB og) W W') (hf : ∀ i ∈ ownB og', i ∈ ownB og ∨ i = W.heap.size) : PutM B w rm rs v most T L S (G ++ g2) o og' W' := by
  obtain ⟨v', h1, h2, h3, h4⟩ := h.ref
  refine ⟨⟨v', h1.turns ht fun i hi hm => h4 i hm hi, h2, h3, fun i hi hm => ?_⟩, h.seen.turns ht fun g hg hm => h.apart g (by unfold ownB; rw [hg]; simp) hm, ho, fun i hi hm => ?_, h.tt.trans ht fun i hi => .inr (h.gains.foot i hi).1⟩
  · rcases hf i hi with e | e
    · exact h4 i e hm
    · have := (h1.foot i hm).2; omega
  · rcases hf i hm with e | e
    · exact h.apart i hi e
    · have := (h.seen.foot i hi).2; omega
end
/-- What has come in before. -/
def SnOk (x : Sn) : Prop := (-9223372036854775808 ≤ x.s.val ∧ x.s.val ≤ 9223372036854775807) ∧ -9223372036854775808 ≤ x.ahead ∧ x.ahead ≤ 9223372036854775807
set_option maxRecDepth 100000 in
set_option maxHeartbeats 16000000 in
theorem rputM_any {B : Nat} {w : World} {rm rs : Nat} {T : Tl} {v : Value} {most : Nat} {L : List One} {l : List Smp} {A : Option Addr} {c N : Nat} (h : RefM B w rm T rs v most L) (hB : B ≤ w.heap.size) (hL : L.length + l.length ≤ 90000) (hT : T.Le N) (hN : N + l.length ≤ 1000000) (hc : l.length ≤ c) (hr : sK.Reads w w.heap.size A l) (hA : l = [] ∨ ∀ a, A = some a → a.block ∉ rm :: rs :: ownB v) (owner : Int)
    (hok : ∀ x ∈ (putP most owner l L).1, SnOk x) :
    Calls Try.prog 25 #[.pointer (some ⟨rm, 0, none⟩), .int .i64 owner, .slice A l.length c] w fun e w' => ∃ o og, e = .returned (.tuple #[o, og]) ∧ PutM B w rm rs v most (tallyL T (putP most owner l L).1) (putP most owner l L).2 (putP most owner l L).1 (gainsL (putP most owner l L).1) o og w' := by
  obtain ⟨e0, -⟩ := h.cells
  have HP := Lib.hid (rput_any h.store hB hL hc hr (hA.imp id fun h a e hm => h a e (List.mem_cons_of_mem _ hm)) owner)
  have HL1 : Hid ((putP most owner l L).1.length = l.length) := Lib.hid (by have := (putsP_len most owner l L).1; unfold putP; exact this)
  have HST : Hid (∀ o W, PutI B w rs v most (putP most owner l L) o W → PutM B w rm rs v most T (putP most owner l L).2 (putP most owner l L).1 [] o (.slice none 0 0) W) := Lib.hid (fun o W hI => by
    obtain ⟨v', h1, h2, h3⟩ := hI.old
    have hn : rm ∉ rs :: ownB v := h.ne
    have hlt := h.lt
    have hrs := h.store.lt
    have hne' : rm ∉ rs :: ownB v' := fun hm => by
      rcases List.mem_cons.1 hm with e | e
      · exact hn (by rw [e]; simp)
      · rcases h2 rm e with e | e
        · exact hn (List.mem_cons_of_mem _ e)
        · omega
    refine ⟨⟨v', ⟨(hI.tt.block rm hlt hn).trans h.head, h1, h.low, hne'⟩, h2, fun i hi hm => ?_, fun i hi => by simp [ownB, Value.ownBlock] at hi⟩, hI.out, World.ownsRow_nil _ _ _ _, fun i hi hm => by simp [ownB, Value.ownBlock] at hm, hI.tt.mono fun i hi => List.mem_cons_of_mem _ hi⟩
    have hw := (hI.out.foot i hi).1
    rcases List.mem_cons.1 hm with e | hm
    · omega
    · rcases List.mem_cons.1 hm with e | e
      · omega
      · exact h3 i hi e)
  generalize putP most owner l L = q at HP HL1 HST hok ⊢
  have HOK := Lib.hid hok
  have HT := Lib.hid hT
  have HN := Lib.hid hN
  obtain ⟨NN, hNN⟩ : ∃ NN, NN = l.length := ⟨_, rfl⟩
  rw [← hNN] at HP HL1 HN ⊢
  have hnn : (NN : Int) ≤ 90000 := by omega
  clear h hB hL hT hN hc hr hA hok hNN
  go_enter Try.func25, Try.ntmps25
  go_wp2_with fail
  refine HP.out.mono ?_
  rintro e w1 ⟨o, rfl, hI⟩
  have HM := Lib.hid (HST.out o w1 hI)
  obtain ⟨A1, c1, rfl, -, -, -⟩ := hI.out.reads
  rw [HL1.out] at HM ⊢
  clear hI HP HST e0
  go_wp2_with fail
  go_loopw [9, 10] (fun og iv wr => ∃ k : Nat, k ≤ NN ∧ iv = .int .i64 (k : Int) ∧ Hid (PutM B w rm rs v most (tallyL T (q.1.take k)) q.2 q.1 (gainsL (q.1.take k)) (.slice A1 NN c1) og wr)) (fun _ iv _ => NN - (intOf iv).toNat)
  case atStart => exact ⟨0, Nat.zero_le _, rfl, HM⟩
  case round =>
    obtain ⟨k, hk, rfl, HX⟩ := hrel
    have hk0 : (0 : Int) ≤ (k : Int) := by omega
    by_cases hlt : k < NN
    · have hlt' : (k : Int) < (NN : Int) := by omega
      obtain ⟨x, hx⟩ : ∃ x, q.1[k]? = some x := ⟨_, List.getElem?_eq_getElem (by have := HL1.out; omega)⟩
      have htk : q.1.take (k + 1) = q.1.take k ++ [x] := by rw [List.take_add_one, hx]; rfl
      have hle : (tallyL T (q.1.take k)).Le (N + NN) := by
        have := HT.out.list (q.1.take k)
        rw [List.length_take, HL1.out] at this
        obtain ⟨t1, t2, t3, t4, t5, t6, t7⟩ := this
        exact ⟨by omega, by omega, by omega, by omega, by omega, by omega, by omega⟩
      have HTK := Lib.hid (show tallyL T (q.1.take (k + 1)) = (tallyL T (q.1.take k)).one x ∧ gainsL (q.1.take (k + 1)) = gainsL (q.1.take k) ++ (if hasG x then [gainS x] else []) from by rw [htk]; exact ⟨tallyL_snoc _ _ _, gainsL_snoc _ _⟩)
      have HGL := Lib.hid (show (gainsL (q.1.take k)).length ≤ 90000 by have := gainsL_len (q.1.take k); rw [List.length_take] at this; omega)
      have hxo := HOK.out x (List.mem_of_getElem? hx)
      have HGN := Lib.hid (fun W => rgain_any x.ahead x.s.val hxo.2 hxo.1 W)
      obtain ⟨A1', c1', e1, hr1, -⟩ := HX.out.seen.reads
      obtain ⟨e11, -, e13⟩ := Value.slice.inj e1
      subst e11 e13
      obtain ⟨g5, o5, rfl, hg5, hcl5⟩ := hr1.at nOk (by have := HL1.out; omega)
      have hc5 := hcl5 k x hx
      have k0 := hc5 0 _ rfl
      have k1 := hc5 1 _ rfl
      have k2 := hc5 2 _ rfl
      have k3 := hc5 3 _ rfl
      have k4 := hc5 4 _ rfl
      have k5 := hc5 5 _ rfl
      have k6 := hc5 6 _ rfl
      simp only [nK, Nat.add_zero, ← Nat.add_assoc] at k0 k1 k2 k3 k4 k5 k6
      have hti := tl_in hle (by have := HN.out; omega)
      have HTI := Lib.hid hti
      generalize tallyL T (q.1.take k) = T1 at HX HTK HTI
      generalize gainsL (q.1.take k) = G1 at HX HTK HGL
      clear hle hti hxo e1 hr1 hg5 hcl5 hc5 hx htk
      go_upto_region 7 with fail
      have HT2 : Hid (Turns [] wr (wr.alloc (.cells #[.string x.s.name, .int .i64 x.s.val, .int .i64 x.s.tm, .bool x.s.cnt, .int .i64 x.v, .bool x.chain, .int .i64 x.ahead] 71))) := Lib.hid (Turns.alloc _ _)
      have hbx := heap_alloc_new wr (.cells #[.string x.s.name, .int .i64 x.s.val, .int .i64 x.s.tm, .bool x.s.cnt, .int .i64 x.v, .bool x.chain, .int .i64 x.ahead] 71)
      have hrm := HX.out.lt
      have hbl : wr.heap.size < (wr.alloc (.cells #[.string x.s.name, .int .i64 x.s.val, .int .i64 x.s.tm, .bool x.s.cnt, .int .i64 x.v, .bool x.chain, .int .i64 x.ahead] 71)).heap.size := by simp
      obtain ⟨bx, hbxe⟩ : ∃ bx, bx = wr.heap.size := ⟨_, rfl⟩
      rw [← hbxe] at hbx hrm hbl ⊢
      generalize wr.alloc (.cells #[.string x.s.name, .int .i64 x.s.val, .int .i64 x.s.tm, .bool x.s.cnt, .int .i64 x.v, .bool x.chain, .int .i64 x.ahead] 71) = w2 at HT2 hbx hbl ⊢
      have HX2 := Lib.hid (HX.out.next HT2.out)
      have HBX : Hid (w2.heap[bx]? = some (.cells #[.string x.s.name, .int .i64 x.s.val, .int .i64 x.s.tm, .bool x.s.cnt, .int .i64 x.v, .bool x.chain, .int .i64 x.ahead] 71 (0, 0))) := Lib.hid hbx
      have HBN : Hid (bx ≠ rm ∧ bx ∉ ownB u9 ∧ rm ≠ bx) := Lib.hid ⟨by omega, fun hm => by have := (HX.out.gains.foot _ hm).2; omega, by omega⟩
      obtain ⟨t1, -, -, -, -, -, -, tf⟩ := HX2.out.cells
      have htp := HTI.out.1
      have hbr : ¬ bx = rm := HBN.out.1
      have hrb : ¬ rm = bx := HBN.out.2.2
      clear k0 k1 k2 k3 k4 k5 k6 HX HT2 hbx hrm hbl hbxe
      go_upto_region 8 with fail
      have HX3 := Lib.hid (HX2.out.count { T1 with p := T1.p + 1 } 1 ((T1.p : Int) + 1) (by simp))
      have HB3 := Lib.hid ((Turns.setCell (F := [rm]) w2 ⟨rm, 1, none⟩ (.int .i64 ((T1.p : Int) + 1)) (by simp)).block bx (lt_of_block HBX.out) (by simpa using HBN.out.1) |>.trans HBX.out)
      generalize w2.setCell ⟨rm, 1, none⟩ (.int .i64 ((T1.p : Int) + 1)) = w3 at HX3 HB3 ⊢
      clear HX2 HBX t1 tf
      have HC3 : Hid (∀ W : World, W.heap[bx]? = w3.heap[bx]? → W.cell? ⟨bx, 0, none⟩ = some (.string x.s.name) ∧ W.cell? ⟨bx, 1, none⟩ = some (.int .i64 x.s.val) ∧ W.cell? ⟨bx, 2, none⟩ = some (.int .i64 x.s.tm) ∧ W.cell? ⟨bx, 3, none⟩ = some (.bool x.s.cnt) ∧ W.cell? ⟨bx, 4, none⟩ = some (.int .i64 x.v) ∧ W.cell? ⟨bx, 5, none⟩ = some (.bool x.chain) ∧ W.cell? ⟨bx, 6, none⟩ = some (.int .i64 x.ahead)) := Lib.hid (fun W hW => by
        have h := hW.trans HB3.out
        refine ⟨?_, ?_, ?_, ?_, ?_, ?_, ?_⟩ <;> simp [World.cell?, h])
      obtain ⟨k0, k1, k2, k3, k4, k5, k6⟩ := HC3.out w3 rfl
      obtain ⟨-, t2, t3, t4, t5, -, -, tf⟩ := HX3.out.cells
      have htj := HTI.out
      obtain ⟨hj1, hj2, hj3, hj4, hj5, hj6, hj7⟩ := htj
      go_upto_block 2 with fail
      go_cut [51] from 51 to 83 (fun u wx => Hid (PutM B w rm rs v most (T1.seen x.v) q.2 q.1 G1 (.slice (some ⟨g5, o5, none⟩) NN c1) u9 wx ∧ wx.heap[bx]? = w3.heap[bx]?))
      case first =>
        have HSB : Hid (∀ (j : Nat) (n : Int), (w3.setCell ⟨rm, j, none⟩ (.int .i64 n)).heap[bx]? = w3.heap[bx]?) := Lib.hid (fun j n => (Turns.setCell (F := [rm]) w3 ⟨rm, j, none⟩ (.int .i64 n) (by simp)).block bx (lt_of_block HB3.out) (by simpa using HBN.out.1))
        by_cases v1 : x.v = 1
        · have e1 : (x.v == 1) = true := by simpa using v1
          have HY := Lib.hid (HX3.out.count (T1.seen x.v) 2 ((T1.a : Int) + 1) (by simp [Tl.seen, v1]))
          clear v1
          go_wp2_with fail
          go_meet
          exact Lib.hid ⟨HY.out, HSB.out _ _⟩
        have e1 : (x.v == 1) = false := by simpa using v1
        by_cases v2 : x.v = 2
        · have e2 : (x.v == 2) = true := by simpa using v2
          have HY := Lib.hid (HX3.out.count (T1.seen x.v) 3 ((T1.o : Int) + 1) (by simp [Tl.seen, v2]))
          clear v1 v2
          go_wp2_with fail
          go_meet
          exact Lib.hid ⟨HY.out, HSB.out _ _⟩
        have e2 : (x.v == 2) = false := by simpa using v2
        by_cases v3 : x.v = 3
        · have e3 : (x.v == 3) = true := by simpa using v3
          have HY := Lib.hid (HX3.out.count (T1.seen x.v) 4 ((T1.t : Int) + 1) (by simp [Tl.seen, v3]))
          clear v1 v2 v3
          go_wp2_with fail
          go_meet
          exact Lib.hid ⟨HY.out, HSB.out _ _⟩
        have e3 : (x.v == 3) = false := by simpa using v3
        have HY := Lib.hid (HX3.out.count (T1.seen x.v) 5 ((T1.f : Int) + 1) (by simp [Tl.seen, v1, v2, v3]))
        clear v1 v2 v3
        go_wp2_with fail
        go_meet
        exact Lib.hid ⟨HY.out, HSB.out _ _⟩
      case rest =>
      have HX4 := Lib.hid hcut.out.1
      have HE4 := Lib.hid hcut.out.2
      clear hcut k0 k1 k2 k3 k4 k5 k6 t2 t3 t4 t5 tf HX3 hj1 hj2 hj3 hj4 hj5 htp
      obtain ⟨k0, k1, k2, k3, k4, k5, k6⟩ := HC3.out wc HE4.out
      have hsg : (T1.seen x.v).g = T1.g ∧ (T1.seen x.v).r = T1.r := by
        unfold Tl.seen
        repeat' split
        all_goals exact ⟨rfl, rfl⟩
      obtain ⟨T2, hT2⟩ : ∃ T2, T2 = T1.seen x.v := ⟨_, rfl⟩
      have HONE : Hid (T1.one x = if hasG x then T2.gain (gainL x.ahead x.s.val).2 else T2) := Lib.hid (by rw [hT2]; rfl)
      rw [← hT2] at HX4 hsg
      have hg6 : (T2.g : Int) ≤ 1000000 := by rw [hsg.1]; exact hj6
      have hr7 : (T2.r : Int) ≤ 1000000 := by rw [hsg.2]; exact hj7
      clear hT2 hsg hj6 hj7
      cases hch : x.chain with
      | false =>
        rw [hch] at k5
        have HG0 := Lib.hid (show hasG x = false by simp [hasG, hch])
        go_wp2_with fail
        go_roundw
        case rel => exact ⟨k + 1, by omega, by go_num, by rw [HTK.out.1, HTK.out.2, HONE.out, HG0.out]; simp only [Bool.false_eq_true, if_false, List.append_nil]; exact HX4⟩
        case measure => simp [intOf] <;> omega
      | true =>
        rw [hch] at k5
        cases hcn : x.s.cnt with
        | false =>
          rw [hcn] at k3
          have HG0 := Lib.hid (show hasG x = false by simp [hasG, hcn])
          go_wp2_with fail
          go_roundw
          case rel => exact ⟨k + 1, by omega, by go_num, by rw [HTK.out.1, HTK.out.2, HONE.out, HG0.out]; simp only [Bool.false_eq_true, if_false, List.append_nil]; exact HX4⟩
          case measure => simp [intOf] <;> omega
        | true =>
          rw [hcn] at k3
          have HG0 := Lib.hid (show hasG x = true by simp [hasG, hch, hcn])
          have HGS := Lib.hid (show gainS x = ⟨x.s.name, x.s.tm, (gainL x.ahead x.s.val).1, (gainL x.ahead x.s.val).2⟩ from rfl)
          generalize gainL x.ahead x.s.val = gl at HGN HONE HGS
          obtain ⟨gi, gr⟩ := gl
          simp only at HGN HONE HGS
          go_wp2_with fail
          refine (HGN.out _).mono ?_
          rintro e w5 ⟨rfl, rfl⟩
          have HOA := Lib.hid (fun (C' : Obj) => (HX4.out.next (Turns.alloc (F := []) wc C')))
          have HBA := Lib.hid (fun (C' : Obj) => show w.heap.size ≤ (wc.alloc C').heap.size from Nat.le_trans HX4.out.tt.size (by simp))
          have HLA := Lib.hid (show G1.length + [gainS x].length ≤ 100000 by have := HGL.out; simp; omega)
          cases gr with
          | false =>
            go_wp2_with (at_builtin; refine EK.wpList_append gOk rfl (.tmp 100) (.tmp 110) rfl w.heap.size u9 G1 rfl (HOA.out _).gains (wc.heap.size + 1) (some ⟨wc.heap.size, 0, none⟩) [gainS x] 1 1 rfl rfl (by rw [HGS.out]; exact EK.Reads.lone gOk (W := wc) _ _ _ rfl rfl) (by simp) HLA.out (HBA.out _) ?_; intro v2 w6 ho2 ht2 hf2; have HA2 := Lib.hid ((HOA.out _).app ho2 ht2 hf2); obtain ⟨-, -, -, -, -, u6, u7, uf⟩ := HA2.out.cells; clear ho2 ht2 hf2)
            have HY := Lib.hid (HA2.out.count (T2.gain false) 6 ((T2.g : Int) + 1) (by simp [Tl.gain]))
            refine ⟨⟨k + 1, by omega, by go_num, ?_⟩, by simp [intOf] <;> omega⟩
            rw [HTK.out.1, HTK.out.2, HONE.out, HG0.out]
            simp only [if_true]
            exact HY
          | true =>
            go_wp2_with (at_builtin; refine EK.wpList_append gOk rfl (.tmp 100) (.tmp 110) rfl w.heap.size u9 G1 rfl (HOA.out _).gains (wc.heap.size + 1) (some ⟨wc.heap.size, 0, none⟩) [gainS x] 1 1 rfl rfl (by rw [HGS.out]; exact EK.Reads.lone gOk (W := wc) _ _ _ rfl rfl) (by simp) HLA.out (HBA.out _) ?_; intro v2 w6 ho2 ht2 hf2; have HA2 := Lib.hid ((HOA.out _).app ho2 ht2 hf2); obtain ⟨-, -, -, -, -, u6, u7, uf⟩ := HA2.out.cells; clear ho2 ht2 hf2)
            have HY := Lib.hid ((HA2.out.count (T2.gain false) 6 ((T2.g : Int) + 1) (by simp [Tl.gain])).count (T2.gain true) 7 ((T2.r : Int) + 1) (by simp [Tl.gain]))
            refine ⟨⟨k + 1, by omega, by go_num, ?_⟩, by simp [intOf] <;> omega⟩
            rw [HTK.out.1, HTK.out.2, HONE.out, HG0.out]
            simp only [if_true]
            exact HY
    · have hge : decide ((k : Int) < (NN : Int)) = false := by simp; omega
      obtain rfl : k = NN := by omega
      rw [List.take_of_length_le (by rw [HL1.out]; exact Nat.le_refl _)] at HX
      go_wp2_with fail
      go_ret2
      exact ⟨_, _, rfl, HX.out⟩
end Go.Proofs.Ytcjmieofmogeiaa
