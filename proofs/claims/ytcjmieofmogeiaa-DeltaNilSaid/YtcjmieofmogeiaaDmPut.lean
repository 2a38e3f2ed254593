/- The program's Put of a meter. -/
import Derived.Test.YtcjmieofmogeiaaDmGain
import Derived.Test.YtcjmieofmogeiaaDlVerd
import Derived.Test.YtcjmieofmogeiaaDlC
namespace Go.Proofs.Ytcjmieofmogeiaa
open Go.RowKit

theorem oneP_vn {most : Nat} {owner : Int} {x : Smp} {L : List One} : (oneP most owner x L).1.s = x ∧ ((oneP most owner x L).1.v = 1 ∨ (oneP most owner x L).1.v = 2 ∨ (oneP most owner x L).1.v = 3 ∨ (oneP most owner x L).1.v = 4) := by
  unfold oneP
  split
  · split <;> simp
  · split
    · simp
    · split
      · simp
      · split
        · simp
        · split <;> simp
theorem putsP_vn {most : Nat} {owner : Int} : ∀ {l : List Smp} {L : List One}, ∀ y ∈ (putsP most owner l L).1, (∃ x ∈ l, y.s = x) ∧ (y.v = 1 ∨ y.v = 2 ∨ y.v = 3 ∨ y.v = 4)
  | [], L, y, h => by cases h
  | x :: l, L, y, h => by
    rcases List.mem_cons.1 (show y ∈ (oneP most owner x L).1 :: (putsP most owner l (oneP most owner x L).2).1 from h) with rfl | h
    · exact ⟨⟨x, by simp, oneP_vn.1⟩, oneP_vn.2⟩
    · obtain ⟨⟨z, hz, e⟩, hv⟩ := putsP_vn y h
      exact ⟨⟨z, List.mem_cons_of_mem _ hz, e⟩, hv⟩
theorem putP_vn {most : Nat} {owner : Int} {l : List Smp} {L : List One} (hl : ∀ x ∈ l, NmOk x.name) : ∀ y ∈ (putP most owner l L).1, NmOk y.s.name ∧ (y.v = 1 ∨ y.v = 2 ∨ y.v = 3 ∨ y.v = 4) := fun y hy => by
  obtain ⟨⟨x, hx, e⟩, hv⟩ := putsP_vn y hy
  exact ⟨by rw [e]; exact hl x hx, hv⟩
/-- Where a verdict's count stands. -/
abbrev cntF (p : Nat) : Int → Option Value := fun k => if 1 ≤ k ∧ k ≤ 4 then some (.pointer (some ⟨p, 2 + k.toNat, none⟩)) else none
theorem mapG_not_own {α : Type} {K : EK α} {B bm : Nat} {W : World} {R : RdV} {k : TypeId} {κ : Type} {T : KD k κ} {f : κ → Option Value} {c : Nat} (hm : MapG T R W bm f c) {o : Value} {l : List α} (ho : K.Own B W o l) : bm ∉ ownB o := by
  obtain ⟨es, cl, hc⟩ := hm.blk
  intro hi
  obtain ⟨cur, hc'⟩ := own_cells ho bm hi
  rw [hc] at hc'
  cases hc'
/-- How far Put has come: its store's verdicts o, the gains so far, the map of counts. -/
structure DmJ (B : Nat) (w : World) (p b bm most : Nat) (F : List Nat) (T : Tl) (L : List One) (S : List Sn) (G : List Gn) (o og : Value) (W : World) : Prop where
  ref : ∃ F' P', @Sr (meterHd T) B W p b F' most P' L ∧ (∀ i ∈ F', i ∈ F ∨ w.heap.size ≤ i) ∧ (∀ i ∈ ownB o, i ∉ F') ∧ ∀ i ∈ ownB og, i ∉ F'
  seen : nK.Own w.heap.size W o S
  gains : gK.Own w.heap.size W og G
  apart : ∀ i ∈ ownB o, i ∉ ownB og
  vm : ∃ n, MapG verdKD vread W bm (cntF p) n
  pf : p ∈ F
  tt : Turns F w W
section
variable {B : Nat} {w W W' : World} {p b bm most : Nat} {F : List Nat} {T T' : Tl} {L : List One} {S : List Sn} {G : List Gn} {o og og' : Value}
theorem DmJ.head (h : DmJ B w p b bm most F T L S G o og W) : HeadM W p most b T := by
  obtain ⟨F', P', h1, _⟩ := h.ref
  exact h1.sm.headM
theorem DmJ.lt (h : DmJ B w p b bm most F T L S G o og W) : p < W.heap.size := lt_of_block h.head
theorem DmJ.next (h : DmJ B w p b bm most F T L S G o og W) (ht : Turns [] W W') : DmJ B w p b bm most F T L S G o og W' := by
  obtain ⟨F', P', h1, h2, h3, h4⟩ := h.ref
  obtain ⟨n, hn⟩ := h.vm
  exact ⟨⟨F', P', ⟨h1.sm.pre ht, h1.tel, h1.cov, fun i hi => ⟨(h1.foot i hi).1, Nat.lt_of_lt_of_le (h1.foot i hi).2 ht.size⟩⟩, h2, h3, h4⟩, h.seen.turns ht (by simp), h.gains.turns ht (by simp), h.apart, ⟨n, hn.turns ht (by simp)⟩, h.pf, h.tt.trans ht (by simp)⟩
/-- Counts are written. -/
theorem DmJ.write (h : DmJ B w p b bm most F T L S G o og W) (hh : HeadM W' p most b T') (ht : Turns [p] W W') : DmJ B w p b bm most F T' L S G o og W' := by
  have hhd := h.head
  obtain ⟨F', P', h1, h2, h3, h4⟩ := h.ref
  obtain ⟨n, hn⟩ := h.vm
  have hp := h1.cov p (.inl rfl)
  have no : ∀ x : Value, (∀ i ∈ ownB x, i ∉ F') → ∀ g, x.ownBlock = some g → g ∉ [p] := fun x hx g hg hm => by
    rw [List.mem_singleton] at hm
    exact hx g (by unfold ownB; rw [hg]; simp) (by rw [hm]; exact hp)
  refine ⟨⟨F', P', h1.rehead hh ht, h2, h3, h4⟩, h.seen.turns ht (no o h3), h.gains.turns ht (no og h4), h.apart, ⟨n, hn.turns ht fun hm => ?_⟩, h.pf, h.tt.trans ht fun i hi => .inl (by rw [List.mem_singleton] at hi; rw [hi]; exact h.pf)⟩
  rw [List.mem_singleton] at hm
  subst hm
  obtain ⟨es, cl, hc⟩ := hn.blk
  unfold HeadM at hhd
  rw [hc] at hhd
  cases hhd
theorem DmJ.app (h : DmJ B w p b bm most F T L S G o og W) {g2 : List Gn} (ho : gK.Own w.heap.size W' og' (G ++ g2)) (ht : Turns (ownB og) W W') (hf : ∀ i ∈ ownB og', i ∈ ownB og ∨ i = W.heap.size) : DmJ B w p b bm most F T L S (G ++ g2) o og' W' := by
  obtain ⟨F', P', h1, h2, h3, h4⟩ := h.ref
  obtain ⟨n, hn⟩ := h.vm
  refine ⟨⟨F', P', ⟨h1.sm.turns ht (fun hm => h4 p hm (h1.cov p (.inl rfl))) (fun i hi hin => h4 i hi (h1.cov i (.inr hin))), h1.tel, h1.cov, fun i hi => ⟨(h1.foot i hi).1, Nat.lt_of_lt_of_le (h1.foot i hi).2 ht.size⟩⟩, h2, h3, fun i hi hm => ?_⟩, h.seen.turns ht fun g hg hm => h.apart g (by unfold ownB; rw [hg]; simp) hm, ho, fun i hi hm => ?_, ⟨n, hn.turns ht (mapG_not_own hn h.gains)⟩, h.pf, h.tt.trans ht fun i hi => .inr (h.gains.foot i hi).1⟩
  · rcases hf i hi with e | e
    · exact h4 i e hm
    · have := (h1.foot i hm).2; omega
  · rcases hf i hm with e | e
    · exact h.apart i hi e
    · have := (h.seen.foot i hi).2; omega
/-- A verdict's count: where it stands, what it is, what it is then. -/
theorem DmJ.look (h : DmJ B w p b bm most F { T with p := T.p + 1 } L S G o og W) {v : Int} (hv : v = 1 ∨ v = 2 ∨ v = 3 ∨ v = 4) (hT : (T.a : Int) ≤ 1000000 ∧ (T.o : Int) ≤ 1000000 ∧ (T.t : Int) ≤ 1000000 ∧ (T.f : Int) ≤ 1000000) :
    ∃ a cnt : Nat, (Instr.lookup 78 (.map (some bm)) (.int .i64 v) false).run Try.prog W = .ok (.pointer (some ⟨p, a, none⟩)) W ∧ W.cell? ⟨p, a, none⟩ = some (.int .i64 (cnt : Int)) ∧ (cnt : Int) ≤ 1000000 ∧ W.frozen? ⟨p, a, none⟩ = false ∧ HeadM (W.setCell ⟨p, a, none⟩ (.int .i64 ((cnt : Int) + 1))) p most b (T.seen v) := by
  obtain ⟨n, hn⟩ := h.vm
  have hl := hn.lookup (t := 78) (e := 81) verd_keyed Try.underlying78 vread_inj (z := .pointer none) (by kernel_rfl) (zd := .nil) (zp := []) rfl (x := v) (by
    show (Lit.int .i64 v).wf = true
    rcases hv with rfl | rfl | rfl | rfl <;> rfl)
  obtain ⟨c1, c2, c3, c4, c5, c6, c7, cf⟩ := h.head.cells
  obtain ⟨t1, t2, t3, t4⟩ := hT
  rcases hv with rfl | rfl | rfl | rfl
  · exact ⟨3, T.a, hl, c2, t1, cf _, h.head.set (T.seen 1) 1 _ (by simp [Tl.cells, Tl.seen])⟩
  · exact ⟨4, T.o, hl, c3, t2, cf _, h.head.set (T.seen 2) 2 _ (by simp [Tl.cells, Tl.seen])⟩
  · exact ⟨5, T.t, hl, c4, t3, cf _, h.head.set (T.seen 3) 3 _ (by simp [Tl.cells, Tl.seen])⟩
  · exact ⟨6, T.f, hl, c5, t4, cf _, h.head.set (T.seen 4) 4 _ (by simp [Tl.cells, Tl.seen])⟩
end
end Go.Proofs.Ytcjmieofmogeiaa

namespace Go.Proofs.Ytcjmieofmogeiaa
open Go.RowKit

set_option maxRecDepth 100000 in
set_option maxHeartbeats 16000000 in
theorem putM_any {B : Nat} {w : World} {p b most : Nat} {F : List Nat} {T : Tl} {P : PM} {L : List One} {l : List Smp} {A : Option Addr} {c N : Nat} (h : @Sr (meterHd T) B w p b F most P L) (hB : B ≤ w.heap.size) (hL : L.length + l.length ≤ 90000) (hT : T.Le N) (hN : N + l.length ≤ 1000000) (hc : l.length ≤ c) (hr : sK.Reads w w.heap.size A l) (hA : l = [] ∨ ∀ a, A = some a → a.block ∉ F) (owner : Int)
    (hx : ∀ x ∈ l, NmOk x.name) (hok : ∀ x ∈ (putP most owner l L).1, SnOk x) :
    Calls Try.prog 16 #[ptr p, .int .i64 owner, .slice A l.length c] w fun e w' => ∃ o og bm, e = .returned (.tuple #[o, og]) ∧ DmJ B w p b bm most F (tallyL T (putP most owner l L).1) (putP most owner l L).2 (putP most owner l L).1 (gainsL (putP most owner l L).1) o og w' := by
  have HP := Lib.hid (putSt_any h hB hL hc hr hA owner hx)
  have HVN := Lib.hid (putP_vn (most := most) (owner := owner) (L := L) hx)
  have HL1 : Hid ((putP most owner l L).1.length = l.length) := Lib.hid (by have := (putsP_len most owner l L).1; unfold putP; exact this)
  have HPF := Lib.hid (h.cov p (.inl rfl))
  generalize putP most owner l L = q at HP HL1 HVN hok ⊢
  have HOK := Lib.hid hok
  have HT := Lib.hid hT
  have HN := Lib.hid hN
  obtain ⟨NN, hNN⟩ : ∃ NN, NN = l.length := ⟨_, rfl⟩
  rw [← hNN] at HP HL1 HN ⊢
  have hnn : (NN : Int) ≤ 90000 := by omega
  clear h hB hL hT hN hc hr hA hx hok hNN
  go_enter Try.func16, Try.ntmps16
  go_wp2_with fail
  refine HP.out.mono ?_
  rintro e w1 ⟨o, F1, P1, rfl, ho1, hs1, ht1, hf1, hof1⟩
  have HO1 := Lib.hid ho1
  have HS1 := Lib.hid hs1
  have HT1 := Lib.hid ht1
  have HF1 := Lib.hid hf1
  have HOF1 := Lib.hid hof1
  obtain ⟨A1, c1, rfl, -, -, -⟩ := ho1.reads
  clear HP ho1 hs1 ht1 hf1 hof1
  rw [HL1.out] at HO1 HOF1 ⊢
  go_wp2_with fail
  refine (byVerd_any p 2 w1).mono ?_
  rintro e w2 ⟨bm, n, rfl, hbm, hM, ht2⟩
  have HM : Hid (DmJ B w p b bm most F T q.2 q.1 [] (.slice A1 NN c1) (.slice none 0 0) w2) := Lib.hid ⟨⟨F1, P1, ⟨HS1.out.sm.pre ht2, HS1.out.tel, HS1.out.cov, fun i hi => ⟨(HS1.out.foot i hi).1, Nat.lt_of_lt_of_le (HS1.out.foot i hi).2 ht2.size⟩⟩, HF1.out, HOF1.out, fun i hi => by simp [ownB, Value.ownBlock] at hi⟩, HO1.out.turns ht2 (by simp), World.ownsRow_nil _ _ _ _, fun i hi hm => by simp [ownB, Value.ownBlock] at hm, ⟨n, hM⟩, HPF.out, HT1.out.trans ht2 (by simp)⟩
  clear hbm hM ht2 HO1 HS1 HT1 HF1 HOF1
  go_wp2_with fail
  go_loopw [10, 27] (fun og iv wr => ∃ k : Nat, k ≤ NN ∧ iv = .int .i64 (k : Int) ∧ Hid (DmJ B w p b bm most F (tallyL T (q.1.take k)) q.2 q.1 (gainsL (q.1.take k)) (.slice A1 NN c1) og wr)) (fun _ iv _ => NN - (intOf iv).toNat)
  case atStart => exact ⟨0, Nat.zero_le _, rfl, HM⟩
  case round =>
    obtain ⟨k, hk, rfl, HX⟩ := hrel
    have hk0 : (0 : Int) ≤ (k : Int) := by omega
    by_cases hlt : k < NN
    · have hlt' : (k : Int) < (NN : Int) := by omega
      obtain ⟨x, hx⟩ : ∃ x, q.1[k]? = some x := ⟨_, List.getElem?_eq_getElem (by have := HL1.out; omega)⟩
      have htk : q.1.take (k + 1) = q.1.take k ++ [x] := by rw [List.take_add_one, hx]; rfl
      have hle : (tallyL T (q.1.take k)).Le (N + NN) := by
        have := HT.out.list (q.1.take k)
        rw [List.length_take, HL1.out] at this
        obtain ⟨t1, t2, t3, t4, t5, t6, t7⟩ := this
        exact ⟨by omega, by omega, by omega, by omega, by omega, by omega, by omega⟩
      have HTK := Lib.hid (show tallyL T (q.1.take (k + 1)) = (tallyL T (q.1.take k)).one x ∧ gainsL (q.1.take (k + 1)) = gainsL (q.1.take k) ++ (if hasG x then [gainS x] else []) from by rw [htk]; exact ⟨tallyL_snoc _ _ _, gainsL_snoc _ _⟩)
      have HGL := Lib.hid (show (gainsL (q.1.take k)).length ≤ 90000 by have := gainsL_len (q.1.take k); rw [List.length_take] at this; omega)
      have HXO := Lib.hid (HOK.out x (List.mem_of_getElem? hx))
      have HXV := Lib.hid (HVN.out x (List.mem_of_getElem? hx))
      obtain ⟨A1', c1', e1, hr1, -⟩ := HX.out.seen.reads
      obtain ⟨e11, -, e13⟩ := Value.slice.inj e1
      subst e11 e13
      obtain ⟨g5, o5, rfl, hg5, hcl5⟩ := hr1.at nOk (by have := HL1.out; omega)
      have hc5 := hcl5 k x hx
      have k0 := hc5 0 _ rfl
      have k1 := hc5 1 _ rfl
      have k2 := hc5 2 _ rfl
      have k3 := hc5 3 _ rfl
      have k4 := hc5 4 _ rfl
      have k5 := hc5 5 _ rfl
      have k6 := hc5 6 _ rfl
      simp only [nK, Nat.add_zero, ← Nat.add_assoc] at k0 k1 k2 k3 k4 k5 k6
      have hti := tl_in hle (by have := HN.out; omega)
      have HTI := Lib.hid hti
      generalize tallyL T (q.1.take k) = T1 at HX HTK HTI
      generalize gainsL (q.1.take k) = G1 at HX HTK HGL
      clear hle hti e1 hr1 hg5 hcl5 hc5 hx htk
      go_upto_region 9 with fail
      obtain ⟨bx, hbxe⟩ : ∃ bx, bx = wr.heap.size := ⟨_, rfl⟩
      have HX2 := Lib.hid (HX.out.next (Turns.alloc (F := []) wr (.cells #[.string x.s.name, .int .i64 x.s.val, .int .i64 x.s.tm, .bool x.s.cnt, .int .i64 x.v, .bool x.chain, .int .i64 x.ahead] 71)))
      have hbx := heap_alloc_new wr (.cells #[.string x.s.name, .int .i64 x.s.val, .int .i64 x.s.tm, .bool x.s.cnt, .int .i64 x.v, .bool x.chain, .int .i64 x.ahead] 71)
      have hrm := HX.out.lt
      rw [← hbxe] at hbx hrm ⊢
      generalize wr.alloc (.cells #[.string x.s.name, .int .i64 x.s.val, .int .i64 x.s.tm, .bool x.s.cnt, .int .i64 x.v, .bool x.chain, .int .i64 x.ahead] 71) = w2 at HX2 hbx ⊢
      have HC3 : Hid (∀ W : World, Turns [p] w2 W → W.cell? ⟨bx, 0, none⟩ = some (.string x.s.name) ∧ W.cell? ⟨bx, 1, none⟩ = some (.int .i64 x.s.val) ∧ W.cell? ⟨bx, 2, none⟩ = some (.int .i64 x.s.tm) ∧ W.cell? ⟨bx, 3, none⟩ = some (.bool x.s.cnt) ∧ W.cell? ⟨bx, 4, none⟩ = some (.int .i64 x.v) ∧ W.cell? ⟨bx, 5, none⟩ = some (.bool x.chain) ∧ W.cell? ⟨bx, 6, none⟩ = some (.int .i64 x.ahead)) := Lib.hid (fun W hW => by
        have h := (hW.block bx (lt_of_block hbx) (by simp; omega)).trans hbx
        refine ⟨?_, ?_, ?_, ?_, ?_, ?_, ?_⟩ <;> simp [World.cell?, h])
      have hbr : ¬ bx = p := by omega
      have hrb : ¬ p = bx := by omega
      obtain ⟨t1, -, -, -, -, -, -, tf⟩ := HX2.out.head.cells
      have htp := HTI.out.1
      clear k0 k1 k2 k3 k4 k5 k6 HX hbx hrm hbxe
      go_upto_region 10 with fail
      have HX3 := Lib.hid (HX2.out.write (HX2.out.head.set { T1 with p := T1.p + 1 } 0 ((T1.p : Int) + 1) (by simp [Tl.cells])) (Turns.setCell (F := [p]) w2 ⟨p, 0 + 2, none⟩ (.int .i64 ((T1.p : Int) + 1)) (by simp)))
      have HT3 := Lib.hid (Turns.setCell (F := [p]) w2 ⟨p, 0 + 2, none⟩ (.int .i64 ((T1.p : Int) + 1)) (by simp))
      simp only [Nat.zero_add] at HX3 HT3
      generalize w2.setCell ⟨p, 2, none⟩ (.int .i64 ((T1.p : Int) + 1)) = w3 at HX3 HT3 ⊢
      clear HX2 t1 tf htp
      obtain ⟨a, cnt, hlk, hca, hcn, hfa, hhd⟩ := HX3.out.look HXV.out.2 ⟨HTI.out.2.1, HTI.out.2.2.1, HTI.out.2.2.2.1, HTI.out.2.2.2.2.1⟩
      have HX4 := Lib.hid (HX3.out.write hhd (Turns.setCell (F := [p]) w3 ⟨p, a, none⟩ (.int .i64 ((cnt : Int) + 1)) (by simp)))
      have HT4 := Lib.hid (HT3.out.then (Turns.setCell (F := [p]) w3 ⟨p, a, none⟩ (.int .i64 ((cnt : Int) + 1)) (by simp)))
      obtain ⟨k0, k1, k2, k3, k4, k5, k6⟩ := HC3.out w3 HT3.out
      clear hhd
      go_upto_region 11 with fail
      generalize w3.setCell ⟨p, a, none⟩ (.int .i64 ((cnt : Int) + 1)) = w4 at HX4 HT4 ⊢
      clear k0 k1 k2 k3 k4 k5 k6 hlk hca hcn hfa HX3 HT3
      obtain ⟨k0, k1, k2, k3, k4, k5, k6⟩ := HC3.out w4 HT4.out
      have hsg : (T1.seen x.v).g = T1.g ∧ (T1.seen x.v).r = T1.r := by
        unfold Tl.seen
        repeat' split
        all_goals exact ⟨rfl, rfl⟩
      obtain ⟨T2, hT2⟩ : ∃ T2, T2 = T1.seen x.v := ⟨_, rfl⟩
      have HONE : Hid (T1.one x = if hasG x then T2.gain (gainL x.ahead x.s.val).2 else T2) := Lib.hid (by rw [hT2]; rfl)
      rw [← hT2] at HX4 hsg
      have HG67 := Lib.hid (show (T2.g : Int) ≤ 2000000 ∧ (T2.r : Int) ≤ 2000000 from by
        have := HTI.out.2.2.2.2.2
        rw [hsg.1, hsg.2]
        omega)
      clear hT2 hsg
      cases hch : x.chain with
      | false =>
        rw [hch] at k5
        have HG0 := Lib.hid (show hasG x = false by simp [hasG, hch])
        go_wp2_with fail
        go_roundw
        case rel => exact ⟨k + 1, by omega, by go_num, by rw [HTK.out.1, HTK.out.2, HONE.out, HG0.out]; simp only [Bool.false_eq_true, if_false, List.append_nil]; exact HX4⟩
        case measure => simp [intOf] <;> omega
      | true =>
        rw [hch] at k5
        cases hcn : x.s.cnt with
        | false =>
          rw [hcn] at k3
          have HG0 := Lib.hid (show hasG x = false by simp [hasG, hcn])
          go_wp2_with fail
          go_roundw
          case rel => exact ⟨k + 1, by omega, by go_num, by rw [HTK.out.1, HTK.out.2, HONE.out, HG0.out]; simp only [Bool.false_eq_true, if_false, List.append_nil]; exact HX4⟩
          case measure => simp [intOf] <;> omega
        | true =>
          rw [hcn] at k3
          have HG0 := Lib.hid (show hasG x = true by simp [hasG, hch, hcn])
          have HGM := Lib.hid (gainM_any HX4.out.head HG67.out x HXO.out HXV.out.1)
          unfold Sn.cells Gn.cells at HGM
          rw [hch, hcn] at HGM
          have HGS := Lib.hid (show (gainL x.ahead x.s.val).2 = (gainS x).reset from rfl)
          rw [HGS.out] at HGM HONE
          obtain ⟨gs, hgs⟩ : ∃ gs, gs = gainS x := ⟨_, rfl⟩
          rw [← hgs] at HGM HONE HTK
          clear hgs HGS
          go_wp2_with fail
          refine HGM.out.mono ?_
          rintro e w5 ⟨rfl, hh5, ht5⟩
          have HX5 := Lib.hid (HX4.out.write hh5 ht5)
          have HOA := Lib.hid (fun (C' : Obj) => (HX5.out.next (Turns.alloc (F := []) w5 C')))
          have HBA := Lib.hid (fun (C' : Obj) => show w.heap.size ≤ (w5.alloc C').heap.size from Nat.le_trans HX5.out.tt.size (by simp))
          have HLA := Lib.hid (show G1.length + [gs].length ≤ 100000 by have := HGL.out; simp; omega)
          clear hh5 ht5 HGM
          go_wp2_with (at_builtin; refine EK.wpList_append gOk rfl (.tmp 55) (.tmp 59) rfl w.heap.size u10 G1 rfl (HOA.out _).gains (w5.heap.size + 1) (some ⟨w5.heap.size, 0, none⟩) [gs] 1 1 rfl rfl (EK.Reads.lone gOk (W := w5) _ _ _ rfl rfl) (by simp) HLA.out (HBA.out _) ?_; intro v2 w6 ho2 ht2 hf2; have HA2 := Lib.hid ((HOA.out _).app ho2 ht2 hf2); clear ho2 ht2 hf2)
          refine ⟨⟨k + 1, by omega, by go_num, ?_⟩, by simp [intOf] <;> omega⟩
          rw [HTK.out.1, HTK.out.2, HONE.out, HG0.out]
          simp only [if_true]
          exact HA2
    · have hge : decide ((k : Int) < (NN : Int)) = false := by simp; omega
      obtain rfl : k = NN := by omega
      rw [List.take_of_length_le (by rw [HL1.out]; exact Nat.le_refl _)] at HX
      go_wp2_with fail
      go_ret2
      exact ⟨_, _, _, rfl, HX.out⟩
end Go.Proofs.Ytcjmieofmogeiaa
