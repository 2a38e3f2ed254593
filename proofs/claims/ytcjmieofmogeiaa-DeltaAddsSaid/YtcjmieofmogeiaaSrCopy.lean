/- The program's Copy. -/
import Derived.Test.YtcjmieofmogeiaaSrPut
namespace Go.Proofs.Ytcjmieofmogeiaa
open Go.RowKit
variable {hd : Hd}

/-- A struct of one's own comes under a name. -/
theorem Sm.add {B : Nat} {W : World} {p b most n : Nat} {P : PM} (h : Sm B W p b most P n) (hn : n ≤ 100000) {x : ByteArray} (hx : NmOk x) {g : Nat} {l : Lst} (hg : W.heap[g]? = some (.cells (lK.enc l).toArray lK.te (0, 0))) (hl : l.s.name = x) (hB : B ≤ g) (hnew : ¬ MapP.In b P g) (hgp : g ≠ p) :
    ∃ W', (Instr.mapUpdate 64 (.map (some b)) (.string x) (.pointer (some ⟨g, 0, none⟩))).run Try.prog W = .ok () W' ∧ Sm B W' p b most (updM P x (g, l)) (if (P x).isSome then n else n + 1) ∧ Turns [b] W W' := by
  obtain ⟨W', hrun, hm, htu⟩ := h.map.store (t := 64) (e := 91) sm_keyed Try.underlying64 (by unfold maxLen; omega) hx.key hg hB hnew
  have hpb := h.apart.1
  exact ⟨W', hrun, ⟨(htu.block p h.lt (by simpa using hpb)).trans h.head, hm, ⟨hpb, fun z q hq => by
      rcases updM_or hq with ⟨_, rfl⟩ | ⟨_, hq⟩
      · exact hgp
      · exact h.apart.2 z q hq⟩, h.low, fun z q hq => by
      rcases updM_or hq with ⟨rfl, rfl⟩ | ⟨_, hq⟩
      · exact ⟨hl, hx⟩
      · exact h.nm z q hq⟩, htu⟩
/-- What has been copied so far. -/
structure CpJ (w : World) (q b2 most : Nat) (P : PM) (L : List One) (left : ByteArray → Bool) (P2 : PM) (W : World) : Prop where
  sm : @Sm plainHd w.heap.size W q b2 most P2 (seenL One.name left L).length
  no : ∀ x, left x = true → P2 x = none
  yes : ∀ x, left x = false → (P2 x).map (·.2) = (P x).map (·.2)
  tt : Turns [] w W
theorem tel_same {P P2 : PM} {L : List One} (h : Tel P L) (e : ∀ x, (P2 x).map (·.2) = (P x).map (·.2)) : Tel P2 L := by
  refine ⟨h.rise, fun y hy => ?_, fun x q hq => ?_⟩
  · obtain ⟨g, hg⟩ := h.mem y hy
    have := e y.name
    rw [hg] at this
    cases hp : P2 y.name with
    | none => rw [hp] at this; cases this
    | some u =>
      rw [hp] at this
      have h2 : u.2 = y.l := by simpa using this
      exact ⟨u.1, by rw [← h2]⟩
  · have := e x
    rw [hq] at this
    cases hp : P x with
    | none => rw [hp] at this; cases this
    | some u =>
      rw [hp] at this
      obtain ⟨y, hy, e1, e2⟩ := h.all x u hp
      exact ⟨y, hy, e1, by rw [e2]; simpa using this.symm⟩
set_option maxRecDepth 100000 in
set_option maxHeartbeats 4000000 in
theorem copySt_any {B : Nat} {w : World} {p b most : Nat} {F : List Nat} {P : PM} {L : List One} (h : Sr B w p b F most P L) (hL : L.length ≤ 90000) :
    Calls Try.prog 28 #[ptr p] w fun e w' => ∃ q b2 G P2, e = .returned (ptr q) ∧ @Sr plainHd w.heap.size w' q b2 G most P2 L ∧ Turns [] w w' := by
  have H := Lib.hid h
  have HL := Lib.hid hL
  have c0 := h.sm.c0
  have HN := Lib.hid (newSt_any (most : Int) w)
  have hlb : b < w.heap.size := h.sm.map.map.lt
  clear h hL
  go_enter Try.func28, Try.ntmps28
  go_wp2_with fail
  refine HN.out.mono ?_
  rintro e w1 ⟨q, b2, rfl, hs, hqb, ht⟩
  have HT1 := Lib.hid ht
  have HS1 := Lib.hid hs
  have HQB := Lib.hid hqb
  have HSR := Lib.hid (H.out.sm.pre ht)
  have c1 := HSR.out.c1
  rw [Int.toNat_natCast] at HS1
  clear hs hqb ht HN c0
  go_wp2_with (at_range; refine wpList_range_g nameKD rfl _ 64 rfl 91 sm_keyed Try.underlying64 pread b L.length _ rfl HSR.out.map.map ?_; intro w0 hrg0 ht0 hs0)
  go_frame
  have HR0 := Lib.hid hrg0
  have HJ0 : Hid (CpJ w q b2 most P L (fun x => (ptrsM P x).isSome) (fun _ => none) w0) := Lib.hid ⟨by
    rw [seenL_none fun z hz => by
      obtain ⟨g, hg⟩ := H.out.tel.mem z hz
      simp [ptrsM, hg]]
    exact HS1.out.pre ht0, fun _ _ => rfl, fun x hx => by
      cases hp : P x with
      | none => rfl
      | some u => simp [ptrsM, hp] at hx, HT1.out.then ht0⟩
  clear hrg0 ht0 hs0 c1
  obtain ⟨r, hr⟩ : ∃ r, r = w1.heap.size := ⟨_, rfl⟩
  have HRL : Hid (w.heap.size ≤ r ∧ b2 < r ∧ q < r) := Lib.hid (by have := HQB.out b2 (.inr rfl); have := HQB.out q (.inl rfl); have := HT1.out.size; omega)
  rw [← hr] at HR0 ⊢
  clear hr
  go_loopw [] (fun wr => ∃ left cnt P2, RangeG nameKD pread wr b r (ptrsM P) left cnt ∧ Hid (CpJ w q b2 most P L left P2 wr)) (fun wr => wr.rangeLeft b r)
  case atStart => exact ⟨_, _, _, HR0.out, HJ0⟩
  case round =>
    obtain ⟨left, cnt, P2, hrg, HJ⟩ := hrel
    have HRG := Lib.hid hrg
    clear hrg
    go_wp2_with (at_next; refine wpList_next_g nameKD rfl _ rfl sm_keyed pread pread_inj b r _ left cnt rfl HRG.out ?_ ?_)
    · intro hl0
      have HL0 := Lib.hid hl0
      clear hl0
      have HFIN : Hid (∃ q' b2 G P2, ptr q = ptr q' ∧ @Sr plainHd w.heap.size wr q' b2 G most P2 L ∧ Turns [] w wr) := Lib.hid (by
        have hsm := HJ.out.sm
        rw [seenL_all HL0.out] at hsm
        have hT := tel_same H.out.tel fun x => HJ.out.yes x (HL0.out x)
        refine ⟨q, b2, q :: b2 :: L.filterMap (fun y => (P2 y.name).map (·.1)), P2, rfl, ⟨hsm, hT, fun i hi => ?_, fun i hi => ?_⟩, HJ.out.tt⟩
        · rcases hi with rfl | rfl | ⟨x, u, hu, rfl⟩
          · simp
          · simp
          · obtain ⟨y, hy, e1, _⟩ := hT.all x u hu
            exact List.mem_cons_of_mem _ (List.mem_cons_of_mem _ (List.mem_filterMap.2 ⟨y, hy, by rw [e1, hu]; rfl⟩))
        · rcases List.mem_cons.1 hi with rfl | hi
          · exact ⟨hsm.low, hsm.lt⟩
          · rcases List.mem_cons.1 hi with rfl | hi
            · exact ⟨hsm.map.low, hsm.map.map.lt⟩
            · obtain ⟨y, hy, e1⟩ := List.mem_filterMap.1 hi
              cases hp : P2 y.name with
              | none => rw [hp] at e1; cases e1
              | some u =>
                rw [hp] at e1
                cases e1
                exact ⟨(hsm.map.blk _ _ hp).2.2, lt_of_block (hsm.map.blk _ _ hp).1⟩)
      go_wp2
      go_ret
      obtain ⟨q', b2', G, P2', e1, h2, h3⟩ := HFIN.out
      exact ⟨q', b2', G, P2', by rw [← e1]; rfl, h2, h3⟩
    · intro x v w2 cnt1 hwx hlx g l hp hv hrg1 hlt hg1 hs1 hen
      subst hv
      have HHX := Lib.hid (H.out.sm.nm x _ hp)
      obtain ⟨y, hy, hyn, hyl⟩ := H.out.tel.all x (g, l) hp
      have HC := Lib.hid (seenL_step (nm := One.name) List.length (fun _ _ => List.length_append) H.out.tel.rise.ne hy (left := left) (by rw [hyn]; exact hlx))
      rw [hyn] at HC
      have T2 : Turns [] w w2 := HJ.out.tt.trans hg1 fun i hi => .inr (by have := HRL.out; simp at hi; omega)
      have HG := Lib.hid (getM_any (H.out.sm.pre T2) HHX.out.2)
      rw [hp] at HG
      have hin : ∀ i ∈ [r], ¬ MapP.In b2 P2 i := by
        intro i hi hm
        rw [List.mem_singleton] at hi
        subst hi
        rcases hm with e | ⟨z, u, hu, e⟩
        · have := HRL.out; omega
        · exact (HRG.out.not_cells (HJ.out.sm.map.blk z u hu).1).2 e.symm
      have hS2 := HJ.out.sm.turns hg1 (by have := HRL.out; simp; omega) hin
      have HS2 := Lib.hid hS2
      have HR1 := Lib.hid hrg1
      have HT2 := Lib.hid T2
      have HLT := Lib.hid hlt
      have HPX := Lib.hid hp
      have HLX := Lib.hid hlx
      have HHK := Lib.hid hwx
      unfold getM Lst.val' at HG
      simp only at HG
      clear hrg1 hlt hg1 hs1 hy hyn hyl hin hS2 T2 hp hlx hwx
      go_wp2_with fail
      refine HG.out.mono ?_
      rintro e w3 ⟨rfl, ht3⟩
      have HT3 := Lib.hid ht3
      clear ht3 HG
      go_upto_region 8 with fail
      obtain ⟨w4, hw4⟩ : ∃ w4, w3.alloc (.cells #[.string l.s.name, .int .i64 l.s.val, .int .i64 l.s.tm, .bool l.s.cnt, .bool l.live, .int .i64 l.own] 88) = w4 := ⟨_, rfl⟩
      have hb4 : w4.heap[w3.heap.size]? = some (.cells (lK.enc l).toArray lK.te (0, 0)) := by rw [← hw4]; exact heap_alloc_new w3 _
      have hT4 : Turns [] w2 w4 := HT3.out.then (by rw [← hw4]; exact Turns.alloc _ _)
      have hS4 := (HS2.out.pre hT4)
      have hS3 := HS2.out.pre HT3.out
      have hlen : (seenL One.name left L).length ≤ 100000 := by have := HL.out; have : (seenL One.name left L).length ≤ L.length := List.length_filter_le _ _; omega
      have hS5 : @Sm plainHd w.heap.size w4.drew q b2 most P2 (seenL One.name left L).length := hS4.pre (Turns.refl [] w4).drew
      obtain ⟨w5, hrun, hS6, htu⟩ := hS5.add hlen HHX.out.2 (g := w3.heap.size) (l := l) hb4 HHX.out.1 (by have := HT2.out.size; have := HT3.out.size; omega) (fun hi => by have := hS3.in_lt hi; omega) (fun e => by have := hS3.lt; omega)
      have hq1 := hS4.c1
      have hk0 := (last_cells hb4).1
      rw [HHX.out.1] at hk0
      have HS6 : Hid (CpJ w q b2 most P L (fun y => left y && !decide (y = x)) (updM P2 x (w3.heap.size, l)) w5) := Lib.hid ⟨by
        rw [HC.out]
        rw [HJ.out.no x HLX.out] at hS6
        exact hS6, fun z hz => by
          have hz' : left z = true ∧ z ≠ x := by simpa using hz
          rw [updM_ne hz'.2]
          exact HJ.out.no z hz'.1, fun z hz => by
          by_cases e : z = x
          · subst e
            rw [updM_here, HPX.out]
            rfl
          · rw [updM_ne e]
            exact HJ.out.yes z (by simpa [e] using hz), (HT2.out.then hT4).drew.trans htu fun i hi => .inr (by rw [List.mem_singleton] at hi; rw [hi]; exact HS1.out.map.low)⟩
      have hbne : b ≠ b2 := by have := HS1.out.map.low; omega
      have HR5 := Lib.hid ((HR1.out.turns (hT4.drew) (by simp) (by simp)).turns htu (by simpa using hbne) (by have := HRL.out; simp; omega))
      have HM5 := Lib.hid (show w5.rangeLeft b r < wr.rangeLeft b r by rw [HR5.out.left_eq, HRG.out.left_eq]; exact HLT.out)
      rw [hw4]
      clear hw4 hb4 hT4 hS4 hS3 hlen hS5 hS6 htu hbne
      go_region
      go_wp2
      go_roundw
      case rel => exact ⟨_, cnt1, _, HR5.out, HS6⟩
      case measure => exact HM5.out
end Go.Proofs.Ytcjmieofmogeiaa
