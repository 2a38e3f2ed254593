/- What WindowOnce's closure does of closed windows. -/
import Derived.Test.YtjkkpdflijjllaaWnOnceP
import Derived.Test.YtjkkpdflijjllaaInv
namespace Go.Proofs.Ytjkkpdflijjllaa
open Go.RowKit

abbrev oneI (n : Int) : Obj := .cells #[.int .i64 n] 2 (0, 0)
/-- The law's two boxes. -/
structure Bx2 (bl bs : Nat) (last sum : Int) (W : World) : Prop where
  l : W.heap[bl]? = some (oneI last)
  s : W.heap[bs]? = some (oneI sum)
section
variable {bl bs : Nat} {last sum : Int} {W W' : World}
theorem Bx2.cells (h : Bx2 bl bs last sum W) : W.cell? ⟨bl, 0, none⟩ = some (.int .i64 last) ∧ W.cell? ⟨bs, 0, none⟩ = some (.int .i64 sum) ∧ W.frozen? ⟨bl, 0, none⟩ = false ∧ W.frozen? ⟨bs, 0, none⟩ = false := by
  have h1 := h.l
  have h2 := h.s
  refine ⟨?_, ?_, ?_, ?_⟩ <;> simp [World.cell?, World.frozen?, h1, h2]
theorem Bx2.next (h : Bx2 bl bs last sum W) (ht : Turns [] W W') : Bx2 bl bs last sum W' :=
  ⟨(ht.block _ (lt_of_block h.l) (by simp)).trans h.l, (ht.block _ (lt_of_block h.s) (by simp)).trans h.s⟩
theorem Bx2.setL (h : Bx2 bl bs last sum W) (hn : bl ≠ bs) (n : Int) : Bx2 bl bs n sum (W.setCell ⟨bl, 0, none⟩ (.int .i64 n)) ∧ Turns [bl, bs] W (W.setCell ⟨bl, 0, none⟩ (.int .i64 n)) := by
  have ht : Turns [bl] W (W.setCell ⟨bl, 0, none⟩ (.int .i64 n)) := Turns.setCell _ _ _ (by simp)
  refine ⟨⟨heap_setCell_same W bl 0 _ _ _ h.l, (ht.block _ (lt_of_block h.s) (by simpa using Ne.symm hn)).trans h.s⟩, ht.mono (by simp)⟩
theorem Bx2.setS (h : Bx2 bl bs last sum W) (hn : bl ≠ bs) (n : Int) : Bx2 bl bs last n (W.setCell ⟨bs, 0, none⟩ (.int .i64 n)) ∧ Turns [bl, bs] W (W.setCell ⟨bs, 0, none⟩ (.int .i64 n)) := by
  have ht : Turns [bs] W (W.setCell ⟨bs, 0, none⟩ (.int .i64 n)) := Turns.setCell _ _ _ (by simp)
  refine ⟨⟨(ht.block _ (lt_of_block h.l) (by simpa using hn)).trans h.l, heap_setCell_same W bs 0 _ _ _ h.s⟩, ht.mono (by simp)⟩
end
theorem Cl.next {last : Int} {L : List Wn} (h : Cl last L) {k : Nat} {x : Wn} (hx : L[k]? = some x) : lastN last (L.take k) < x.num := by
  obtain ⟨hlt, hge⟩ := List.getElem?_eq_some_iff.1 hx
  cases k with
  | zero => simpa [lastN] using h.above x (List.mem_of_getElem? hx)
  | succ k =>
    have e1 : L.take (k + 1) = L.take k ++ [L[k]] := by rw [List.take_add_one, List.getElem?_eq_getElem (by omega)]; rfl
    rw [e1, lastN_snoc]
    have := List.pairwise_iff_getElem.1 h.srt k (k + 1) (by omega) hlt (by omega)
    rw [hge] at this
    exact this
theorem totW_take_le {L : List Wn} (h : LCOk L) (k : Nat) : 0 ≤ totW (L.take k) ∧ totW (L.take k) ≤ totW L := by
  have h1 := totW_pos (h.sub (M := L.take k) fun x hx => List.mem_of_mem_take hx)
  have h2 := totW_pos (h.sub (M := L.drop k) fun x hx => List.mem_of_mem_drop hx)
  have h3 := totW_append (L.take k) (L.drop k)
  rw [List.take_append_drop] at h3
  omega
theorem sumC_take_le {l : List Cr} (h : COk l) (k : Nat) : 0 ≤ sumC (l.take k) ∧ sumC (l.take k) ≤ sumC l := by
  have h1 := sumC_pos (l := l.take k) fun x hx => h x (List.mem_of_mem_take hx)
  have h2 := sumC_pos (l := l.drop k) fun x hx => h x (List.mem_of_mem_drop hx)
  have h3 := sumC_append (l.take k) (l.drop k)
  rw [List.take_append_drop] at h3
  omega
set_option maxRecDepth 100000 in
set_option maxHeartbeats 4000000 in
theorem closed_any {W : World} {H : List Nat} {o : Value} {L : List Wn} {bl bs : Nat} {last sum : Int} (hl : WnL W H o L) (hb : Bx2 bl bs last sum W) (hn : bl ≠ bs) (hH : ∀ i ∈ H, i ∉ [bl, bs]) (hc : Cl last L) (hL : L.length ≤ 1000) (hcr : ∀ x ∈ L, x.cr.length ≤ 1000) (hs : totW L ≤ sum) (hs2 : sum ≤ 4611686018427387904) :
    Calls Try.prog 14 #[o, ptrW bl, ptrW bs] W fun e Y => e = .returned (.bool true) ∧ Bx2 bl bs (lastN last L) (sum - totW L) Y ∧ Turns [bl, bs] W Y := by
  obtain ⟨A, cc, R, rfl, _⟩ := id hl
  have HLL := Lib.hid (fun Y (ht : Turns [bl, bs] W Y) => hl.turns ht hH)
  have HB0 := Lib.hid hb
  have HC := Lib.hid hc
  have HCR := Lib.hid hcr
  have HSS := Lib.hid (And.intro hs hs2)
  have HN := Lib.hid hn
  obtain ⟨NN, hNN⟩ : ∃ NN, NN = L.length := ⟨_, rfl⟩
  have HNN := Lib.hid hNN
  rw [← hNN] at hL ⊢
  have hnn : (NN : Int) ≤ 1000 := by omega
  clear hl hb hH hc hcr hs hs2 hNN
  go_enter Try.func14, Try.ntmps14
  go_wp2_with fail
  go_loopw [5] (fun iv wr => ∃ k : Nat, k ≤ NN ∧ iv = .int .i64 (k : Int) ∧ Hid (Bx2 bl bs (lastN last (L.take k)) (sum - totW (L.take k)) wr ∧ Turns [bl, bs] W wr)) (fun iv _ => NN - (intOf iv).toNat)
  case atStart => exact ⟨0, Nat.zero_le _, rfl, Lib.hid ⟨by simpa [lastN, totW] using HB0.out, Turns.refl _ _⟩⟩
  case round =>
    obtain ⟨k, hk, rfl, HX⟩ := hrel
    have hk0 : (0 : Int) ≤ (k : Int) := by omega
    by_cases hlt : k < NN
    · have hlt' : (k : Int) < (NN : Int) := by omega
      obtain ⟨x, hx⟩ : ∃ x, L[k]? = some x := ⟨_, List.getElem?_eq_getElem (by have := HNN.out; omega)⟩
      have hnx := HC.out.next hx
      have hxm := List.mem_of_getElem? hx
      obtain ⟨b, off, c, r, e, hat⟩ := (HLL.out wr HX.out.2).atT hx
      rw [← HNN.out] at e
      injection e with e1 e2 e3
      subst e1 e3
      obtain ⟨hw0, d0, d1⟩ := hat wr (Turns.refl _ _)
      obtain ⟨t1, t2, t3, t4⟩ := HX.out.1.cells
      obtain ⟨nc, hnc⟩ : ∃ nc, nc = x.cr.length := ⟨_, rfl⟩
      rw [← hnc] at d1
      have hnc0 : 0 < nc := by
        have := HC.out.ne x hxm
        rw [hnc]
        cases hq : x.cr with
        | nil => exact absurd hq this
        | cons a l => simp
      obtain ⟨la, hla⟩ : ∃ la, la = lastN last (L.take k) := ⟨_, rfl⟩
      obtain ⟨su, hsu⟩ : ∃ su, su = sum - totW (L.take k) := ⟨_, rfl⟩
      rw [← hla] at t1 hnx HX
      rw [← hsu] at t2 HX
      have dl : decide (x.num ≤ la) = false := by simp; omega
      have dn : ((nc : Int) == 0) = false := by simp; omega
      have HX1 := Lib.hid HX.out.1
      have HTT := Lib.hid HX.out.2
      have HNC := Lib.hid hnc
      have HLA := Lib.hid hla
      have HSU := Lib.hid hsu
      have HXX := Lib.hid (And.intro hx hxm)
      have HLT := Lib.hid hlt
      have hncb : (nc : Int) ≤ 1000 := by have := HCR.out x hxm; omega
      clear hnx hxm hat hw0 e2 hnc hla hsu hx HX hnc0
      go_upto_region 4 with fail
      go_cut [28] (fun z wx => wx = wr.drew ∧ z = .bool false)
      case first =>
        first | go_region | fail "region 4"
        go_wp2
        go_meet
        exact ⟨rfl, rfl⟩
      case rest =>
      obtain ⟨e4, rfl⟩ := hcut
      have HT4 : Hid (Turns [] wr wc) := Lib.hid (by rw [e4]; exact (Turns.refl [] wr).drew)
      have HX4 := Lib.hid (HX1.out.next HT4.out)
      have HTT4 := Lib.hid (HTT.out.trans HT4.out (by simp))
      clear e4 d0 d1 t1 t2 t3 t4 dl dn
      obtain ⟨b', off', c', r', e', hat'⟩ := (HLL.out wc HTT4.out).atT HXX.out.1
      rw [← HNN.out] at e'
      injection e' with e1 e2 e3
      injection e1 with e1
      injection e1 with e11 e12 e13
      subst e11 e12 e3
      obtain ⟨hw0, d0, d1⟩ := hat' wc (Turns.refl _ _)
      obtain ⟨t1, t2, t3, t4⟩ := HX4.out.cells
      clear e2 e13 hat' hw0
      go_upto_region 7 with fail
      have HY := Lib.hid (HX4.out.setL HN.out x.num)
      generalize wc.setCell ⟨bl, 0, none⟩ (.int .i64 x.num) = w5 at HY ⊢
      have HTT5 := Lib.hid (HTT4.out.after HY.out.2 (fun i hi => hi))
      clear d0 d1 t1 t2 t3 t4
      obtain ⟨w0, rfl⟩ : ∃ w0, w0 = wr := ⟨_, rfl⟩
      go_wp2_with fail
      go_loopw [6] (fun iv ws => ∃ j : Nat, j ≤ nc ∧ iv = .int .i64 (j : Int) ∧ Hid (Bx2 bl bs x.num (su - sumC (x.cr.take j)) ws ∧ Turns [bl, bs] W ws)) (fun iv _ => nc - (intOf iv).toNat)
      case atStart => exact ⟨0, Nat.zero_le _, rfl, Lib.hid ⟨by simpa [sumC] using HY.out.1, HTT5.out⟩⟩
      case round =>
        obtain ⟨j, hj, rfl, HJ⟩ := hrel
        have hj0 : (0 : Int) ≤ (j : Int) := by omega
        obtain ⟨b', off', c', r', e', hat'⟩ := (HLL.out wr HJ.out.2).atT HXX.out.1
        rw [← HNN.out] at e'
        injection e' with e1 e2 e3
        injection e1 with e1
        injection e1 with e11 e12 e13
        subst e11 e12 e3
        obtain ⟨hw0, d0, d1⟩ := hat' wr (Turns.refl _ _)
        rw [← HNC.out] at d1
        by_cases hjn : j < nc
        · have hjn' : (j : Int) < (nc : Int) := by omega
          obtain ⟨y, hy⟩ : ∃ y, x.cr[j]? = some y := ⟨_, List.getElem?_eq_getElem (by have := HNC.out; omega)⟩
          obtain ⟨g, q, er, hg, hgw, hcc⟩ := hw0.rd.at cOk hy
          have y1 := hcc 1 _ rfl
          simp only [cK, ← Nat.add_assoc] at y1
          rw [er] at d1
          obtain ⟨t1, t2, t3, t4⟩ := HJ.out.1.cells
          have HYI := Lib.hid (show I64 (su - sumC (x.cr.take j) - y.inc) ∧ 0 ≤ y.inc from by
            have h1 := HSS.out
            have h2 := totW_take_le HC.out.ok k
            have h3 := HSU.out
            have h4 := (HC.out.ok x HXX.out.2) y (List.mem_of_getElem? hy)
            have h5 := sumC_take_le (HC.out.ok x HXX.out.2) j
            have h6 := sumC_take_le (HC.out.ok x HXX.out.2) (j + 1)
            have h7 := totW_take_le HC.out.ok (k + 1)
            have e1 : totW (L.take (k + 1)) = totW (L.take k) + sumC x.cr := by
              rw [List.take_add_one, HXX.out.1, totW_append]
              simp [totW]
            have e2 : sumC (x.cr.take (j + 1)) = sumC (x.cr.take j) + y.inc := by
              rw [List.take_add_one, hy, sumC_append]
              simp [sumC]
            unfold I64
            omega)
          have HSE := Lib.hid (show su - sumC (x.cr.take (j + 1)) = su - sumC (x.cr.take j) - y.inc by
            rw [List.take_add_one, hy, sumC_append]
            simp [sumC]
            omega)
          obtain ⟨s1, hs1⟩ : ∃ s1, s1 = su - sumC (x.cr.take j) := ⟨_, rfl⟩
          rw [← hs1] at t2 HJ HYI HSE
          have hwr : wrap64 (s1 - y.inc) = s1 - y.inc := IntWalk.wrap64_in _ HYI.out.1
          have HWR := Lib.hid hwr
          have HJT := Lib.hid hjn
          have HJ1 := Lib.hid HJ.out.1
          have HJ2 := Lib.hid HJ.out.2
          clear hs1 hy hg hgw hcc hat' hw0 HJ e2 e13 er
          go_upto_region 10 with fail
          first | go_region | fail "region 10"
          go_wp2_with fail
          refine ⟨⟨j + 1, HJT.out, by go_num, Lib.hid ⟨?_, ?_⟩⟩, by have := HJT.out; simp [intOf]; omega⟩
          · rw [HSE.out]
            exact (HJ1.out.setS HN.out _).1.next ((Turns.refl [] _).drew)
          · exact (HJ2.out.after (HJ1.out.setS HN.out _).2 (fun i hi => hi)).drew
        · have hge : decide ((j : Int) < (nc : Int)) = false := by simp; omega
          have HEND := Lib.hid (show Bx2 bl bs (lastN last (L.take (k + 1))) (sum - totW (L.take (k + 1))) wr ∧ Turns [bl, bs] W wr from by
            have h1 := HJ.out
            rw [List.take_of_length_le (by have := HNC.out; omega), HSU.out] at h1
            have e1 : L.take (k + 1) = L.take k ++ [x] := by rw [List.take_add_one, HXX.out.1]; rfl
            rw [e1, lastN_snoc, totW_append]
            have e2 : sum - (totW (L.take k) + totW [x]) = sum - totW (L.take k) - sumC x.cr := by simp [totW]; omega
            rw [e2]
            exact h1)
          clear hat' hw0 HJ e2 e13
          go_wp2_with fail
          exact ⟨⟨k + 1, HLT.out, by go_num, HEND⟩, by have := HLT.out; simp [intOf]; omega⟩
    · have hge : decide ((k : Int) < (NN : Int)) = false := by simp; omega
      have HEND := Lib.hid (show Bx2 bl bs (lastN last L) (sum - totW L) wr ∧ Turns [bl, bs] W wr from by
        have h1 := HX.out
        rw [List.take_of_length_le (by have := HNN.out; omega)] at h1
        exact h1)
      clear HX
      go_wp2_with fail
      go_ret
      exact ⟨rfl, HEND.out⟩
end Go.Proofs.Ytjkkpdflijjllaa
