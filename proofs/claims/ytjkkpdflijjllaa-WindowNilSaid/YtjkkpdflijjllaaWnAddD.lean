/- The document's Add: WnAddD. -/
import Derived.Test.YtjkkpdflijjllaaWnAddL
import Derived.Test.YtjkkpdflijjllaaInv
import Derived.Deep.RegionWith
import Derived.Deep.RegionLaw
namespace Go.Proofs.Ytjkkpdflijjllaa
open Go.RowKit

set_option maxRecDepth 100000 in
set_option maxHeartbeats 4000000 in
theorem raddW_is {B : Nat} {w : World} {rv : Nat} {G : List Nat} {v : Value} {S : Ws} {N : Nat} (h : RefW B w rv G v S) (hB : B ≤ w.heap.size) (hok : WsOk S N) (hN : N ≤ 40000) (name : ByteArray) (tm inc : Int) (rs : Bool) (hi : -9223372036854775808 ≤ inc ∧ inc ≤ 9223372036854775807) (ht0 : -9223372036854775808 ≤ tm ∧ tm ≤ 9223372036854775807) (hcase : ¬ (lateW S tm inc = true ∨ (fullW S (Int.tdiv tm S.len) = true ∧ posW (Int.tdiv tm S.len) S.L = 0)) ∧ fullW S (Int.tdiv tm S.len) = false ∧ isW (Int.tdiv tm S.len) S.L = true) :
    Calls Try.prog 28 #[.pointer (some ⟨rv, 0, none⟩), .agg #[.string name, .int .i64 tm, .int .i64 inc, .bool rs]] w fun e w' => ∃ o v' G' H, e = .returned (.tuple #[.bool (addW S name tm inc).1, o]) ∧ WnL w' H o (addW S name tm inc).2.1 ∧ RefW B w' rv G' v' (addW S name tm inc).2.2 ∧ Turns [rv] w w' ∧ (∀ i ∈ G', i ∈ G ∨ w.heap.size ≤ i) ∧ ∀ i ∈ H, i ∈ G ∨ w.heap.size ≤ i := by
  obtain ⟨A, c, R, rfl, hlc, hcm, hR, hRs⟩ := h.list
  have hlen1 := hok.len.1
  have HOK := Lib.hid hok
  have HCASE := Lib.hid hcase
  clear hcase
  have H := Lib.hid h
  have HR := Lib.hid hR
  have HRs := Lib.hid hRs
  have HI := Lib.hid hi
  have HW1 : Hid (Turns [] w (w.alloc (.cells #[.string name, .int .i64 tm, .int .i64 inc, .bool rs] 34))) := Lib.hid (Turns.alloc _ _)
  have HG1 : Hid (∀ Y, Turns [] (w.alloc (.cells #[.string name, .int .i64 tm, .int .i64 inc, .bool rs] 34)) Y → Y.cell? ⟨w.heap.size, 0, none⟩ = some (.string name) ∧ Y.cell? ⟨w.heap.size, 1, none⟩ = some (.int .i64 tm) ∧ Y.cell? ⟨w.heap.size, 2, none⟩ = some (.int .i64 inc) ∧ Y.cell? ⟨w.heap.size, 3, none⟩ = some (.bool rs)) := Lib.hid (fun Y ht => ⟨lone_cellsW _ _ ht 0 _ rfl, lone_cellsW _ _ ht 1 _ rfl, lone_cellsW _ _ ht 2 _ rfl, lone_cellsW _ _ ht 3 _ rfl⟩)
  have HC : Hid (∀ Y, Turns [] w Y → Y.cell? ⟨rv, 0, none⟩ = some (.int .i64 S.len) ∧ Y.cell? ⟨rv, 2, none⟩ = some (.int .i64 S.most) ∧ Y.cell? ⟨rv, 3, none⟩ = some (.slice A S.L.length c) ∧ Y.cell? ⟨rv, 4, none⟩ = some (.int .i64 S.floor) ∧ Y.cell? ⟨rv, 6, none⟩ = some (.int .i64 S.cred) ∧ Y.cell? ⟨rv, 7, none⟩ = some (.int .i64 S.late) ∧ ∀ j, Y.frozen? ⟨rv, j, none⟩ = false) := Lib.hid (fun Y ht => by
    obtain ⟨c0, c1, c2, c3, c4, c5, c6, c7, fz⟩ := (h.pre ht).cells
    exact ⟨c0, c2, c3, c4, c6, c7, fz⟩)
  have hlen0 : S.len ≠ 0 := by omega
  clear h hok hR hRs hi
  go_enter Try.func28, Try.ntmps28
  go_upto_region 1 with fail
  generalize hw1 : w.alloc (.cells #[.string name, .int .i64 tm, .int .i64 inc, .bool rs] 34) = w1 at HW1 HG1 ⊢
  have HBX : Hid (∀ Y, Turns [] w1 Y → Y.heap[w.heap.size]? = some (.cells #[.string name, .int .i64 tm, .int .i64 inc, .bool rs] 34 (0, 0))) := Lib.hid (fun Y ht => by
    subst hw1
    exact (ht.block _ (by simp) (by simp)).trans (heap_alloc_new w _))
  clear hw1
  obtain ⟨g0, g1, g2, g3⟩ := HG1.out w1 (Turns.refl _ _)
  obtain ⟨c0, c2, c3, c4, c6, c7, fz⟩ := HC.out w1 HW1.out
  have q0 : (S.len == 0) = false := by simpa using hlen0
  have HTD : Hid (wrap64 (Int.tdiv tm S.len) = Int.tdiv tm S.len) := Lib.hid (IntWalk.wrap64_in _ (by
    rcases Int.le_total 0 tm with h0 | h0
    · rw [Int.tdiv_eq_ediv_of_nonneg h0]
      have h1 := Int.ediv_nonneg (a := tm) (b := S.len) h0 (by omega)
      have h2 := Int.ediv_le_self (a := tm) S.len h0
      omega
    · obtain ⟨t, rfl⟩ : ∃ t, tm = -t := ⟨-tm, by omega⟩
      rw [Int.neg_tdiv, Int.tdiv_eq_ediv_of_nonneg (by omega)]
      have h1 := Int.ediv_nonneg (a := t) (b := S.len) (by omega) (by omega)
      have h2 := Int.ediv_le_self (a := t) S.len (by omega)
      omega))
  obtain ⟨n, hn⟩ : ∃ n, n = Int.tdiv tm S.len := ⟨_, rfl⟩
  have HN := Lib.hid hn
  have HTE : Hid (wrap64 (Int.tdiv tm S.len) = n ∧ Int.tdiv tm S.len = n) := Lib.hid ⟨HTD.out.trans hn.symm, hn.symm⟩
  clear hn HTD ht0
  go_cut [6] (fun x wx => wx = w1.drew ∧ x = .int .i64 n)
  case first =>
    first | go_region | fail "region 1"
    go_wp2
    go_meet
    exact ⟨rfl, by first | rw [HTE.out.1] | rw [HTE.out.2]⟩
  case rest =>
  obtain ⟨rfl, rfl⟩ := hcut
  have HLT := Lib.hid (show lateW S tm inc = (decide (tm < 0) || decide (1125899906842624 < tm) || decide (inc < 0) || decide (n ≤ S.floor)) by unfold lateW; rw [HN.out])
  obtain ⟨lt, hlt0⟩ : ∃ lt, lt = lateW S tm inc := ⟨_, rfl⟩
  have HLTS := Lib.hid (show lateW S tm inc = lt from hlt0.symm)
  rw [← hlt0] at HLT
  clear hlt0
  go_upto_region 2 with fail
  have HW2 := Lib.hid (show Turns [] w1 w1.drew from (Turns.refl [] w1).drew)
  have g1' := (HG1.out _ HW2.out).2.1
  have g2' := (HG1.out _ HW2.out).2.2.1
  have c4' := (HC.out _ (HW1.out.then HW2.out)).2.2.2.1
  generalize w1.drew = w2 at HW2 g1' g2' c4' ⊢
  clear g0 g1 g2 g3 c0 c2 c3 c4 c6 c7 fz
  go_cut [7] (fun x wx => wx = w2 ∧ x = .bool lt)
  case first =>
    by_cases h1 : tm < 0
    · have d1 : decide (tm < 0) = true := by simpa using h1
      have e : lt = true := by rw [HLT.out, d1]; rfl
      have E := Lib.hid e
      clear e
      go_wp2_with fail
      go_meet
      exact ⟨rfl, by rw [E.out]⟩
    have d1 : decide (tm < 0) = false := by simpa using h1
    by_cases h2 : 1125899906842624 < tm
    · have d2 : decide (1125899906842624 < tm) = true := by simpa using h2
      have e : lt = true := by rw [HLT.out, d1, d2]; rfl
      have E := Lib.hid e
      clear e
      go_wp2_with fail
      go_meet
      exact ⟨rfl, by rw [E.out]⟩
    have d2 : decide (1125899906842624 < tm) = false := by simpa using h2
    by_cases h3 : inc < 0
    · have d3 : decide (inc < 0) = true := by simpa using h3
      have e : lt = true := by rw [HLT.out, d1, d2, d3]; rfl
      have E := Lib.hid e
      clear e
      go_wp2_with fail
      go_meet
      exact ⟨rfl, by rw [E.out]⟩
    have d3 : decide (inc < 0) = false := by simpa using h3
    have e : lt = decide (n ≤ S.floor) := by rw [HLT.out, d1, d2, d3]; rfl
    have E := Lib.hid e
    clear e
    go_wp2_with fail
    go_meet
    exact ⟨rfl, by rw [E.out]⟩
  case rest =>
  obtain ⟨rfl, rfl⟩ := hcut
  have HLL := Lib.hid (And.intro HOK.out.room (And.intro HOK.out.most hlc))
  obtain ⟨NN, hNN⟩ : ∃ NN, NN = S.L.length := ⟨_, rfl⟩
  have HNN := Lib.hid hNN
  have hn64 : (NN : Int) ≤ 64 := by have := HOK.out.room; have := HOK.out.most; omega
  clear hNN hlc hcm hlen1 hlen0 g1' g2' c4'
  go_wp2_with fail
  go_loopw [8, 9, 10] (fun i p k wr => ∃ j : Nat, j ≤ NN ∧ k = .int .i64 (j : Int) ∧ i = .bool (isW n (S.L.take j)) ∧ p = .int .i64 (posW n (S.L.take j) : Nat) ∧ wr = wc) (fun _ _ k _ => NN - (intOf k).toNat)
  case atStart => exact ⟨0, Nat.zero_le _, rfl, rfl, rfl, rfl⟩
  case round =>
    obtain ⟨j, hj, rfl, rfl, rfl, rfl⟩ := hrel
    obtain ⟨-, c2, c3, c4, c6, c7, fz⟩ := HC.out _ (HW1.out.then HW2.out)
    rw [← HNN.out] at c3
    have hj0 : (0 : Int) ≤ (j : Int) := by omega
    by_cases hlt : j < NN
    · have hlt' : (j : Int) < (NN : Int) := by omega
      obtain ⟨x, hx⟩ : ∃ x, S.L[j]? = some x := ⟨_, List.getElem?_eq_getElem (by have := HNN.out; omega)⟩
      have htk : S.L.take (j + 1) = S.L.take j ++ [x] := by rw [List.take_add_one, hx]; rfl
      have HI2 := Lib.hid (show isW n (S.L.take (j + 1)) = (isW n (S.L.take j) || x.num == n) ∧ posW n (S.L.take (j + 1)) = if x.num < n then j + 1 else posW n (S.L.take j) by
        rw [htk, isW_snoc, posW_snoc, List.length_take, Nat.min_eq_left (by have := HNN.out; omega)]
        exact ⟨rfl, rfl⟩)
      obtain ⟨b, off, c', r, e, hw, d0, d1⟩ := (H.out.list.pre (HW1.out.then HW2.out)).at hx
      injection e with e1 e2 e3
      subst e1 e3
      generalize isW n (S.L.take j) = is at HI2 ⊢
      generalize posW n (S.L.take j) = ps at HI2 ⊢
      clear htk hx hw d1 e2
      have HLT9 := Lib.hid hlt
      have HHI := HI2.out
      by_cases h1 : x.num < n
      · have dl : decide (x.num < n) = true := by simpa using h1
        have db : (x.num == n) = false := by simp; omega
        rw [if_pos h1, db, Bool.or_false] at HHI
        have HE := Lib.hid HHI
        clear h1 HHI HI2
        cases is with
        | true =>
          go_wp2_with fail
          exact ⟨⟨j + 1, HLT9.out, by go_num, by rw [HE.out.1], by rw [HE.out.2]; go_num, by first | rfl | trivial⟩, by have := HLT9.out; simp [intOf]; omega⟩
        | false =>
          go_wp2_with fail
          exact ⟨⟨j + 1, HLT9.out, by go_num, by rw [HE.out.1], by rw [HE.out.2]; go_num, by first | rfl | trivial⟩, by have := HLT9.out; simp [intOf]; omega⟩
      · have dl : decide (x.num < n) = false := by simpa using h1
        rw [if_neg h1] at HHI
        obtain ⟨b9, hb9⟩ : ∃ b9, b9 = (x.num == n) := ⟨_, rfl⟩
        rw [← hb9] at HHI
        have db : (x.num == n) = b9 := hb9.symm
        have HE := Lib.hid HHI
        clear h1 HHI HI2 hb9
        cases is with
        | true =>
          go_wp2_with fail
          exact ⟨⟨j + 1, HLT9.out, by go_num, by rw [HE.out.1]; rfl, by rw [HE.out.2], by first | rfl | trivial⟩, by have := HLT9.out; simp [intOf]; omega⟩
        | false =>
          go_wp2_with fail
          exact ⟨⟨j + 1, HLT9.out, by go_num, by rw [HE.out.1]; simp [db], by rw [HE.out.2], by first | rfl | trivial⟩, by have := HLT9.out; simp [intOf]; omega⟩
    · have hge : decide ((j : Int) < (NN : Int)) = false := by simp; omega
      obtain rfl : j = NN := by omega
      rw [show S.L.take j = S.L by rw [HNN.out, List.take_length]]
      have HPL := Lib.hid (show posW n S.L ≤ j by rw [HNN.out]; exact posW_le n S.L)
      have HFU := Lib.hid (show fullW S n = (!isW n S.L && ((j : Int) == S.most)) by unfold fullW; rw [HNN.out])
      have HIS := Lib.hid (show isW n S.L = true → ∃ x, S.L[posW n S.L]? = some x ∧ x.num = n from fun e => isW_at HOK.out.srt e)
      have HAD := Lib.hid (show addW S name tm inc = if lt || (fullW S n && posW n S.L == 0) then (true, [], { S with late := S.late + 1 }) else if fullW S n then (false, S.L.take 1, putW (firstW S) n name inc false (posW n S.L - 1)) else (false, [], putW S n name inc (isW n S.L) (posW n S.L)) by unfold addW; rw [HLTS.out, HN.out])
      obtain ⟨is, his⟩ : ∃ is, is = isW n S.L := ⟨_, rfl⟩
      obtain ⟨ps, hps⟩ : ∃ ps, ps = posW n S.L := ⟨_, rfl⟩
      obtain ⟨fu, hfu⟩ : ∃ fu, fu = fullW S n := ⟨_, rfl⟩
      rw [← his] at HFU HIS HAD ⊢
      rw [← hps] at HIS HAD HPL ⊢
      rw [← hfu] at HFU HAD
      have HH3 := Lib.hid (And.intro his (And.intro hps hfu))
      clear his hps hfu
      have HT2 := Lib.hid (show Turns [] w wr from HW1.out.then HW2.out)
      have HT3 := Lib.hid (show Turns [] wr wr.drew from (Turns.refl [] wr).drew)
      have q1 : ((j : Int) == S.most) = decide ((j : Int) = S.most) := by
        by_cases e : (j : Int) = S.most <;> simp [e]
      have HDQ := Lib.hid q1
      clear q1
      go_wp2_with fail
      go_cut [11] (fun x wx => wx = wr.drew ∧ x = .bool fu)
      case first =>
        cases is with
        | true =>
          have E := Lib.hid (show fu = false by rw [HFU.out]; rfl)
          first | go_region | fail "region 11"
          go_wp2
          go_meet
          exact ⟨rfl, by rw [E.out]⟩
        | false =>
          have E := Lib.hid (show fu = ((j : Int) == S.most) by rw [HFU.out]; rfl)
          first | go_region | fail "region 11"
          go_wp2
          go_meet
          exact ⟨rfl, by rw [E.out]⟩
      case rest =>
      obtain ⟨e3, rfl⟩ := hcut
      have HT3 := HT3.out
      rw [← e3] at HT3
      have HT3 := Lib.hid HT3
      have HTW := Lib.hid (HT2.out.then HT3.out)
      clear c2 c3 c4 c6 c7 fz e3
      obtain ⟨-, -, c3, -, c6, c7, fz⟩ := HC.out _ HTW.out
      have hlt0 : 0 ≤ S.late ∧ S.late ≤ 40000 := by have := HOK.out.late; omega
      have hcr0 : 0 ≤ S.cred ∧ S.cred ≤ 40000 := by have := HOK.out.cred; omega
      have hps0 : (0 : Int) ≤ (ps : Int) ∧ (ps : Int) ≤ 64 := by have := HPL.out; omega
      have HLATE : Hid (RefW B (wc.setCell ⟨rv, 7, none⟩ (.int .i64 (S.late + 1))) rv G (.slice A S.L.length c) { S with late := S.late + 1 } ∧ Turns [rv] w (wc.setCell ⟨rv, 7, none⟩ (.int .i64 (S.late + 1)))) := Lib.hid ⟨(H.out.pre HTW.out).put 7 _ rfl rfl, (HTW.out.mono (by simp)).trans (Turns.setCell _ _ _ (by simp)) fun i hi => .inl hi⟩
      have hA : ¬ (lt = true ∨ (fu = true ∧ ps = 0)) := by
        rw [← HLTS.out, HH3.out.2.2, HH3.out.2.1, HN.out]
        exact HCASE.out.1
      · have hl : lt = false := by cases lt <;> simp_all
        subst hl
        have hor : fu = true → ps ≠ 0 := fun e1 e2 => hA (.inr ⟨e1, e2⟩)
        have HAD2 := Lib.hid (show addW S name tm inc = if fu then (false, S.L.take 1, putW (firstW S) n name inc false (ps - 1)) else (false, [], putW S n name inc is ps) by
          rw [HAD.out, if_neg (by rintro e; apply hA; simpa using e)])
        have HST := Lib.hid (AddL.start (W := wc) (bx := #[.string name, .int .i64 tm, .int .i64 inc, .bool rs]) H.out hB HTW.out (HBX.out _ (HW2.out.then HT3.out)))
        have HORR := Lib.hid hor
        clear hA hor HAD HLATE
        have hf : fu = false := by rw [HH3.out.2.2, HN.out]; exact HCASE.out.2.1
        have his : is = true := by rw [HH3.out.1, HN.out]; exact HCASE.out.2.2
        subst hf his
        have HAE := Lib.hid (show addW S name tm inc = (false, [], putW S n name inc true ps) from HAD2.out)
        have HP1 : Hid (ps ≤ S.L.length ∧ S.L.length ≤ 100000) := Lib.hid (by have := HPL.out; have := HNN.out; omega)
        obtain ⟨p1, rfl⟩ : ∃ p1, p1 = ps := ⟨_, rfl⟩
        obtain ⟨L1, hL1⟩ : ∃ L1, L1 = S.L := ⟨_, rfl⟩
        obtain ⟨S1, hS1⟩ : ∃ S1, S1 = S := ⟨_, rfl⟩
        have HSC : Hid (S1.L = L1 ∧ S1.cred = S.cred) := Lib.hid (by rw [hS1, hL1]; exact ⟨rfl, rfl⟩)
        have HS1 := Lib.hid hS1
        rw [← hL1] at HP1
        have HL64 := Lib.hid (show L1.length ≤ 64 by rw [hL1]; have := HNN.out; omega)
        have HINC := Lib.hid (show 0 ≤ inc ∧ inc ≤ 9223372036854775807 from ⟨(lateW_no HOK.out HLTS.out).2.2.1, HI.out.2⟩)
        obtain ⟨v1, hv1⟩ : ∃ v1, v1 = Value.slice A S.L.length c := ⟨_, rfl⟩
        have HST1 : Hid (AddL B w rv G #[.string name, .int .i64 tm, .int .i64 inc, .bool rs] G v1 S1 (.slice none 0 0) [] (.slice none 0 0) [] [] wc) := Lib.hid (by rw [hS1, hv1]; exact HST.out)
        have HLS := Lib.hid hL1
        clear hL1 hS1 hv1 hps0 c3 c6 c7 fz
        go_upto_region 19 with fail
        obtain ⟨c0, c1, c2, c3, c4, c5, c6, c7, fz⟩ := HST1.out.ref.cells
        have fz6 := fz 6
        have hcr1 : 0 ≤ S1.cred ∧ S1.cred ≤ 40000 := by rw [HSC.out.2]; exact hcr0
        go_upto_region 20 with fail
        have HY := Lib.hid HST1.out.cred
        generalize wc.setCell ⟨rv, 6, none⟩ (.int .i64 (S1.cred + 1)) = wY at HY ⊢
        clear c0 c1 c2 c3 c4 c5 c6 c7 fz fz6
        obtain ⟨A4, c4, R4, e4, hl4, hm4, hR4, hp4, hr4⟩ := HY.out.parts
        simp only at hl4 hp4 hR4 e4
        rw [HSC.out.1] at hl4 hp4 hR4 e4
        subst e4
        obtain ⟨k0, k1, k2, k3, k4, k5, k6, k7, kz⟩ := HY.out.ref.cells
        try simp only at k3
        try rw [HSC.out.1] at k3
        have HRA := Lib.hid (hr4 wY (Turns.refl _ _) p1)
        have HRL := Lib.hid (show (R4.take p1).length = p1 by rw [List.length_take, hR4]; have := HP1.out; omega)
        have HMO := Lib.hid HY.out.more
        have HP4 := Lib.hid hp4
        have HR4 := Lib.hid (And.intro hR4 (And.intro hl4 hm4))
        have HRX := Lib.hid hr4
        have HP12 := Lib.hid (show p1 ≤ 100000 from Nat.le_trans HP1.out.1 HP1.out.2)
        obtain ⟨n1, hn1⟩ : ∃ n1, n1 = L1.length := ⟨_, rfl⟩
        have HN1 := Lib.hid hn1
        have hb1 : (p1 : Int) ≤ (n1 : Int) := by have := HP1.out.1; omega
        have hb2 : (n1 : Int) ≤ (c4 : Int) := by omega
        have hb0 : (0 : Int) ≤ (p1 : Int) := by omega
        rw [← hn1] at k3 hl4
        clear hp4 hr4 hR4 hm4 hn1 k0 k1 k2 k4 k5 k6 k7
        go_upto_region 22 with (at_builtin; refine EK.wpList_append_all wOk rfl (.tmp 120) (.tmp 126) rfl (w.heap.size + 1) (.slice none 0 0) [] rfl (World.ownsRow_nil _ _ _ _) wY.heap.size A4 (R4.take p1) p1 c4 HRL.out rfl HRA.out.1 (by rw [HRL.out]; simpa using HP12.out) HMO.out ?_; intro v5 w6 ho5 ht5 hf5; have HZ := Lib.hid (HY.out.app ho5 ht5 hf5 (HP4.out p1).1); clear ho5 ht5 hf5)
        obtain ⟨x, hx, hxn⟩ := HIS.out rfl
        have hxw := HOK.out.each x (List.mem_of_getElem? hx)
        have hpx : p1 < L1.length := by rw [HLS.out]; exact (List.getElem?_eq_some_iff.1 hx).1
        have hx1 : S1.L[p1]? = some x := by rw [HSC.out.1, HLS.out]; exact hx
        obtain ⟨bq, oq, cq, r, eq, hat⟩ := HZ.out.ref.list.atT hx1
        try simp only at eq
        try rw [HSC.out.1] at eq
        injection eq with eq1 eq2 eq3
        subst eq1 eq3
        have HAT := Lib.hid hat
        have HCR := Lib.hid (show ∀ X, Turns [] w6 X → Calls Try.prog 43 #[.slice r.A x.cr.length r.c, .agg #[.string name, .int .i64 tm, .int .i64 inc, .bool rs]] X fun e w' => ∃ A7 c7, e = .returned (.slice A7 (credL name inc x.cr).length c7) ∧ (∃ K7, AddL B w rv G #[.string name, .int .i64 tm, .int .i64 inc, .bool rs] K7 (.slice (some ⟨bq, oq, none⟩) L1.length c4) { S1 with cred := S1.cred + 1 } (.slice none 0 0) [] v5 ([] ++ R4.take p1) ([] ++ L1.take p1) w' ∧ WRd w' K7 ⟨n, A7, (credL name inc x.cr).length, c7⟩ ⟨n, credL name inc x.cr⟩) from fun X hX => by
          refine (rcred_any r.A r.c x.cr name tm inc rs X (by have := hxw.2.2.2.2.1; omega) ((HAT.out X hX).1.rd.reads) hxw.2.2.2.2.2 HINC.out).mono ?_
          rintro e w' ⟨oc, rfl, ho7, ht7⟩
          obtain ⟨A7, c7, e7, hz7, hw7⟩ := (HZ.out.next hX).creds ht7 ho7 n
          exact ⟨A7, c7, by rw [e7], _, hz7, hw7⟩)
        have HBX6 : Hid (∀ X, Turns [] w6 X → X.cell? ⟨w.heap.size, 0, none⟩ = some (.string name) ∧ X.cell? ⟨w.heap.size, 1, none⟩ = some (.int .i64 tm) ∧ X.cell? ⟨w.heap.size, 2, none⟩ = some (.int .i64 inc) ∧ X.cell? ⟨w.heap.size, 3, none⟩ = some (.bool rs) ∧ X.cell? ⟨rv, 3, none⟩ = some (.slice (some ⟨bq, oq, none⟩) n1 c4) ∧ X.cell? ⟨bq, oq + p1 * 2 + 1, none⟩ = some (.slice r.A x.cr.length r.c)) := Lib.hid (fun X hX => by
          have hb := (HZ.out.next hX).box
          have h3 := (HZ.out.next hX).ref.cells.2.2.2.1
          rw [← HN1.out] at h3
          refine ⟨?_, ?_, ?_, ?_, h3, (HAT.out X hX).2.2⟩ <;> simp [World.cell?, hb])
        obtain ⟨g0, g1, g2, g3, k3', kx⟩ := HBX6.out w6 (Turns.refl _ _)
        have HLZ := Lib.hid (show ([] ++ R4.take p1).length + 1 ≤ 100000 by rw [List.nil_append, HRL.out]; have := HP1.out; have := HL64.out; omega)
        have HXX := Lib.hid (And.intro hx (And.intro hxn hpx))
        have hlt1 : (p1 : Int) < (n1 : Int) := by rw [HN1.out]; omega
        clear HRA k3 hx hxn hxw hpx hx1 hat eq2
        have HM9 := Lib.hid (fun (X Y : World) (ht : Turns [] X Y) (h : w.heap.size + 1 ≤ X.heap.size) => show w.heap.size + 1 ≤ Y.heap.size from Nat.le_trans h ht.size)
        go_upto_region 23 with fail
        go_cut [13] (fun v wx => ∃ K7 A7 c7, Hid (AddL B w rv G #[.string name, .int .i64 tm, .int .i64 inc, .bool rs] K7 (.slice (some ⟨bq, oq, none⟩) L1.length c4) { S1 with cred := S1.cred + 1 } (.slice none 0 0) [] v ([] ++ R4.take p1 ++ [⟨n, A7, (credL name inc x.cr).length, c7⟩]) ([] ++ L1.take p1 ++ [⟨n, credL name inc x.cr⟩]) wx))
        case first =>
          first | go_region_law (first | (go_simp; go_at_call 43; refine (HCR.out _ (by first | exact Turns.refl _ _ | exact (Turns.refl _ _).drew)).mono ?_; rintro e w7 ⟨A7, c7, rfl, K7, hz7, hw7⟩; have HZ7 := Lib.hid hz7; have HW7 := Lib.hid hw7; clear hz7 hw7) | (refine EK.step_append_all wOk (by rfl) (.tmp 129) (.tmp 142) (by rfl) (w.heap.size + 1) v5 ([] ++ R4.take p1) (by rfl) (HZ7.out.next (Turns.alloc _ _)).own (w7.heap.size + 1) (some ⟨w7.heap.size, 0, none⟩) [⟨n, A7, (credL name inc x.cr).length, c7⟩] 1 1 (by rfl) (by rfl) (EK.Reads.lone wOk (W := w7) _ _ _ rfl rfl) HLZ.out (HZ7.out.next (Turns.alloc _ _)).more ?_; intro v8 w8 ho8 ht8 hf8; have HZ8 := Lib.hid ((HZ7.out.next (Turns.alloc _ _)).app ho8 ht8 hf8 (.one (HW7.out.turns (Turns.alloc (F := []) _ _) (by simp)))); clear ho8 ht8 hf8)) | fail "region 23"
          all_goals
            go_wp2
            go_meet
            exact ⟨_, _, _, HZ8⟩
        case rest =>
        obtain ⟨K7, A7, c7, HZ8⟩ := hcut
        clear g0 g1 g2 g3 k3' kx HAT HCR HBX6
        obtain ⟨k0, k1, k2, k3, k4, k5, k6, k7, kz⟩ := HZ8.out.ref.cells
        try simp only at k3
        rw [← HN1.out] at k3
        have kz3 := kz 3
        clear k0 k1 k2 k4 k5 k6 k7 kz
        obtain ⟨A5, c5, R5, e5, hl5, hm5, hR5, hp5, hr5⟩ := HZ8.out.parts
        try simp only at hl5 hp5 hR5 e5
        rw [HSC.out.1] at hl5 hp5 hR5 e5
        injection e5 with e51 e52 e53
        subst e51 e53
        have HRD := Lib.hid (show (R5.drop (p1 + 1)).length = n1 - (p1 + 1) by rw [List.length_drop, hR5, HN1.out])
        have HRW := Lib.hid (hr5 wc (Turns.refl _ _) (p1 + 1)).2
        have HWR := Lib.hid (hp5 (p1 + 1)).2
        have HR5 := Lib.hid hR5
        clear e52 hl5 hm5 hp5 hr5 hR5
        have HPE := Lib.hid (show putW S n name inc true p1 = { S1 with cred := S1.cred + 1, L := [] ++ L1.take p1 ++ [⟨n, credL name inc x.cr⟩] ++ L1.drop (p1 + 1) } by
          rw [← HS1.out]
          unfold putW
          rw [HSC.out.1, show wnAt L1 p1 = x.cr by unfold wnAt; rw [HLS.out, HXX.out.1]; rfl]
          simp)
        have HLZ2 := Lib.hid (show ([] ++ R4.take p1 ++ [(⟨n, A7, (credL name inc x.cr).length, c7⟩ : Rw)]).length + (R5.drop (p1 + 1)).length ≤ 100000 by have h1 := HRL.out; have h2 := HR5.out; have h3 := HL64.out; have h4 := HP1.out; simp only [List.length_append, List.length_nil, List.length_cons, List.length_drop]; omega)
        have hb9 := HP12.out
        obtain ⟨p2, hp2⟩ : ∃ p2, p2 = p1 + 1 := ⟨_, rfl⟩
        have hb3 : (p2 : Int) ≤ (n1 : Int) := by omega
        have hb4 : (p2 : Int) ≤ (c4 : Int) := by omega
        have hb5 : (0 : Int) ≤ (p2 : Int) := by omega
        have hwr : wrap64 ((p1 : Int) + 1) = (p2 : Int) := by rw [IntWalk.wrap64_in _ (by omega)]; omega
        rw [← hp2] at HRD HRW HWR HPE HLZ2
        clear hp2 hb9
        have HRWW : Hid (wK.Reads wc wc.heap.size (if c4 = p2 then some ⟨bq, oq, none⟩ else some ⟨bq, oq + p2 * 2, none⟩) (R5.drop p2)) := Lib.hid (by
          have h1 := HRW.out
          split
          · rename_i e
            rw [if_pos e] at h1
            exact h1
          · rename_i e
            rw [if_neg e] at h1
            have e2 : Option.map (fun x : Addr => x.add (p2 * 2)) (some ⟨bq, oq, none⟩) = some ⟨bq, oq + p2 * 2, none⟩ := by
              show some ((⟨bq, oq, none⟩ : Addr).add (p2 * 2)) = _
              rw [add_plain']
            rw [e2] at h1
            exact h1)
        go_wp2_with (at_builtin; refine EK.wpList_append_all wOk rfl (.tmp 145) (.tmp 152) rfl (w.heap.size + 1) _ _ rfl HZ8.out.own wc.heap.size _ (R5.drop p2) (n1 - p2) (c4 - p2) HRD.out rfl HRWW.out HLZ2.out HZ8.out.more ?_; intro v9 w9 ho9 ht9 hf9; have HZ9 := Lib.hid (HZ8.out.app ho9 ht9 hf9 HWR.out); have kz3 : w9.frozen? ⟨rv, 3, none⟩ = false := (HZ9.out.ref.cells).2.2.2.2.2.2.2.2 3; have k39 := (HZ9.out.ref.cells).2.2.2.1; rw [← HN1.out] at k39; obtain ⟨A9, c9, e9, -⟩ := ho9.reads; obtain ⟨n9, hn9⟩ : ∃ n9, n9 = ([] ++ R4.take p1 ++ [(⟨n, A7, (credL name inc x.cr).length, c7⟩ : Rw)] ++ R5.drop p2).length := ⟨_, rfl⟩; rw [← hn9] at e9; subst e9; clear ho9 ht9 hf9 hn9)
        all_goals
          have HF := Lib.hid HZ9.out.fin
          go_ret2
          rw [HAE.out, HPE.out]
          first | exact ⟨_, _, _, _, rfl, HF.out.2.1, HF.out.1, HF.out.2.2.1, HF.out.2.2.2.1, HF.out.2.2.2.2⟩ | exact ⟨_, rfl, _, _, _, HF.out.2.1, HF.out.1, HF.out.2.2.1, HF.out.2.2.2.1, HF.out.2.2.2.2⟩ | (trace_state; fail "end")
end Go.Proofs.Ytjkkpdflijjllaa
