/- The document's Add: WnAddA. -/
import Derived.Test.YtjkkpdflijjllaaWnAddL
import Derived.Test.YtjkkpdflijjllaaInv
namespace Go.Proofs.Ytjkkpdflijjllaa
open Go.RowKit

set_option maxRecDepth 100000 in
set_option maxHeartbeats 4000000 in
theorem raddW_late {B : Nat} {w : World} {rv : Nat} {G : List Nat} {v : Value} {S : Ws} {N : Nat} (h : RefW B w rv G v S) (hB : B ≤ w.heap.size) (hok : WsOk S N) (hN : N ≤ 40000) (name : ByteArray) (tm inc : Int) (rs : Bool) (hi : -9223372036854775808 ≤ inc ∧ inc ≤ 9223372036854775807) (ht0 : -9223372036854775808 ≤ tm ∧ tm ≤ 9223372036854775807) (hcase : lateW S tm inc = true ∨ (fullW S (Int.tdiv tm S.len) = true ∧ posW (Int.tdiv tm S.len) S.L = 0)) :
    Calls Try.prog 28 #[.pointer (some ⟨rv, 0, none⟩), .agg #[.string name, .int .i64 tm, .int .i64 inc, .bool rs]] w fun e w' => ∃ o v' G' H, e = .returned (.tuple #[.bool (addW S name tm inc).1, o]) ∧ WnL w' H o (addW S name tm inc).2.1 ∧ RefW B w' rv G' v' (addW S name tm inc).2.2 ∧ Turns [rv] w w' ∧ (∀ i ∈ G', i ∈ G ∨ w.heap.size ≤ i) ∧ ∀ i ∈ H, i ∈ G ∨ w.heap.size ≤ i := by
  obtain ⟨A, c, R, rfl, hlc, hcm, hR, hRs⟩ := h.list
  have hlen1 := hok.len.1
  have HOK := Lib.hid hok
  have HCASE := Lib.hid hcase
  clear hcase
  have H := Lib.hid h
  have HR := Lib.hid hR
  have HRs := Lib.hid hRs
  have HI := Lib.hid hi
  have HW1 : Hid (Turns [] w (w.alloc (.cells #[.string name, .int .i64 tm, .int .i64 inc, .bool rs] 34))) := Lib.hid (Turns.alloc _ _)
  have HG1 : Hid (∀ Y, Turns [] (w.alloc (.cells #[.string name, .int .i64 tm, .int .i64 inc, .bool rs] 34)) Y → Y.cell? ⟨w.heap.size, 0, none⟩ = some (.string name) ∧ Y.cell? ⟨w.heap.size, 1, none⟩ = some (.int .i64 tm) ∧ Y.cell? ⟨w.heap.size, 2, none⟩ = some (.int .i64 inc) ∧ Y.cell? ⟨w.heap.size, 3, none⟩ = some (.bool rs)) := Lib.hid (fun Y ht => ⟨lone_cellsW _ _ ht 0 _ rfl, lone_cellsW _ _ ht 1 _ rfl, lone_cellsW _ _ ht 2 _ rfl, lone_cellsW _ _ ht 3 _ rfl⟩)
  have HC : Hid (∀ Y, Turns [] w Y → Y.cell? ⟨rv, 0, none⟩ = some (.int .i64 S.len) ∧ Y.cell? ⟨rv, 2, none⟩ = some (.int .i64 S.most) ∧ Y.cell? ⟨rv, 3, none⟩ = some (.slice A S.L.length c) ∧ Y.cell? ⟨rv, 4, none⟩ = some (.int .i64 S.floor) ∧ Y.cell? ⟨rv, 6, none⟩ = some (.int .i64 S.cred) ∧ Y.cell? ⟨rv, 7, none⟩ = some (.int .i64 S.late) ∧ ∀ j, Y.frozen? ⟨rv, j, none⟩ = false) := Lib.hid (fun Y ht => by
    obtain ⟨c0, c1, c2, c3, c4, c5, c6, c7, fz⟩ := (h.pre ht).cells
    exact ⟨c0, c2, c3, c4, c6, c7, fz⟩)
  have hlen0 : S.len ≠ 0 := by omega
  clear h hok hR hRs hi
  go_enter Try.func28, Try.ntmps28
  go_upto_region 1 with fail
  generalize hw1 : w.alloc (.cells #[.string name, .int .i64 tm, .int .i64 inc, .bool rs] 34) = w1 at HW1 HG1 ⊢
  have HBX : Hid (∀ Y, Turns [] w1 Y → Y.heap[w.heap.size]? = some (.cells #[.string name, .int .i64 tm, .int .i64 inc, .bool rs] 34 (0, 0))) := Lib.hid (fun Y ht => by
    subst hw1
    exact (ht.block _ (by simp) (by simp)).trans (heap_alloc_new w _))
  clear hw1
  obtain ⟨g0, g1, g2, g3⟩ := HG1.out w1 (Turns.refl _ _)
  obtain ⟨c0, c2, c3, c4, c6, c7, fz⟩ := HC.out w1 HW1.out
  have q0 : (S.len == 0) = false := by simpa using hlen0
  have HTD : Hid (wrap64 (Int.tdiv tm S.len) = Int.tdiv tm S.len) := Lib.hid (IntWalk.wrap64_in _ (by
    rcases Int.le_total 0 tm with h0 | h0
    · rw [Int.tdiv_eq_ediv_of_nonneg h0]
      have h1 := Int.ediv_nonneg (a := tm) (b := S.len) h0 (by omega)
      have h2 := Int.ediv_le_self (a := tm) S.len h0
      omega
    · obtain ⟨t, rfl⟩ : ∃ t, tm = -t := ⟨-tm, by omega⟩
      rw [Int.neg_tdiv, Int.tdiv_eq_ediv_of_nonneg (by omega)]
      have h1 := Int.ediv_nonneg (a := t) (b := S.len) (by omega) (by omega)
      have h2 := Int.ediv_le_self (a := t) S.len (by omega)
      omega))
  obtain ⟨n, hn⟩ : ∃ n, n = Int.tdiv tm S.len := ⟨_, rfl⟩
  have HN := Lib.hid hn
  have HTE : Hid (wrap64 (Int.tdiv tm S.len) = n ∧ Int.tdiv tm S.len = n) := Lib.hid ⟨HTD.out.trans hn.symm, hn.symm⟩
  clear hn HTD ht0
  go_cut [6] (fun x wx => wx = w1.drew ∧ x = .int .i64 n)
  case first =>
    first | go_region | fail "region 1"
    go_wp2
    go_meet
    exact ⟨rfl, by first | rw [HTE.out.1] | rw [HTE.out.2]⟩
  case rest =>
  obtain ⟨rfl, rfl⟩ := hcut
  have HLT := Lib.hid (show lateW S tm inc = (decide (tm < 0) || decide (1125899906842624 < tm) || decide (inc < 0) || decide (n ≤ S.floor)) by unfold lateW; rw [HN.out])
  obtain ⟨lt, hlt0⟩ : ∃ lt, lt = lateW S tm inc := ⟨_, rfl⟩
  have HLTS := Lib.hid (show lateW S tm inc = lt from hlt0.symm)
  rw [← hlt0] at HLT
  clear hlt0
  go_upto_region 2 with fail
  have HW2 := Lib.hid (show Turns [] w1 w1.drew from (Turns.refl [] w1).drew)
  have g1' := (HG1.out _ HW2.out).2.1
  have g2' := (HG1.out _ HW2.out).2.2.1
  have c4' := (HC.out _ (HW1.out.then HW2.out)).2.2.2.1
  generalize w1.drew = w2 at HW2 g1' g2' c4' ⊢
  clear g0 g1 g2 g3 c0 c2 c3 c4 c6 c7 fz
  go_cut [7] (fun x wx => wx = w2 ∧ x = .bool lt)
  case first =>
    by_cases h1 : tm < 0
    · have d1 : decide (tm < 0) = true := by simpa using h1
      have e : lt = true := by rw [HLT.out, d1]; rfl
      have E := Lib.hid e
      clear e
      go_wp2_with fail
      go_meet
      exact ⟨rfl, by rw [E.out]⟩
    have d1 : decide (tm < 0) = false := by simpa using h1
    by_cases h2 : 1125899906842624 < tm
    · have d2 : decide (1125899906842624 < tm) = true := by simpa using h2
      have e : lt = true := by rw [HLT.out, d1, d2]; rfl
      have E := Lib.hid e
      clear e
      go_wp2_with fail
      go_meet
      exact ⟨rfl, by rw [E.out]⟩
    have d2 : decide (1125899906842624 < tm) = false := by simpa using h2
    by_cases h3 : inc < 0
    · have d3 : decide (inc < 0) = true := by simpa using h3
      have e : lt = true := by rw [HLT.out, d1, d2, d3]; rfl
      have E := Lib.hid e
      clear e
      go_wp2_with fail
      go_meet
      exact ⟨rfl, by rw [E.out]⟩
    have d3 : decide (inc < 0) = false := by simpa using h3
    have e : lt = decide (n ≤ S.floor) := by rw [HLT.out, d1, d2, d3]; rfl
    have E := Lib.hid e
    clear e
    go_wp2_with fail
    go_meet
    exact ⟨rfl, by rw [E.out]⟩
  case rest =>
  obtain ⟨rfl, rfl⟩ := hcut
  have HLL := Lib.hid (And.intro HOK.out.room (And.intro HOK.out.most hlc))
  obtain ⟨NN, hNN⟩ : ∃ NN, NN = S.L.length := ⟨_, rfl⟩
  have HNN := Lib.hid hNN
  have hn64 : (NN : Int) ≤ 64 := by have := HOK.out.room; have := HOK.out.most; omega
  clear hNN hlc hcm hlen1 hlen0 g1' g2' c4'
  go_wp2_with fail
  go_loopw [8, 9, 10] (fun i p k wr => ∃ j : Nat, j ≤ NN ∧ k = .int .i64 (j : Int) ∧ i = .bool (isW n (S.L.take j)) ∧ p = .int .i64 (posW n (S.L.take j) : Nat) ∧ wr = wc) (fun _ _ k _ => NN - (intOf k).toNat)
  case atStart => exact ⟨0, Nat.zero_le _, rfl, rfl, rfl, rfl⟩
  case round =>
    obtain ⟨j, hj, rfl, rfl, rfl, rfl⟩ := hrel
    obtain ⟨-, c2, c3, c4, c6, c7, fz⟩ := HC.out _ (HW1.out.then HW2.out)
    rw [← HNN.out] at c3
    have hj0 : (0 : Int) ≤ (j : Int) := by omega
    by_cases hlt : j < NN
    · have hlt' : (j : Int) < (NN : Int) := by omega
      obtain ⟨x, hx⟩ : ∃ x, S.L[j]? = some x := ⟨_, List.getElem?_eq_getElem (by have := HNN.out; omega)⟩
      have htk : S.L.take (j + 1) = S.L.take j ++ [x] := by rw [List.take_add_one, hx]; rfl
      have HI2 := Lib.hid (show isW n (S.L.take (j + 1)) = (isW n (S.L.take j) || x.num == n) ∧ posW n (S.L.take (j + 1)) = if x.num < n then j + 1 else posW n (S.L.take j) by
        rw [htk, isW_snoc, posW_snoc, List.length_take, Nat.min_eq_left (by have := HNN.out; omega)]
        exact ⟨rfl, rfl⟩)
      obtain ⟨b, off, c', r, e, hw, d0, d1⟩ := (H.out.list.pre (HW1.out.then HW2.out)).at hx
      injection e with e1 e2 e3
      subst e1 e3
      generalize isW n (S.L.take j) = is at HI2 ⊢
      generalize posW n (S.L.take j) = ps at HI2 ⊢
      clear htk hx hw d1 e2
      have HLT9 := Lib.hid hlt
      have HHI := HI2.out
      by_cases h1 : x.num < n
      · have dl : decide (x.num < n) = true := by simpa using h1
        have db : (x.num == n) = false := by simp; omega
        rw [if_pos h1, db, Bool.or_false] at HHI
        have HE := Lib.hid HHI
        clear h1 HHI HI2
        cases is with
        | true =>
          go_wp2_with fail
          exact ⟨⟨j + 1, HLT9.out, by go_num, by rw [HE.out.1], by rw [HE.out.2]; go_num, by first | rfl | trivial⟩, by have := HLT9.out; simp [intOf]; omega⟩
        | false =>
          go_wp2_with fail
          exact ⟨⟨j + 1, HLT9.out, by go_num, by rw [HE.out.1], by rw [HE.out.2]; go_num, by first | rfl | trivial⟩, by have := HLT9.out; simp [intOf]; omega⟩
      · have dl : decide (x.num < n) = false := by simpa using h1
        rw [if_neg h1] at HHI
        obtain ⟨b9, hb9⟩ : ∃ b9, b9 = (x.num == n) := ⟨_, rfl⟩
        rw [← hb9] at HHI
        have db : (x.num == n) = b9 := hb9.symm
        have HE := Lib.hid HHI
        clear h1 HHI HI2 hb9
        cases is with
        | true =>
          go_wp2_with fail
          exact ⟨⟨j + 1, HLT9.out, by go_num, by rw [HE.out.1]; rfl, by rw [HE.out.2], by first | rfl | trivial⟩, by have := HLT9.out; simp [intOf]; omega⟩
        | false =>
          go_wp2_with fail
          exact ⟨⟨j + 1, HLT9.out, by go_num, by rw [HE.out.1]; simp [db], by rw [HE.out.2], by first | rfl | trivial⟩, by have := HLT9.out; simp [intOf]; omega⟩
    · have hge : decide ((j : Int) < (NN : Int)) = false := by simp; omega
      obtain rfl : j = NN := by omega
      rw [show S.L.take j = S.L by rw [HNN.out, List.take_length]]
      have HPL := Lib.hid (show posW n S.L ≤ j by rw [HNN.out]; exact posW_le n S.L)
      have HFU := Lib.hid (show fullW S n = (!isW n S.L && ((j : Int) == S.most)) by unfold fullW; rw [HNN.out])
      have HIS := Lib.hid (show isW n S.L = true → ∃ x, S.L[posW n S.L]? = some x ∧ x.num = n from fun e => isW_at HOK.out.srt e)
      have HAD := Lib.hid (show addW S name tm inc = if lt || (fullW S n && posW n S.L == 0) then (true, [], { S with late := S.late + 1 }) else if fullW S n then (false, S.L.take 1, putW (firstW S) n name inc false (posW n S.L - 1)) else (false, [], putW S n name inc (isW n S.L) (posW n S.L)) by unfold addW; rw [HLTS.out, HN.out])
      obtain ⟨is, his⟩ : ∃ is, is = isW n S.L := ⟨_, rfl⟩
      obtain ⟨ps, hps⟩ : ∃ ps, ps = posW n S.L := ⟨_, rfl⟩
      obtain ⟨fu, hfu⟩ : ∃ fu, fu = fullW S n := ⟨_, rfl⟩
      rw [← his] at HFU HIS HAD ⊢
      rw [← hps] at HIS HAD HPL ⊢
      rw [← hfu] at HFU HAD
      have HH3 := Lib.hid (And.intro his (And.intro hps hfu))
      clear his hps hfu
      have HT2 := Lib.hid (show Turns [] w wr from HW1.out.then HW2.out)
      have HT3 := Lib.hid (show Turns [] wr wr.drew from (Turns.refl [] wr).drew)
      have q1 : ((j : Int) == S.most) = decide ((j : Int) = S.most) := by
        by_cases e : (j : Int) = S.most <;> simp [e]
      have HDQ := Lib.hid q1
      clear q1
      go_wp2_with fail
      go_cut [11] (fun x wx => wx = wr.drew ∧ x = .bool fu)
      case first =>
        cases is with
        | true =>
          have E := Lib.hid (show fu = false by rw [HFU.out]; rfl)
          first | go_region | fail "region 11"
          go_wp2
          go_meet
          exact ⟨rfl, by rw [E.out]⟩
        | false =>
          have E := Lib.hid (show fu = ((j : Int) == S.most) by rw [HFU.out]; rfl)
          first | go_region | fail "region 11"
          go_wp2
          go_meet
          exact ⟨rfl, by rw [E.out]⟩
      case rest =>
      obtain ⟨e3, rfl⟩ := hcut
      have HT3 := HT3.out
      rw [← e3] at HT3
      have HT3 := Lib.hid HT3
      have HTW := Lib.hid (HT2.out.then HT3.out)
      clear c2 c3 c4 c6 c7 fz e3
      obtain ⟨-, -, c3, -, c6, c7, fz⟩ := HC.out _ HTW.out
      have hlt0 : 0 ≤ S.late ∧ S.late ≤ 40000 := by have := HOK.out.late; omega
      have hcr0 : 0 ≤ S.cred ∧ S.cred ≤ 40000 := by have := HOK.out.cred; omega
      have hps0 : (0 : Int) ≤ (ps : Int) ∧ (ps : Int) ≤ 64 := by have := HPL.out; omega
      have HLATE : Hid (RefW B (wc.setCell ⟨rv, 7, none⟩ (.int .i64 (S.late + 1))) rv G (.slice A S.L.length c) { S with late := S.late + 1 } ∧ Turns [rv] w (wc.setCell ⟨rv, 7, none⟩ (.int .i64 (S.late + 1)))) := Lib.hid ⟨(H.out.pre HTW.out).put 7 _ rfl rfl, (HTW.out.mono (by simp)).trans (Turns.setCell _ _ _ (by simp)) fun i hi => .inl hi⟩
      have hA : lt = true ∨ (fu = true ∧ ps = 0) := by
        rw [← HLTS.out, HH3.out.2.2, HH3.out.2.1, HN.out]
        exact HCASE.out
      · have E := Lib.hid (show addW S name tm inc = (true, [], { S with late := S.late + 1 }) by
          rw [HAD.out, if_pos (by rcases hA with e | ⟨e1, e2⟩ <;> simp [*])])
        have HFIN : Hid (∀ X, RefW B X rv G (.slice A S.L.length c) { S with late := S.late + 1 } ∧ Turns [rv] w X → ∃ o v' G' H, (Ending.returned (.tuple #[.bool true, .slice none 0 0]) : Ending) = .returned (.tuple #[.bool (addW S name tm inc).1, o]) ∧ WnL X H o (addW S name tm inc).2.1 ∧ RefW B X rv G' v' (addW S name tm inc).2.2 ∧ Turns [rv] w X ∧ (∀ i ∈ G', i ∈ G ∨ w.heap.size ≤ i) ∧ ∀ i ∈ H, i ∈ G ∨ w.heap.size ≤ i) := Lib.hid (fun X hX => by
          rw [E.out]
          exact ⟨_, _, G, [], rfl, .nil, hX.1, hX.2, fun i hi => .inl hi, fun i hi => by cases hi⟩)
        cases hl : lt with
        | true =>
          clear hA E HAD
          go_wp2_with fail
          go_ret2
          exact HFIN.out _ HLATE.out
        | false =>
          obtain ⟨e1, e2⟩ : fu = true ∧ ps = 0 := hA.resolve_left (by simp [hl])
          subst e1 e2
          clear hA E HAD
          go_wp2_with fail
          go_ret2
          exact HFIN.out _ HLATE.out
end Go.Proofs.Ytjkkpdflijjllaa
