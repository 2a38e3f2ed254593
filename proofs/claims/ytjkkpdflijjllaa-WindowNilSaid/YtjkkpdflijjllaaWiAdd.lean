/- The program's Add. -/
import Derived.Test.YtjkkpdflijjllaaWiClock
import Derived.Test.YtjkkpdflijjllaaWiCred
namespace Go.Proofs.Ytjkkpdflijjllaa
open Go.RowKit Go.Maps Go.Sort Go.Shelf

theorem tdiv_in {a c : Int} (hc : 1 ≤ c) (ha : -9223372036854775808 ≤ a ∧ a ≤ 9223372036854775807) : -9223372036854775808 ≤ Int.tdiv a c ∧ Int.tdiv a c ≤ 9223372036854775807 := by
  by_cases h0 : 0 ≤ a
  · rw [Int.tdiv_eq_ediv_of_nonneg h0]
    have h1 := Int.ediv_nonneg h0 (show 0 ≤ c by omega)
    have h2 := Int.ediv_le_self c h0
    omega
  · have e : Int.tdiv a c = -(Int.tdiv (-a) c) := by rw [Int.neg_tdiv]; omega
    rw [e, Int.tdiv_eq_ediv_of_nonneg (show 0 ≤ -a by omega)]
    have h1 := Int.ediv_nonneg (show 0 ≤ -a by omega) (show 0 ≤ c by omega)
    have h2 := Int.ediv_le_self c (show 0 ≤ -a by omega)
    omega
/-- What Add does. -/
def AddPost (B : Nat) (w : World) (p b : Nat) (P : PW) (S : Ws) (name : ByteArray) (tm inc : Int) (e : Ending) (w' : World) : Prop :=
  ∃ o H P', e = .returned (.tuple #[.bool (addW S name tm inc).1, o]) ∧ WnL w' H o (addW S name tm inc).2.1 ∧ WiA B w' p b P' (addW S name tm inc).2.2 ∧ (∀ i, WiA.In p b P' i → WiA.In p b P i ∨ w.heap.size ≤ i) ∧ (∃ G, Turns G w w' ∧ ∀ i ∈ G, WiA.In p b P i ∨ w.heap.size ≤ i) ∧ ∀ i ∈ H, w.heap.size ≤ i ∧ i < w'.heap.size ∧ ¬ WiA.In p b P' i
theorem oldC_ok {S : Ws} {N : Nat} (h : WsOk S N) (n : Int) : COk (oldC S n) := by
  unfold oldC
  split
  · rename_i hi
    obtain ⟨x, hx, -⟩ := isW_at h.srt hi
    unfold wnAt
    rw [hx]
    exact (h.each x (List.mem_of_getElem? hx)).2.2.2.2.2
  · exact fun x hx => by cases hx
theorem oldC_len {S : Ws} {N : Nat} (h : WsOk S N) (n : Int) (hN : N ≤ 50000) : (oldC S n).length ≤ 50000 := by
  unfold oldC
  split
  · rename_i hi
    obtain ⟨x, hx, -⟩ := isW_at h.srt hi
    unfold wnAt
    rw [hx]
    exact Nat.le_trans (h.each x (List.mem_of_getElem? hx)).2.2.2.2.1 hN
  · exact Nat.zero_le _
set_option maxRecDepth 100000 in
set_option maxHeartbeats 4000000 in
theorem add_bad_any {B : Nat} {w : World} {p b : Nat} {P : PW} {S : Ws} {N : Nat} (h : WiA B w p b P S) (hok : WsOk S N) (hN : N ≤ 1000) (hB : B ≤ w.heap.size) (name : ByteArray) (hns : name.size ≤ 140737488355328) (tm inc : Int) (rs : Bool) (ht : -9223372036854775808 ≤ tm ∧ tm ≤ 9223372036854775807) (hin : -9223372036854775808 ≤ inc ∧ inc ≤ 9223372036854775807) (hbad : (decide (0 ≤ tm) && decide (tm ≤ 1125899906842624)) = false) :
    Calls Try.prog 16 #[ptrV p, .agg #[.string name, .int .i64 tm, .int .i64 inc, .bool rs]] w (AddPost B w p b P S name tm inc) := by
  have H := Lib.hid h
  have HOK := Lib.hid hok
  have HN := Lib.hid hN
  have HBB := Lib.hid hB
  have HNS := Lib.hid hns
  have hlen := hok.len
  have hlate := hok.late
  have hne : S.len ≠ 0 := by omega
  have hnb : (S.len == 0) = false := by simp; omega
  obtain ⟨n, hnn⟩ : ∃ n, Int.tdiv tm S.len = n := ⟨_, rfl⟩
  have hnr : -9223372036854775808 ≤ n ∧ n ≤ 9223372036854775807 := by rw [← hnn]; exact tdiv_in hlen.1 ht
  have hw : IntKind.i64.wrap (Int.tdiv tm S.len) = n := by rw [hnn]; exact IntWalk.i64_in _ hnr
  have HNR := Lib.hid hnr
  have HNN := Lib.hid hnn
  have HIN := Lib.hid hin
  have hwl : IntKind.i64.wrap (S.late + 1) = S.late + 1 := IntWalk.i64_in _ (by omega)
  have HWL := Lib.hid hwl
  have HIT := Lib.hid (fun W => isTime_any tm W)
  rw [hbad] at HIT
  have hadd : (decide (tm < 0) || decide (1125899906842624 < tm) || decide (inc < 0) || lateB S (Int.tdiv tm S.len)) = true := by
    rw [Bool.and_eq_false_iff] at hbad
    simp only [decide_eq_false_iff_not] at hbad
    simp only [Bool.or_eq_true, decide_eq_true_eq]
    rcases hbad with q | q
    · exact .inl (.inl (.inl (by omega)))
    · exact .inl (.inl (.inr (by omega)))
  have HFIN : Hid (∀ W, Turns [] w W → AddPost B w p b P S name tm inc (.returned (.tuple #[.bool true, .slice none 0 0])) (W.setCell ⟨p, 6, none⟩ (.int .i64 (S.late + 1)))) := Lib.hid fun W hW => by
    obtain ⟨h1, h2⟩ := (h.pre hW).put (S' := { S with late := S.late + 1 }) 6 (.int .i64 (S.late + 1)) rfl rfl rfl
    unfold AddPost
    rw [add_late (name := name) hadd]
    exact ⟨_, [], P, rfl, .nil, h1, fun i hi => .inl hi, ⟨[p], (hW.mono (by simp)).then h2, fun i hi => .inl (by simp at hi; exact .inl hi)⟩, by simp⟩
  clear hadd hbad
  have HLEN := Lib.hid hlen
  have HLT := Lib.hid hlate
  clear h hok hB hns hnr hnn hwl hlen hlate
  go_enter Try.func16, Try.ntmps16
  go_upto_region 1 with fail
  obtain ⟨W0, hW0⟩ : ∃ W0, w.alloc (.cells #[.string name, .int .i64 tm, .int .i64 inc, .bool rs] 34) = W0 := ⟨_, rfl⟩
  have HBX : Hid (W0.heap[w.heap.size]? = some (.cells #[.string name, .int .i64 tm, .int .i64 inc, .bool rs] 34 (0, 0))) := Lib.hid (by rw [← hW0]; exact heap_alloc_new w _)
  have HT0 : Hid (Turns [] w W0) := Lib.hid (by rw [← hW0]; exact Turns.alloc _ _)
  rw [hW0]
  clear hW0
  have HNO := Lib.hid (isNone_no (H.out.pre HT0.out).head H.out.len)
  obtain ⟨c0, -, -, -, -, -, c6, c7, cf⟩ := (H.out.pre HT0.out).head.cells
  have hbx := HBX.out
  have b1 : W0.cell? ⟨w.heap.size, 1, none⟩ = some (.int .i64 tm) := by simp [World.cell?, hbx]
  have b2 : W0.cell? ⟨w.heap.size, 2, none⟩ = some (.int .i64 inc) := by simp [World.cell?, hbx]
  clear hbx
  go_wp2_with fail
  refine HNO.out.mono ?_
  rintro e w1 ⟨rfl, rfl⟩
  go_wp2_with fail
  go_quiet (fail)
  go_wp2_with fail
  refine (HIT.out _).mono ?_
  rintro e w2 ⟨rfl, rfl⟩
  clear hw hne hnb
  have hwl := HWL.out
  go_wp2_with fail
  go_ret2
  exact HFIN.out _ (HT0.out.drewN _)
set_option maxRecDepth 100000 in
set_option maxHeartbeats 4000000 in
theorem add_low_any {B : Nat} {w : World} {p b : Nat} {P : PW} {S : Ws} {N : Nat} (h : WiA B w p b P S) (hok : WsOk S N) (hN : N ≤ 1000) (hB : B ≤ w.heap.size) (name : ByteArray) (hns : name.size ≤ 140737488355328) (tm inc : Int) (rs : Bool) (ht : -9223372036854775808 ≤ tm ∧ tm ≤ 9223372036854775807) (hin : -9223372036854775808 ≤ inc ∧ inc ≤ 9223372036854775807) (hgood : (decide (0 ≤ tm) && decide (tm ≤ 1125899906842624)) = true) (hlow : inc < 0) :
    Calls Try.prog 16 #[ptrV p, .agg #[.string name, .int .i64 tm, .int .i64 inc, .bool rs]] w (AddPost B w p b P S name tm inc) := by
  have H := Lib.hid h
  have HOK := Lib.hid hok
  have HN := Lib.hid hN
  have HBB := Lib.hid hB
  have HNS := Lib.hid hns
  have hlen := hok.len
  have hlate := hok.late
  have hne : S.len ≠ 0 := by omega
  have hnb : (S.len == 0) = false := by simp; omega
  obtain ⟨n, hnn⟩ : ∃ n, Int.tdiv tm S.len = n := ⟨_, rfl⟩
  have hnr : -9223372036854775808 ≤ n ∧ n ≤ 9223372036854775807 := by rw [← hnn]; exact tdiv_in hlen.1 ht
  have hw : IntKind.i64.wrap (Int.tdiv tm S.len) = n := by rw [hnn]; exact IntWalk.i64_in _ hnr
  have HNR := Lib.hid hnr
  have HNN := Lib.hid hnn
  have HIN := Lib.hid hin
  have hwl : IntKind.i64.wrap (S.late + 1) = S.late + 1 := IntWalk.i64_in _ (by omega)
  have HWL := Lib.hid hwl
  have HIT := Lib.hid (fun W => isTime_any tm W)
  rw [hgood] at HIT
  have hd : decide (inc < 0) = true := by simpa using hlow
  have hadd : (decide (tm < 0) || decide (1125899906842624 < tm) || decide (inc < 0) || lateB S (Int.tdiv tm S.len)) = true := by rw [hd]; simp
  have HFIN : Hid (∀ W, Turns [] w W → AddPost B w p b P S name tm inc (.returned (.tuple #[.bool true, .slice none 0 0])) (W.setCell ⟨p, 6, none⟩ (.int .i64 (S.late + 1)))) := Lib.hid fun W hW => by
    obtain ⟨h1, h2⟩ := (h.pre hW).put (S' := { S with late := S.late + 1 }) 6 (.int .i64 (S.late + 1)) rfl rfl rfl
    unfold AddPost
    rw [add_late (name := name) hadd]
    exact ⟨_, [], P, rfl, .nil, h1, fun i hi => .inl hi, ⟨[p], (hW.mono (by simp)).then h2, fun i hi => .inl (by simp at hi; exact .inl hi)⟩, by simp⟩
  clear hadd hgood hlow
  have HLEN := Lib.hid hlen
  have HLT := Lib.hid hlate
  clear h hok hB hns hnr hnn hwl hlen hlate
  go_enter Try.func16, Try.ntmps16
  go_upto_region 1 with fail
  obtain ⟨W0, hW0⟩ : ∃ W0, w.alloc (.cells #[.string name, .int .i64 tm, .int .i64 inc, .bool rs] 34) = W0 := ⟨_, rfl⟩
  have HBX : Hid (W0.heap[w.heap.size]? = some (.cells #[.string name, .int .i64 tm, .int .i64 inc, .bool rs] 34 (0, 0))) := Lib.hid (by rw [← hW0]; exact heap_alloc_new w _)
  have HT0 : Hid (Turns [] w W0) := Lib.hid (by rw [← hW0]; exact Turns.alloc _ _)
  rw [hW0]
  clear hW0
  have HNO := Lib.hid (isNone_no (H.out.pre HT0.out).head H.out.len)
  obtain ⟨c0, -, -, -, -, -, c6, c7, cf⟩ := (H.out.pre HT0.out).head.cells
  have hbx := HBX.out
  have b1 : W0.cell? ⟨w.heap.size, 1, none⟩ = some (.int .i64 tm) := by simp [World.cell?, hbx]
  have b2 : W0.cell? ⟨w.heap.size, 2, none⟩ = some (.int .i64 inc) := by simp [World.cell?, hbx]
  clear hbx
  go_wp2_with fail
  refine HNO.out.mono ?_
  rintro e w1 ⟨rfl, rfl⟩
  go_wp2_with fail
  go_quiet (fail)
  go_wp2_with fail
  refine (HIT.out _).mono ?_
  rintro e w2 ⟨rfl, rfl⟩
  clear hw hne hnb
  have hwl := HWL.out
  go_wp2_with fail
  go_ret2
  exact HFIN.out _ (HT0.out.drewN _)
set_option maxRecDepth 100000 in
set_option maxHeartbeats 4000000 in
theorem add_late_any {B : Nat} {w : World} {p b : Nat} {P : PW} {S : Ws} {N : Nat} (h : WiA B w p b P S) (hok : WsOk S N) (hN : N ≤ 1000) (hB : B ≤ w.heap.size) (name : ByteArray) (hns : name.size ≤ 140737488355328) (tm inc : Int) (rs : Bool) (ht : -9223372036854775808 ≤ tm ∧ tm ≤ 9223372036854775807) (hin : -9223372036854775808 ≤ inc ∧ inc ≤ 9223372036854775807) (hgood : (decide (0 ≤ tm) && decide (tm ≤ 1125899906842624)) = true) (hlow : ¬ inc < 0) (hlt : lateB S (Int.tdiv tm S.len) = true) :
    Calls Try.prog 16 #[ptrV p, .agg #[.string name, .int .i64 tm, .int .i64 inc, .bool rs]] w (AddPost B w p b P S name tm inc) := by
  have H := Lib.hid h
  have HOK := Lib.hid hok
  have HN := Lib.hid hN
  have HBB := Lib.hid hB
  have HNS := Lib.hid hns
  have hlen := hok.len
  have hlate := hok.late
  have hne : S.len ≠ 0 := by omega
  have hnb : (S.len == 0) = false := by simp; omega
  obtain ⟨n, hnn⟩ : ∃ n, Int.tdiv tm S.len = n := ⟨_, rfl⟩
  have hnr : -9223372036854775808 ≤ n ∧ n ≤ 9223372036854775807 := by rw [← hnn]; exact tdiv_in hlen.1 ht
  have hw : IntKind.i64.wrap (Int.tdiv tm S.len) = n := by rw [hnn]; exact IntWalk.i64_in _ hnr
  have HNR := Lib.hid hnr
  have HNN := Lib.hid hnn
  have HIN := Lib.hid hin
  have hwl : IntKind.i64.wrap (S.late + 1) = S.late + 1 := IntWalk.i64_in _ (by omega)
  have HWL := Lib.hid hwl
  have HIT := Lib.hid (fun W => isTime_any tm W)
  rw [hgood] at HIT
  have hd : decide (inc < 0) = false := by simpa using hlow
  have hadd : (decide (tm < 0) || decide (1125899906842624 < tm) || decide (inc < 0) || lateB S (Int.tdiv tm S.len)) = true := by rw [hlt]; simp
  have HFIN : Hid (∀ W, Turns [] w W → AddPost B w p b P S name tm inc (.returned (.tuple #[.bool true, .slice none 0 0])) (W.setCell ⟨p, 6, none⟩ (.int .i64 (S.late + 1)))) := Lib.hid fun W hW => by
    obtain ⟨h1, h2⟩ := (h.pre hW).put (S' := { S with late := S.late + 1 }) 6 (.int .i64 (S.late + 1)) rfl rfl rfl
    unfold AddPost
    rw [add_late (name := name) hadd]
    exact ⟨_, [], P, rfl, .nil, h1, fun i hi => .inl hi, ⟨[p], (hW.mono (by simp)).then h2, fun i hi => .inl (by simp at hi; exact .inl hi)⟩, by simp⟩
  rw [hnn] at hlt
  have HLTE := Lib.hid hlt
  clear hadd hgood hlow hlt
  have HLEN := Lib.hid hlen
  have HLT := Lib.hid hlate
  clear h hok hB hns hnr hnn hwl hlen hlate
  go_enter Try.func16, Try.ntmps16
  go_upto_region 1 with fail
  obtain ⟨W0, hW0⟩ : ∃ W0, w.alloc (.cells #[.string name, .int .i64 tm, .int .i64 inc, .bool rs] 34) = W0 := ⟨_, rfl⟩
  have HBX : Hid (W0.heap[w.heap.size]? = some (.cells #[.string name, .int .i64 tm, .int .i64 inc, .bool rs] 34 (0, 0))) := Lib.hid (by rw [← hW0]; exact heap_alloc_new w _)
  have HT0 : Hid (Turns [] w W0) := Lib.hid (by rw [← hW0]; exact Turns.alloc _ _)
  rw [hW0]
  clear hW0
  have HNO := Lib.hid (isNone_no (H.out.pre HT0.out).head H.out.len)
  obtain ⟨c0, -, -, -, -, -, c6, c7, cf⟩ := (H.out.pre HT0.out).head.cells
  have hbx := HBX.out
  have b1 : W0.cell? ⟨w.heap.size, 1, none⟩ = some (.int .i64 tm) := by simp [World.cell?, hbx]
  have b2 : W0.cell? ⟨w.heap.size, 2, none⟩ = some (.int .i64 inc) := by simp [World.cell?, hbx]
  clear hbx
  go_wp2_with fail
  refine HNO.out.mono ?_
  rintro e w1 ⟨rfl, rfl⟩
  go_wp2_with fail
  go_quiet (fail)
  go_wp2_with fail
  refine (HIT.out _).mono ?_
  rintro e w2 ⟨rfl, rfl⟩
  clear hw hne hnb
  go_wp2_with fail
  have HIL := Lib.hid (isLate_any (H.out.pre (HT0.out.drewN nq)) HOK.out HN.out n HNR.out)
  rw [HLTE.out] at HIL
  refine HIL.out.mono ?_
  rintro e w3 ⟨rfl, ht3⟩
  have HT3 := Lib.hid ((HT0.out.drewN nq).then ht3)
  obtain ⟨-, -, -, -, -, -, d6, -, df⟩ := (H.out.pre HT3.out).head.cells
  clear ht3 HIL c0 c6 c7 cf b1 b2
  have hwl := HWL.out
  go_wp2_with fail
  go_ret2
  exact HFIN.out _ HT3.out
set_option maxRecDepth 100000 in
set_option maxHeartbeats 4000000 in
theorem add_room_any {B : Nat} {w : World} {p b : Nat} {P : PW} {S : Ws} {N : Nat} (h : WiA B w p b P S) (hok : WsOk S N) (hN : N ≤ 1000) (hB : B ≤ w.heap.size) (name : ByteArray) (hns : name.size ≤ 140737488355328) (tm inc : Int) (rs : Bool) (ht : -9223372036854775808 ≤ tm ∧ tm ≤ 9223372036854775807) (hin : -9223372036854775808 ≤ inc ∧ inc ≤ 9223372036854775807) (hgood : (decide (0 ≤ tm) && decide (tm ≤ 1125899906842624)) = true) (hlow : ¬ inc < 0) (hlt : lateB S (Int.tdiv tm S.len) = false) (hfu : fullW S (Int.tdiv tm S.len) = false) :
    Calls Try.prog 16 #[ptrV p, .agg #[.string name, .int .i64 tm, .int .i64 inc, .bool rs]] w (AddPost B w p b P S name tm inc) := by
  have H := Lib.hid h
  have HOK := Lib.hid hok
  have HN := Lib.hid hN
  have HBB := Lib.hid hB
  have HNS := Lib.hid hns
  have hlen := hok.len
  have hlate := hok.late
  have hne : S.len ≠ 0 := by omega
  have hnb : (S.len == 0) = false := by simp; omega
  obtain ⟨n, hnn⟩ : ∃ n, Int.tdiv tm S.len = n := ⟨_, rfl⟩
  have hnr : -9223372036854775808 ≤ n ∧ n ≤ 9223372036854775807 := by rw [← hnn]; exact tdiv_in hlen.1 ht
  have hw : IntKind.i64.wrap (Int.tdiv tm S.len) = n := by rw [hnn]; exact IntWalk.i64_in _ hnr
  have HNR := Lib.hid hnr
  have HNN := Lib.hid hnn
  have HIN := Lib.hid hin
  have hwl : IntKind.i64.wrap (S.late + 1) = S.late + 1 := IntWalk.i64_in _ (by omega)
  have HWL := Lib.hid hwl
  have HIT := Lib.hid (fun W => isTime_any tm W)
  rw [hgood] at HIT
  have hd : decide (inc < 0) = false := by simpa using hlow
  rw [Bool.and_eq_true, decide_eq_true_eq, decide_eq_true_eq] at hgood
  have hadd := add_ok (name := name) hgood.1 hgood.2 (show 0 ≤ inc by omega) hlt
  rw [hnn] at hadd hlt hfu
  rw [hfu] at hadd
  have hrf : roomW S n = !fullW S n := room_full hok n
  rw [hfu] at hrf
  have HRF := Lib.hid hrf
  have HADD := Lib.hid hadd
  have HLTE := Lib.hid hlt
  have HINC := Lib.hid hlow
  clear hadd hgood hlow hlt hfu hrf
  have HLEN := Lib.hid hlen
  have HLT := Lib.hid hlate
  clear h hok hB hns hnr hnn hwl hlen hlate
  go_enter Try.func16, Try.ntmps16
  go_upto_region 1 with fail
  obtain ⟨W0, hW0⟩ : ∃ W0, w.alloc (.cells #[.string name, .int .i64 tm, .int .i64 inc, .bool rs] 34) = W0 := ⟨_, rfl⟩
  have HBX : Hid (W0.heap[w.heap.size]? = some (.cells #[.string name, .int .i64 tm, .int .i64 inc, .bool rs] 34 (0, 0))) := Lib.hid (by rw [← hW0]; exact heap_alloc_new w _)
  have HT0 : Hid (Turns [] w W0) := Lib.hid (by rw [← hW0]; exact Turns.alloc _ _)
  rw [hW0]
  clear hW0
  have HNO := Lib.hid (isNone_no (H.out.pre HT0.out).head H.out.len)
  obtain ⟨c0, -, -, -, -, -, c6, c7, cf⟩ := (H.out.pre HT0.out).head.cells
  have hbx := HBX.out
  have b1 : W0.cell? ⟨w.heap.size, 1, none⟩ = some (.int .i64 tm) := by simp [World.cell?, hbx]
  have b2 : W0.cell? ⟨w.heap.size, 2, none⟩ = some (.int .i64 inc) := by simp [World.cell?, hbx]
  clear hbx
  go_wp2_with fail
  refine HNO.out.mono ?_
  rintro e w1 ⟨rfl, rfl⟩
  go_wp2_with fail
  go_quiet (fail)
  go_wp2_with fail
  refine (HIT.out _).mono ?_
  rintro e w2 ⟨rfl, rfl⟩
  clear hw hne hnb
  go_wp2_with fail
  have HIL := Lib.hid (isLate_any (H.out.pre (HT0.out.drewN nq)) HOK.out HN.out n HNR.out)
  rw [HLTE.out] at HIL
  refine HIL.out.mono ?_
  rintro e w3 ⟨rfl, ht3⟩
  have HT3 := Lib.hid ((HT0.out.drewN nq).then ht3)
  have HBX3 := Lib.hid ((ht3.block w.heap.size (lt_of_block HBX.out) (by simp)).trans HBX.out)
  clear ht3 HIL c0 c6 c7 cf b1 b2
  go_wp2_with fail
  have HRM := Lib.hid (hasRoom_any (H.out.pre HT3.out) n HNR.out)
  rw [HRF.out] at HRM
  refine HRM.out.mono ?_
  rintro e w4 ⟨rfl, ht4⟩
  have HT4 := Lib.hid (HT3.out.then ht4)
  have HBX4 := Lib.hid ((ht4.block w.heap.size (lt_of_block HBX3.out) (by simp)).trans HBX3.out)
  clear ht4 HRM
  have hb4 := HBX4.out
  have b0 : w4.cell? ⟨w.heap.size, 0, none⟩ = some (.string name) := by simp [World.cell?, hb4]
  have b1 : w4.cell? ⟨w.heap.size, 1, none⟩ = some (.int .i64 tm) := by simp [World.cell?, hb4]
  have b2 : w4.cell? ⟨w.heap.size, 2, none⟩ = some (.int .i64 inc) := by simp [World.cell?, hb4]
  have b3 : w4.cell? ⟨w.heap.size, 3, none⟩ = some (.bool rs) := by simp [World.cell?, hb4]
  clear hb4
  go_wp2_with fail
  have HCR := Lib.hid (credit_any (H.out.pre HT4.out) (SmallL.of HOK.out (by have := HN.out; omega)) (Nat.le_trans HBB.out HT4.out.size) HNR.out name HNS.out tm inc rs (by have := HINC.out; have := HIN.out; omega) (oldC_ok HOK.out n) (by have := HOK.out.cred; have := HN.out; omega) (oldC_len HOK.out n (by have := HN.out; omega)))
  refine HCR.out.mono ?_
  rintro e w5 ⟨rfl, g, y, hg, hw5, ht5⟩
  have hfin : AddPost B w p b P S name tm inc (.returned (.tuple #[.bool false, .slice none 0 0])) w5 := by
    unfold AddPost
    rw [HADD.out]
    refine ⟨_, [], _, rfl, .nil, hw5, fun i hi => ?_, ⟨[p, b, g], (HT4.out.mono (by simp)).then ht5, fun i hi => ?_⟩, by simp⟩
    · rcases hi with e | e | ⟨z, q, hq, e⟩
      · exact .inl (.inl e)
      · exact .inl (.inr (.inl e))
      · simp only at hq
        by_cases hz : z = n
        · rw [if_pos hz] at hq
          cases hq
          rcases hg with ⟨q, hq, e2⟩ | e2
          · exact .inl (.inr (.inr ⟨n, q, hq, e2.trans e⟩))
          · exact .inr (by have := HT4.out.size; simp only at e; omega)
        · rw [if_neg hz] at hq
          exact .inl (.inr (.inr ⟨z, q, hq, e⟩))
    · simp only [List.mem_cons, List.not_mem_nil, or_false] at hi
      rcases hi with e | e | e
      · exact .inl (.inl e)
      · exact .inl (.inr (.inl e))
      · rcases hg with ⟨q, hq, e2⟩ | e2
        · exact .inl (.inr (.inr ⟨n, q, hq, e2.trans e.symm⟩))
        · exact .inr (by have := HT4.out.size; omega)
  have HFIN := Lib.hid hfin
  clear hfin hw5 ht5 hg HCR
  go_wp2_with fail
  go_ret2
  exact HFIN.out
set_option maxRecDepth 100000 in
set_option maxHeartbeats 4000000 in
theorem add_full_any {B : Nat} {w : World} {p b : Nat} {P : PW} {S : Ws} {N : Nat} (h : WiA B w p b P S) (hok : WsOk S N) (hN : N ≤ 1000) (hB : B ≤ w.heap.size) (name : ByteArray) (hns : name.size ≤ 140737488355328) (tm inc : Int) (rs : Bool) (ht : -9223372036854775808 ≤ tm ∧ tm ≤ 9223372036854775807) (hin : -9223372036854775808 ≤ inc ∧ inc ≤ 9223372036854775807) (hgood : (decide (0 ≤ tm) && decide (tm ≤ 1125899906842624)) = true) (hlow : ¬ inc < 0) (hlt : lateB S (Int.tdiv tm S.len) = false) (hfu : fullW S (Int.tdiv tm S.len) = true) :
    Calls Try.prog 16 #[ptrV p, .agg #[.string name, .int .i64 tm, .int .i64 inc, .bool rs]] w (AddPost B w p b P S name tm inc) := by
  have H := Lib.hid h
  have HOK := Lib.hid hok
  have HN := Lib.hid hN
  have HBB := Lib.hid hB
  have HNS := Lib.hid hns
  have hlen := hok.len
  have hlate := hok.late
  have hne : S.len ≠ 0 := by omega
  have hnb : (S.len == 0) = false := by simp; omega
  obtain ⟨n, hnn⟩ : ∃ n, Int.tdiv tm S.len = n := ⟨_, rfl⟩
  have hnr : -9223372036854775808 ≤ n ∧ n ≤ 9223372036854775807 := by rw [← hnn]; exact tdiv_in hlen.1 ht
  have hw : IntKind.i64.wrap (Int.tdiv tm S.len) = n := by rw [hnn]; exact IntWalk.i64_in _ hnr
  have HNR := Lib.hid hnr
  have HNN := Lib.hid hnn
  have HIN := Lib.hid hin
  have hwl : IntKind.i64.wrap (S.late + 1) = S.late + 1 := IntWalk.i64_in _ (by omega)
  have HWL := Lib.hid hwl
  have HIT := Lib.hid (fun W => isTime_any tm W)
  rw [hgood] at HIT
  have hd : decide (inc < 0) = false := by simpa using hlow
  rw [Bool.and_eq_true, decide_eq_true_eq, decide_eq_true_eq] at hgood
  have hadd := add_ok (name := name) hgood.1 hgood.2 (show 0 ≤ inc by omega) hlt
  rw [hnn] at hadd hlt hfu
  rw [hfu] at hadd
  have hrf : roomW S n = !fullW S n := room_full hok n
  rw [hfu] at hrf
  have HRF := Lib.hid hrf
  have HADD := Lib.hid hadd
  have HLTE := Lib.hid hlt
  have HINC := Lib.hid hlow
  have hpn : posW n S.L ≠ 0 := by
    unfold lateB at hlt
    rw [hfu, Bool.or_eq_false_iff] at hlt
    simpa using hlt.2
  obtain ⟨x, L, hL, -, hup⟩ := full_first hok hfu
  obtain ⟨hf1, hf2, hf3⟩ := full_put hok hfu hL hpn
  have HL := Lib.hid hL
  have HUP := Lib.hid hup
  have HF1 := Lib.hid hf1
  have HF2 := Lib.hid hf2
  have HF3 := Lib.hid hf3
  have HOK1 := Lib.hid (hok.first hL).1
  clear hadd hgood hlow hlt hfu hrf hpn hL hup hf1 hf2 hf3
  have HLEN := Lib.hid hlen
  have HLT := Lib.hid hlate
  clear h hok hB hns hnr hnn hwl hlen hlate
  go_enter Try.func16, Try.ntmps16
  go_upto_region 1 with fail
  obtain ⟨W0, hW0⟩ : ∃ W0, w.alloc (.cells #[.string name, .int .i64 tm, .int .i64 inc, .bool rs] 34) = W0 := ⟨_, rfl⟩
  have HBX : Hid (W0.heap[w.heap.size]? = some (.cells #[.string name, .int .i64 tm, .int .i64 inc, .bool rs] 34 (0, 0))) := Lib.hid (by rw [← hW0]; exact heap_alloc_new w _)
  have HT0 : Hid (Turns [] w W0) := Lib.hid (by rw [← hW0]; exact Turns.alloc _ _)
  rw [hW0]
  clear hW0
  have HNO := Lib.hid (isNone_no (H.out.pre HT0.out).head H.out.len)
  obtain ⟨c0, -, -, -, -, -, c6, c7, cf⟩ := (H.out.pre HT0.out).head.cells
  have hbx := HBX.out
  have b1 : W0.cell? ⟨w.heap.size, 1, none⟩ = some (.int .i64 tm) := by simp [World.cell?, hbx]
  have b2 : W0.cell? ⟨w.heap.size, 2, none⟩ = some (.int .i64 inc) := by simp [World.cell?, hbx]
  clear hbx
  go_wp2_with fail
  refine HNO.out.mono ?_
  rintro e w1 ⟨rfl, rfl⟩
  go_wp2_with fail
  go_quiet (fail)
  go_wp2_with fail
  refine (HIT.out _).mono ?_
  rintro e w2 ⟨rfl, rfl⟩
  clear hw hne hnb
  go_wp2_with fail
  have HIL := Lib.hid (isLate_any (H.out.pre (HT0.out.drewN nq)) HOK.out HN.out n HNR.out)
  rw [HLTE.out] at HIL
  refine HIL.out.mono ?_
  rintro e w3 ⟨rfl, ht3⟩
  have HT3 := Lib.hid ((HT0.out.drewN nq).then ht3)
  have HBX3 := Lib.hid ((ht3.block w.heap.size (lt_of_block HBX.out) (by simp)).trans HBX.out)
  clear ht3 HIL c0 c6 c7 cf b1 b2
  go_wp2_with fail
  have HRM := Lib.hid (hasRoom_any (H.out.pre HT3.out) n HNR.out)
  rw [HRF.out] at HRM
  refine HRM.out.mono ?_
  rintro e w4 ⟨rfl, ht4⟩
  have HT4 := Lib.hid (HT3.out.then ht4)
  have HBX4 := Lib.hid ((ht4.block w.heap.size (lt_of_block HBX3.out) (by simp)).trans HBX3.out)
  clear ht4 HRM
  have c7 := (H.out.pre HT4.out).head.cells.2.2.2.2.2.2.2.1
  go_wp2_with fail
  have HRI := Lib.hid (risingI_any (H.out.pre HT4.out) HOK.out.srt (by have := HOK.out.room; have := HOK.out.most; omega))
  refine HRI.out.mono ?_
  rintro e w5 ⟨⟨kv, rfl, hkv⟩, ht5⟩
  have HT5 := Lib.hid (HT4.out.then ht5)
  have HBX5 := Lib.hid ((ht5.block w.heap.size (lt_of_block HBX4.out) (by simp)).trans HBX4.out)
  obtain ⟨KA, kc, rfl, hkeys⟩ := i64K_cells hkv
  obtain ⟨kb, rfl, -, -, hkc⟩ := hkeys 0 x.num (by rw [HL.out]; rfl)
  have hln : (S.L.map Wn.num).length = L.length + 1 := by rw [HL.out]; simp
  rw [hln]
  clear hkv hkeys ht5 hln c7 HRI
  go_wp2_with fail
  have HCT := Lib.hid (closeTo_any (H.out.pre HT5.out) (SmallL.of HOK.out (by have := HN.out; omega)) (Nat.le_trans HBB.out HT5.out.size) x.num)
  refine HCT.out.mono ?_
  rintro e w6 ⟨o, H6, P6, rfl, ho6, hw6, hsub, ht6, hH6⟩
  have e6 : ({ S with L := S.L.drop (upW x.num S.L), floor := max S.floor x.num } : Ws) = firstW S := by rw [HF1.out, HUP.out, HL.out]; rfl
  rw [e6] at hw6
  have e7 : S.L.take (upW x.num S.L) = S.L.take 1 := by rw [HUP.out]
  rw [e7] at ho6
  have hp5 := (H.out.lt p (.inl rfl)).2
  have hb5 := (H.out.lt b (.inr (.inl rfl))).2
  have hb6 := (ht6.block w.heap.size (lt_of_block HBX5.out) (by simp; omega)).trans HBX5.out
  have HBX6 := Lib.hid hb6
  have HW6 := Lib.hid hw6
  have HO6 := Lib.hid ho6
  have HSUB := Lib.hid hsub
  have HT6 : Hid (Turns [p, b] w w6) := Lib.hid ((HT5.out.mono (by simp)).then ht6)
  have HH6 : Hid (∀ i ∈ H6, w.heap.size ≤ i ∧ i < w6.heap.size) := Lib.hid fun i hi => ⟨Nat.le_trans HT5.out.size (hH6 i hi).1, (hH6 i hi).2⟩
  have b0 : w6.cell? ⟨w.heap.size, 0, none⟩ = some (.string name) := by simp [World.cell?, hb6]
  have b1 : w6.cell? ⟨w.heap.size, 1, none⟩ = some (.int .i64 tm) := by simp [World.cell?, hb6]
  have b2 : w6.cell? ⟨w.heap.size, 2, none⟩ = some (.int .i64 inc) := by simp [World.cell?, hb6]
  have b3 : w6.cell? ⟨w.heap.size, 3, none⟩ = some (.bool rs) := by simp [World.cell?, hb6]
  obtain ⟨OA, oc, OR, hoe, -⟩ := ho6
  subst hoe
  clear hw6 hsub ht6 hH6 e6 e7 hb6 HCT hp5 hb5 hkc
  go_wp2_with fail
  have HCR := Lib.hid (credit_any HW6.out (SmallL.of HOK1.out (by have := HN.out; omega)) (Nat.le_trans HBB.out HT6.out.size) HNR.out name HNS.out tm inc rs (by have := HINC.out; have := HIN.out; omega) (oldC_ok HOK1.out n) (by have := HOK1.out.cred; have := HN.out; omega) (oldC_len HOK1.out n (by have := HN.out; omega)))
  refine HCR.out.mono ?_
  rintro e w7 ⟨rfl, g, y, hg, hw7, ht7⟩
  have hfL : (firstW S).L = L := by rw [HF1.out]
  rw [hfL, HF2.out, HF3.out] at hw7
  have hsub := HSUB.out
  have hgi : WiA.In p b P g ∨ w6.heap.size < g := by
    rcases hg with ⟨q, hq, e2⟩ | e2
    · exact .inl (.inr (.inr ⟨n, q, hsub n q hq, e2⟩))
    · exact .inr e2
  have hinP : ∀ i, WiA.In p b (fun z => if z = n then some (g, y) else P6 z) i → WiA.In p b P i ∨ w6.heap.size < i := fun i hi => by
    rcases hi with e | e | ⟨z, q, hq, e⟩
    · exact .inl (.inl e)
    · exact .inl (.inr (.inl e))
    · simp only at hq
      by_cases hz : z = n
      · rw [if_pos hz] at hq
        cases hq
        rw [← e]
        exact hgi
      · rw [if_neg hz] at hq
        exact .inl (.inr (.inr ⟨z, q, hsub z q hq, e⟩))
  have hfin : AddPost B w p b P S name tm inc (.returned (.tuple #[.bool false, .slice OA (S.L.take 1).length oc])) w7 := by
    unfold AddPost
    rw [HADD.out]
    refine ⟨_, H6, _, rfl, HO6.out.turns ht7 fun i hi hm => ?_, hw7, fun i hi => ?_, ⟨[p, b, g], (HT6.out.mono (by simp)).then ht7, fun i hi => ?_⟩, fun i hi => ⟨(HH6.out i hi).1, Nat.lt_of_lt_of_le (HH6.out i hi).2 ht7.size, fun hm => ?_⟩⟩
    · have h1 := HH6.out i hi
      simp only [List.mem_cons, List.not_mem_nil, or_false] at hm
      rcases hm with e | e | e
      · have := (H.out.lt i (.inl e)).2; omega
      · have := (H.out.lt i (.inr (.inl e))).2; omega
      · rcases hgi with e2 | e2
        · have := (H.out.lt g e2).2; omega
        · omega
    · rcases hinP i hi with e | e
      · exact .inl e
      · exact .inr (by have := HT6.out.size; omega)
    · simp only [List.mem_cons, List.not_mem_nil, or_false] at hi
      rcases hi with e | e | e
      · exact .inl (.inl e)
      · exact .inl (.inr (.inl e))
      · rw [e]
        rcases hgi with e2 | e2
        · exact .inl e2
        · exact .inr (by have := HT6.out.size; omega)
    · have h1 := HH6.out i hi
      rcases hinP i hm with e | e
      · have := (H.out.lt i e).2; omega
      · omega
  have HFIN := Lib.hid hfin
  clear hfin hw7 ht7 hg HCR hfL hsub hgi hinP
  go_wp2_with fail
  go_ret2
  have hq := HFIN.out
  rw [List.length_take] at hq
  exact hq
theorem add_wi_any {B : Nat} {w : World} {p b : Nat} {P : PW} {S : Ws} {N : Nat} (h : WiA B w p b P S) (hok : WsOk S N) (hN : N ≤ 1000) (hB : B ≤ w.heap.size) (name : ByteArray) (hns : name.size ≤ 140737488355328) (tm inc : Int) (rs : Bool) (ht : -9223372036854775808 ≤ tm ∧ tm ≤ 9223372036854775807) (hin : -9223372036854775808 ≤ inc ∧ inc ≤ 9223372036854775807) :
    Calls Try.prog 16 #[ptrV p, .agg #[.string name, .int .i64 tm, .int .i64 inc, .bool rs]] w (AddPost B w p b P S name tm inc) := by
  cases hg : (decide (0 ≤ tm) && decide (tm ≤ 1125899906842624)) with
  | false => exact add_bad_any h hok hN hB name hns tm inc rs ht hin hg
  | true =>
    by_cases hl : inc < 0
    · exact add_low_any h hok hN hB name hns tm inc rs ht hin hg hl
    · cases hla : lateB S (Int.tdiv tm S.len) with
      | true => exact add_late_any h hok hN hB name hns tm inc rs ht hin hg hl hla
      | false =>
        cases hf : fullW S (Int.tdiv tm S.len) with
        | false => exact add_room_any h hok hN hB name hns tm inc rs ht hin hg hl hla hf
        | true => exact add_full_any h hok hN hB name hns tm inc rs ht hin hg hl hla hf
end Go.Proofs.Ytjkkpdflijjllaa
