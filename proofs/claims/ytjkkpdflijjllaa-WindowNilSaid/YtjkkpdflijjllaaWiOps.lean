/- The program's small ones: isNone, isTime, hasRoom, rising, Note, Floor, Mark, Counts. -/
import Derived.Test.YtjkkpdflijjllaaWiMem
import Derived.BigQuiet
namespace Go.Proofs.Ytjkkpdflijjllaa
open Go.RowKit Go.Maps Go.Sort Go.Shelf

abbrev ptrV (b : Nat) : Value := .pointer (some ⟨b, 0, none⟩)
section
variable {B : Nat} {w : World} {p b : Nat} {P : PW} {S : Ws}
set_option maxHeartbeats 400000 in
theorem isNone_no (h : HeadW w p b S) (hl : 1 ≤ S.len) : Calls Try.prog 31 #[ptrV p] w fun e w' => e = .returned (.bool false) ∧ w = w' := by
  obtain ⟨c0, -⟩ := h.cells
  have hd : (S.len == 0) = false := by simp; omega
  clear h
  go_enter Try.func31, Try.ntmps31
  go_wp2
  go_ret
  exact ⟨rfl, rfl⟩
set_option maxHeartbeats 400000 in
theorem isTime_any (n : Int) (w : World) : Calls Try.prog 32 #[.int .i64 n] w fun e w' => e = .returned (.bool (decide (0 ≤ n) && decide (n ≤ 1125899906842624))) ∧ w = w' := by
  by_cases h0 : 0 ≤ n
  · have d0 : decide (0 ≤ n) = true := by simpa using h0
    have HE : Hid ((decide (0 ≤ n) && decide (n ≤ 1125899906842624)) = decide (n ≤ 1125899906842624)) := Lib.hid (by rw [d0, Bool.true_and])
    go_enter Try.func32, Try.ntmps32
    go_wp2
    go_ret
    exact ⟨by rw [HE.out]; rfl, rfl⟩
  · have d0 : decide (0 ≤ n) = false := by simpa using h0
    have HE : Hid ((decide (0 ≤ n) && decide (n ≤ 1125899906842624)) = false) := Lib.hid (by rw [d0, Bool.false_and])
    go_enter Try.func32, Try.ntmps32
    go_wp2
    go_ret
    exact ⟨rfl, rfl⟩
/-- Is one open, or may it be? -/
def roomW (S : Ws) (n : Int) : Bool := isW n S.L || decide ((S.L.length : Int) < S.most)
set_option maxRecDepth 100000 in
set_option maxHeartbeats 1000000 in
theorem hasRoom_any (h : WiA B w p b P S) (n : Int) (hn : -9223372036854775808 ≤ n ∧ n ≤ 9223372036854775807) : Calls Try.prog 34 #[ptrV p, .int .i64 n] w fun e w' => e = .returned (.bool (roomW S n)) ∧ Turns [] w w' := by
  obtain ⟨c0, c1, c2, c3, c4, c5, c6, c7, -⟩ := h.head.cells
  have hl := h.look (num_ok hn)
  have hln : ∀ q ty, (Builtin.len_ #[tO] ty #[.map (some b)]).run Try.prog (w.drewN q) = .ok (.int .i64 S.L.length) (w.drewN q) := fun q ty => (h.pre ((Turns.refl [] w).drewN q)).lenM ty
  have HT := Lib.hid (Turns.refl [] w)
  have hw := h.tel.isW n
  cases hi : isW n S.L with
  | true =>
    rw [hi] at hw
    rw [hw] at hl
    have HE : Hid (roomW S n = true) := Lib.hid (by unfold roomW; rw [hi]; rfl)
    generalize inW P n = v at hl
    clear h hw hi c0 c1 c3 c4 c5 c6
    go_enter Try.func34, Try.ntmps34
    go_wp2_with fail
    go_quiet (fail)
    go_wp2_with fail
    go_ret
    exact ⟨by rw [HE.out]; rfl, HT.out.drewN _⟩
  | false =>
    rw [hi] at hw
    rw [hw] at hl
    have HE : Hid (roomW S n = decide ((S.L.length : Int) < S.most)) := Lib.hid (by unfold roomW; rw [hi]; rfl)
    generalize inW P n = v at hl
    clear h hw hi c0 c1 c3 c4 c5 c6
    go_enter Try.func34, Try.ntmps34
    go_wp2_with fail
    go_quiet (fail)
    go_wp2_with fail
    go_ret
    exact ⟨by rw [HE.out]; rfl, HT.out.drewN _⟩
set_option maxRecDepth 100000 in
set_option maxHeartbeats 1000000 in
theorem risingI_any (h : WiA B w p b P S) (hs : SrtW S.L) (hl : S.L.length ≤ 90000) : Calls Try.prog 36 #[.map (some b)] w fun e w' => (∃ v, e = .returned v ∧ i64K.Own w.heap.size w' v (S.L.map Wn.num)) ∧ Turns [] w w' := by
  have HK := Lib.hid (keysI_in (some b) w)
  have HS := Lib.hid (sortedI_any h.map.map hl (srt_keys hs) h.tel.keys)
  clear h hs hl
  go_enter Try.func36, Try.ntmps36
  go_wp2_with fail
  refine HK.out.mono ?_
  rintro e w1 ⟨rfl, rfl⟩
  go_wp2_with fail
  refine HS.out.mono ?_
  rintro e w2 ⟨⟨v, rfl, ho⟩, ht⟩
  have HO := Lib.hid ho
  have HT := Lib.hid ht
  clear ho ht HS HK
  go_wp2
  go_ret
  exact ⟨⟨v, rfl, HO.out⟩, HT.out⟩
set_option maxRecDepth 100000 in
set_option maxHeartbeats 1000000 in
theorem risingS_any {g : Nat} {f : SM} {l : List Cr} (h : MapS w g f l.length) (ht : TelC f l) (hl : l.length ≤ 90000) : Calls Try.prog 47 #[.map (some g)] w fun e w' => (∃ v, e = .returned v ∧ txtK.Own w.heap.size w' v (l.map fun x => kyC x.name)) ∧ Turns [] w w' := by
  have HK := Lib.hid (keysS_in (some g) w)
  have HS := Lib.hid (sortedS_any h hl ht.riseK ht.keys)
  clear h ht hl
  go_enter Try.func47, Try.ntmps47
  go_wp2_with fail
  refine HK.out.mono ?_
  rintro e w1 ⟨rfl, rfl⟩
  go_wp2_with fail
  refine HS.out.mono ?_
  rintro e w2 ⟨⟨v, rfl, ho⟩, ht⟩
  have HO := Lib.hid ho
  have HT := Lib.hid ht
  clear ho ht HS HK
  go_wp2
  go_ret
  exact ⟨⟨v, rfl, HO.out⟩, HT.out⟩
set_option maxRecDepth 100000 in
set_option maxHeartbeats 1000000 in
theorem floor_any (h : WiA B w p b P S) : Calls Try.prog 24 #[ptrV p] w fun e w' => e = .returned (.int .i64 S.floor) ∧ Turns [] w w' := by
  obtain ⟨-, -, -, c3, -⟩ := h.head.cells
  have HN := Lib.hid (isNone_no h.head h.len)
  have HT := Lib.hid (Turns.refl [] w)
  clear h
  go_enter Try.func24, Try.ntmps24
  go_wp2_with fail
  refine HN.out.mono ?_
  rintro e w1 ⟨rfl, rfl⟩
  go_wp2
  go_ret
  exact ⟨rfl, HT.out⟩
set_option maxRecDepth 100000 in
set_option maxHeartbeats 1000000 in
theorem mark_any (h : WiA B w p b P S) : Calls Try.prog 25 #[ptrV p] w fun e w' => e = .returned (.int .i64 S.mark) ∧ Turns [] w w' := by
  obtain ⟨-, -, -, -, c4, -⟩ := h.head.cells
  have HN := Lib.hid (isNone_no h.head h.len)
  have HT := Lib.hid (Turns.refl [] w)
  clear h
  go_enter Try.func25, Try.ntmps25
  go_wp2_with fail
  refine HN.out.mono ?_
  rintro e w1 ⟨rfl, rfl⟩
  go_wp2
  go_ret
  exact ⟨rfl, HT.out⟩
set_option maxRecDepth 100000 in
set_option maxHeartbeats 1000000 in
theorem counts_any (h : WiA B w p b P S) : Calls Try.prog 19 #[ptrV p] w fun e w' => e = .returned (.tuple #[.int .i64 S.cred, .int .i64 S.late]) ∧ Turns [] w w' := by
  obtain ⟨-, -, -, -, -, c5, c6, -⟩ := h.head.cells
  have HN := Lib.hid (isNone_no h.head h.len)
  have HT := Lib.hid (Turns.refl [] w)
  clear h
  go_enter Try.func19, Try.ntmps19
  go_wp2_with fail
  refine HN.out.mono ?_
  rintro e w1 ⟨rfl, rfl⟩
  go_wp2_with fail
  go_quiet (fail)
  go_wp2_with fail
  go_ret2
  exact ⟨rfl, HT.out.drewN _⟩
set_option maxRecDepth 100000 in
set_option maxHeartbeats 1000000 in
theorem note_any (h : WiA B w p b P S) (t : Int) : Calls Try.prog 15 #[ptrV p, .int .i64 t] w fun e w' => e = .returned (.tuple #[]) ∧ WiA B w' p b P (if 0 ≤ t ∧ t ≤ 1125899906842624 then { S with mark := max S.mark t } else S) ∧ Turns [p] w w' := by
  obtain ⟨-, -, -, -, c4, -, -, -, cf⟩ := h.head.cells
  have HN := Lib.hid (isNone_no h.head h.len)
  have HI := Lib.hid (isTime_any t w)
  have HT := Lib.hid (Turns.refl [p] w)
  have HS := Lib.hid h
  by_cases ht : 0 ≤ t ∧ t ≤ 1125899906842624
  · have hd : (decide (0 ≤ t) && decide (t ≤ 1125899906842624)) = true := by simpa using ht
    rw [if_pos ht]
    rw [hd] at HI
    have HP : Hid (∀ x, x = max S.mark t → WiA B (w.setCell ⟨p, 4, none⟩ (.int .i64 x)) p b P { S with mark := max S.mark t } ∧ Turns [p] w (w.setCell ⟨p, 4, none⟩ (.int .i64 x))) := Lib.hid (fun x hx => by subst hx; exact HS.out.put (S' := { S with mark := max S.mark t }) 4 _ rfl rfl rfl)
    clear h ht hd
    go_enter Try.func15, Try.ntmps15
    go_wp2_with fail
    refine HN.out.mono ?_
    rintro e w1 ⟨rfl, rfl⟩
    go_wp2_with fail
    refine HI.out.mono ?_
    rintro e w1 ⟨rfl, rfl⟩
    go_wp2
    all_goals
      go_end0
      exact ⟨rfl, HP.out _ (by omega)⟩
  · have hd : (decide (0 ≤ t) && decide (t ≤ 1125899906842624)) = false := by
      rw [Bool.eq_false_iff]
      simpa using ht
    rw [if_neg ht]
    rw [hd] at HI
    clear h ht hd
    go_enter Try.func15, Try.ntmps15
    go_wp2_with fail
    refine HN.out.mono ?_
    rintro e w1 ⟨rfl, rfl⟩
    go_wp2_with fail
    refine HI.out.mono ?_
    rintro e w1 ⟨rfl, rfl⟩
    go_wp2
    exact bodyPost_ret (results_none rfl _ _ _) rfl ⟨rfl, HS.out, HT.out⟩
end
end Go.Proofs.Ytjkkpdflijjllaa
