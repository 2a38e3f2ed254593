/- Both windows look the same (layer 18); what is begun. -/
import Derived.Test.YtjkkpdflijjllaaWnDo
namespace Go.Proofs.Ytjkkpdflijjllaa
open Go.RowKit

set_option maxRecDepth 100000 in
set_option maxHeartbeats 4000000 in
theorem sameN_any (C : WiC) {Q : List Nat} {b : Base} {X : World} {p rv N : Nat} {S : Ws} (h : PairN C Q b X p S rv S) (hok : WsOk S N) (hN : N ≤ 1000) :
    Calls Try.prog 13 #[ptrW p, ptrW rv] X fun e Y => e = .returned (.bool true) ∧ Turns [] X Y := by
  obtain ⟨F, G, v, a1, a2, d, t, s, -⟩ := h
  have HCN := Lib.hid (C.counts a1)
  have HOP := Lib.hid (fun Y (ht : Turns [] X Y) => C.opened (C.pre a1 ht) hok hN)
  have HFL := Lib.hid (fun Y (ht : Turns [] X Y) => C.floor (C.pre a1 ht))
  have HMK := Lib.hid (fun Y (ht : Turns [] X Y) => C.mark (C.pre a1 ht))
  have HRL := Lib.hid (fun Y (ht : Turns [] X Y) => (a2.pre ht).list)
  have HC := Lib.hid (fun Y (ht : Turns [] X Y) => show Y.cell? ⟨rv, 3, none⟩ = some v ∧ Y.cell? ⟨rv, 4, none⟩ = some (.int .i64 S.floor) ∧ Y.cell? ⟨rv, 5, none⟩ = some (.int .i64 S.mark) ∧ Y.cell? ⟨rv, 6, none⟩ = some (.int .i64 S.cred) ∧ Y.cell? ⟨rv, 7, none⟩ = some (.int .i64 S.late) from by
    obtain ⟨c0, c1, c2, c3, c4, c5, c6, c7, fz⟩ := (a2.pre ht).cells
    exact ⟨c3, c4, c5, c6, c7⟩)
  obtain ⟨A2, c2, rfl, -⟩ := a2.form
  have e1 : (S.floor == S.floor) = true := by simp
  have e2 : (S.mark == S.mark) = true := by simp
  have e3 : (S.cred == S.cred) = true := by simp
  have e4 : (S.late == S.late) = true := by simp
  generalize S.L.length = nl at HC HRL
  clear a1 a2 d t s hok hN
  go_enter Try.func13, Try.ntmps13
  go_wp2_with fail
  refine HCN.out.mono ?_
  rintro e w1 ⟨rfl, t1⟩
  have HT1 := Lib.hid t1
  have HD : Hid (Turns [] X w1.drew) := Lib.hid t1.drew
  have hd0 := HC.out w1 t1
  clear t1 HCN
  go_upto_region 2 with fail
  refine wp_region_noPanic ?_
  go_region_held (fun w' => w'.cell? ⟨rv, 3, none⟩ = some (.slice A2 nl c2) ∧ w'.cell? ⟨rv, 4, none⟩ = some (.int .i64 S.floor) ∧ w'.cell? ⟨rv, 5, none⟩ = some (.int .i64 S.mark) ∧ w'.cell? ⟨rv, 6, none⟩ = some (.int .i64 S.cred) ∧ w'.cell? ⟨rv, 7, none⟩ = some (.int .i64 S.late)) (first | exact hd0 | exact hd5 | exact hd6 | exact hd7 | exact hd8 | assumption) ((first | (go_at_call 18; refine (HOP.out _ (by first | exact HT1.out | exact HD.out)).mono ?_; rintro e w5 ⟨o5, H5, rfl, hl5, t5, -⟩; have HT5 := Lib.hid (HD.out.then t5); have HSM := Lib.hid (rsameW_one hl5 (HRL.out w5 HT5.out)); have hd5 := HC.out w5 HT5.out; clear t5 hl5) | (go_at_call 29; refine HSM.out.mono ?_; rintro e w6 ⟨rfl, t6⟩; have HT6 := Lib.hid (HT5.out.then t6); have hd6 := HC.out w6 HT6.out; clear t6) | (go_at_call 24; refine (HFL.out _ HT6.out).mono ?_; rintro e w7 ⟨rfl, t7⟩; have HT7 := Lib.hid (HT6.out.then t7); have hd7 := HC.out w7 HT7.out; clear t7) | (go_at_call 25; refine (HMK.out _ HT7.out).mono ?_; rintro e w8 ⟨rfl, t8⟩; have HT8 := Lib.hid (HT7.out.then t8); have hd8 := HC.out w8 HT8.out; clear t8)))
  all_goals
    refine NoPanic.normal ?_
    go_wp2
    go_ret
    exact ⟨rfl, HT8.out⟩
/-- Windows of a program alone, made since w; beside them blocks that stay. -/
def LoneN (C : WiC) (b : Base) (X : World) (p : Nat) (S : Ws) : Prop := ∃ F, C.At b.w.heap.size X p F S ∧ Turns [] b.w X ∧ Stay b X F
section
variable {C : WiC} {b : Base} {X Y Z : World} {p rv N : Nat} {S : Ws}
theorem LoneN.turns (h : LoneN C b X p S) : Turns [] b.w X := by
  obtain ⟨F, _, h, _⟩ := h
  exact h
theorem LoneN.stays (h : LoneN C b X p S) : ∀ k ∈ b.K, X.heap[k]? = b.Z.heap[k]? := by
  obtain ⟨F, _, _, s⟩ := h
  exact fun k hk => s.block hk
theorem LoneN.pre (h : LoneN C b X p S) (ht : Turns [] X Y) : LoneN C b Y p S := by
  obtain ⟨F, a, t, s⟩ := h
  exact ⟨F, C.pre a ht, t.then ht, s.pre ht⟩
theorem LoneN.hold (h : LoneN C b X p S) (ht : Turns [] X Y) (K : List Nat) (hK : ∀ k ∈ K, X.heap.size ≤ k ∧ k < Y.heap.size) : LoneN C ⟨b.w, K ++ b.K, Y⟩ Y p S := by
  obtain ⟨F, a, t, s⟩ := h
  exact ⟨F, C.pre a ht, t.then ht, s.hold ht K hK fun i hi => (C.foot a i hi).2⟩
theorem loneN_new {w : World} (h : Turns [] w X) (len lat most : Int) (h1 : I64 len) (h2 : I64 lat) (h3 : I64 most) (hm : mayW len lat most = 0) :
    Calls Try.prog 9 #[.int .i64 len, .int .i64 lat, .int .i64 most] X fun e Y => ∃ p, e = .returned (.tuple #[ptrW p, .int .i64 0]) ∧ LoneN C (.plain w) Y p (newW len lat most) ∧ Turns [] X Y :=
  (C.new len lat most X h1 h2 h3).mono fun e Y ⟨h4, _, t⟩ => by
    obtain ⟨p, F, e1, a⟩ := h4 hm
    exact ⟨p, e1, ⟨F, C.low a h.size, h.then t, Stay.plain (h.then t).size _⟩, t⟩
theorem loneN_note (h : LoneN C b X p S) (hok : WsOk S N) (t : Int) (ht : I64 t) : Calls Try.prog 15 #[ptrW p, .int .i64 t] X fun e Z => e = .returned (.tuple #[]) ∧ LoneN C b Z p (noteW S t) := by
  obtain ⟨F, a1, tt, s⟩ := h
  refine (C.note a1 tt.size hok t ht).mono ?_
  rintro e Z ⟨rfl, F', a', tz, hf⟩
  exact ⟨rfl, F', a', tt.trans tz fun i hi => .inr (C.foot a1 i hi).1, s.next tz (fun i hi => hi) hf⟩
theorem loneN_add (h : LoneN C b X p S) (hok : WsOk S N) (hN : N ≤ 1000) (name : ByteArray) (tm inc : Int) (rs : Bool) (hn : name.size ≤ 140737488355328) (ht : I64 tm) (hi : I64 inc) :
    Calls Try.prog 16 #[ptrW p, .agg #[.string name, .int .i64 tm, .int .i64 inc, .bool rs]] X fun e Z => ∃ o H, e = .returned (.tuple #[.bool (addW S name tm inc).1, o]) ∧ WnL Z H o (addW S name tm inc).2.1 ∧ (∀ i ∈ H, i ∉ b.K) ∧ LoneN C b Z p (addW S name tm inc).2.2 := by
  obtain ⟨F, a1, tt, s⟩ := h
  refine (C.add a1 tt.size hok hN name tm inc rs hn ht hi).mono ?_
  rintro e Z ⟨o, F', H, rfl, hl, a', tz, hf, hH⟩
  refine ⟨o, H, rfl, hl, fun i hi hk => ?_, F', a', tt.trans tz fun i hi => .inr (C.foot a1 i hi).1, s.next tz (fun i hi => hi) hf⟩
  obtain ⟨k1, k2, _⟩ := s.2 i hk
  rcases (hH i hi).1 with h1 | h1
  · exact k2 h1
  · have := s.1; omega
theorem loneN_clock (h : LoneN C b X p S) (hok : WsOk S N) (hN : N ≤ 1000) (now : Int) (hn : I64 now) :
    Calls Try.prog 17 #[ptrW p, .int .i64 now] X fun e Z => ∃ o H, e = .returned o ∧ WnL Z H o (clockW S now).1 ∧ (∀ i ∈ H, i ∉ b.K) ∧ LoneN C b Z p (clockW S now).2 := by
  obtain ⟨F, a1, tt, s⟩ := h
  refine (C.clock a1 tt.size hok hN now hn).mono ?_
  rintro e Z ⟨o, F', H, rfl, hl, a', tz, hf, hH⟩
  refine ⟨o, H, rfl, hl, fun i hi hk => ?_, F', a', tt.trans tz fun i hi => .inr (C.foot a1 i hi).1, s.next tz (fun i hi => hi) hf⟩
  obtain ⟨k1, k2, _⟩ := s.2 i hk
  rcases (hH i hi).1 with h1 | h1
  · exact k2 h1
  · have := s.1; omega
theorem loneN_open (h : LoneN C b X p S) (hok : WsOk S N) (hN : N ≤ 1000) :
    Calls Try.prog 18 #[ptrW p] X fun e Z => ∃ o H, e = .returned o ∧ WnL Z H o S.L ∧ Turns [] X Z ∧ ∀ i ∈ H, X.heap.size ≤ i := by
  obtain ⟨F, a1, tt, s⟩ := h
  exact C.opened a1 hok hN
theorem loneN_floor (h : LoneN C b X p S) : Calls Try.prog 24 #[ptrW p] X fun e Z => e = .returned (.int .i64 S.floor) ∧ Turns [] X Z := by
  obtain ⟨F, a1, tt, s⟩ := h
  exact C.floor a1
theorem loneN_counts (h : LoneN C b X p S) : Calls Try.prog 19 #[ptrW p] X fun e Z => e = .returned (.tuple #[.int .i64 S.cred, .int .i64 S.late]) ∧ Turns [] X Z := by
  obtain ⟨F, a1, tt, s⟩ := h
  exact C.counts a1
theorem PairN.start {w : World} {v : Value} (h : LoneN C (.plain w) X p S) (ht : Turns [] X Y) (hr : RefW X.heap.size Y rv [] v S) : PairN C [] (.plain w) Y p S rv S := by
  obtain ⟨F, a, t, s⟩ := h
  refine ⟨F, [], v, C.pre a ht, ⟨hr.head, hr.list, Nat.le_trans t.size hr.low, hr.ne, fun i hi => by cases hi⟩, fun i hi hm => ?_, t.then ht, Stay.plain (t.then ht).size _, fun i hi => by cases hi⟩
  have := (C.foot a i hi).2
  have : i = rv := by simpa using hm
  have := hr.low
  omega
end
end Go.Proofs.Ytjkkpdflijjllaa
