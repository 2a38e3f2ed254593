/- DeltaPlays, walked. -/
import Derived.Test.YtcjmieofmogeiaaDlDo
import Derived.Test.YtcjmieofmogeiaaDlKnown
import Derived.Test.YtcjmieofmogeiaaDlFew
namespace Go.Proofs.Ytcjmieofmogeiaa
open Go.RowKit

def FinD (w : World) (e : Ending) (w' : World) : Prop := e = .returned (.bool true) ∧ Turns [] w w'
/-- All that comes in is counted once; a reset is a gain. -/
def Tl.Sound (T : Tl) : Prop := T.p = T.a + T.o + T.t + T.f ∧ T.r ≤ T.g
theorem Tl.Sound.zero : Tl.zero.Sound := ⟨rfl, Nat.le_refl _⟩
theorem Tl.Sound.one {T : Tl} (h : T.Sound) (x : Sn) : (T.one x).Sound := by
  obtain ⟨h1, h2⟩ := h
  unfold Tl.one Tl.seen Tl.gain Tl.Sound
  repeat' split
  all_goals (simp only; omega)
theorem Tl.Sound.list : ∀ {T : Tl} (l : List Sn), T.Sound → (tallyL T l).Sound
  | _, [], h => h
  | _, x :: l, h => Tl.Sound.list l (h.one x)
section
variable {C : MeC} {b : Base} {X Y : World} {p rm m : Nat} {T : Tl} {L : List One}
theorem PairM.start {w : World} (h : LoneM C (.plain w) X p m T L) {rs : Nat} {v : Value} (ht : Turns [] X Y) (hr : RefM X.heap.size Y rm T rs v m L) : PairM C (.plain w) Y p m T L rm T L := by
  obtain ⟨F, a, t, s⟩ := h
  refine ⟨F, rs, v, C.pre a ht, ⟨hr.head, ⟨hr.store.head, hr.store.own.low t.size, Nat.le_trans t.size hr.store.low, hr.store.ne⟩, Nat.le_trans t.size hr.low, hr.ne⟩, fun i hi hm => ?_, t.then ht, Stay.plain (t.then ht).size _⟩
  have := (C.foot a i hi).2
  have := (hr.foot i hm).1
  omega
/-- A pair after some scrapes, plainly. -/
def Run1 (C : MeC) (b : Base) (X : World) (p m rm N : Nat) : Prop := ∃ T L, PairM C b X p m T L rm T L ∧ L.length ≤ N ∧ T.Le N ∧ T.Sound ∧ LOk L
theorem Run1.start {w : World} (h : LoneM C (.plain w) X p m .zero []) {rs : Nat} {v : Value} (ht : Turns [] X Y) (hr : RefM X.heap.size Y rm .zero rs v m []) : Run1 C (.plain w) Y p m rm 0 :=
  ⟨.zero, [], PairM.start h ht hr, Nat.le_refl _, Tl.Le.zero, .zero, .nil⟩
theorem Run1.pre {N : Nat} (h : Run1 C b X p m rm N) (ht : Turns [] X Y) : Run1 C b Y p m rm N := by
  obtain ⟨T, L, h, h2⟩ := h
  exact ⟨T, L, h.pre ht, h2⟩
theorem Run1.turns {N : Nat} (h : Run1 C b X p m rm N) : Turns [] b.w X := by
  obtain ⟨T, L, h, h2⟩ := h
  exact h.turns
theorem Run1.do {N : Nat} (h : Run1 C b X p m rm N) (a : Pt) {N' : Nat} (hN' : N' = N + a.l.length) (hN : N' ≤ 80000) (hc : a.l.length ≤ a.c ∧ a.c ≤ maxLen) (hr : sK.Reads b.w b.w.heap.size a.A a.l) (ho : -9223372036854775808 ≤ a.own ∧ a.own ≤ 9223372036854775807) (hok : ∀ x ∈ a.l, x.Ok) :
    Calls Try.prog 12 #[ptr p, ptr rm, .agg #[.int .i64 a.own, .slice a.A a.l.length a.c]] X fun e Y => e = .returned (.bool true) ∧ Run1 C b Y p m rm N' := by
  obtain ⟨T, L, h, h1, h2, h3, h4⟩ := h
  refine (doM_any C h a.own (N := N) (by omega) h2 (by omega) hc.1 hc.2 hr ho hok h4).mono ?_
  rintro e Y ⟨rfl, hy⟩
  have hq := putP_lens m a.own a.l L
  refine ⟨rfl, _, _, hy, by omega, ?_, h3.list _, (putP_ok hok h4).2⟩
  have := h2.list (putP m a.own a.l L).1
  rw [hq.2] at this
  rw [hN']
  exact this
theorem Run1.tally {N : Nat} (h : Run1 C b X p m rm N) : Calls Try.prog 13 #[ptr p] X fun e Y => ∃ T : Tl, e = .returned T.val' ∧ T.Le N ∧ T.Sound ∧ Run1 C b Y p m rm N := by
  obtain ⟨T, L, h, h1, h2, h3, h4⟩ := h
  refine h.tally.mono ?_
  rintro e Y ⟨rfl, t⟩
  exact ⟨T, rfl, h2, h3, T, L, h.pre t, h1, h2, h3, h4⟩
theorem Run1.store {N : Nat} (h : Run1 C b X p m rm N) (hN : N ≤ 80000) : ∃ (n : Nat) (q' : ∃ (rs : Nat) (A9 : Option Addr) (c9 : Nat), ∀ W, Turns [] X W → W.cell? ⟨rm, 0, none⟩ = some (.pointer (some ⟨rs, 0, none⟩)) ∧ W.cell? ⟨rs, 0, none⟩ = some (.slice A9 n c9)), n ≤ N ∧
    Calls Try.prog 14 #[ptr p] X fun e w' => ∃ q, e = .returned (ptr q) ∧ Turns [] X w' ∧ ∀ Y, Turns [] w' Y → Calls Try.prog 15 #[ptr q] Y fun e Z => e = .returned (.int .i64 (n : Nat)) ∧ Turns [] Y Z := by
  obtain ⟨T, L, ⟨F, rs, v, a1, a2, c, d, s⟩, h1, h2, h3, h4⟩ := h
  obtain ⟨A9, c9, rfl, -⟩ := a2.store.form
  exact ⟨L.length, ⟨rs, A9, c9, fun W ht => ⟨(a2.pre ht).cells.1, (a2.store.pre ht).cells.1⟩⟩, h1, C.store a1 (by omega)⟩
end
/-- What is read of scrapes. -/
theorem PReads.put {w : World} {A0 : Option Addr} {l : List Pt} {k : Nat} {a : Pt} (hr : PReads w w.heap.size A0 l) (ha : l[k]? = some a) :
    ∃ g off, A0 = some ⟨g, off, none⟩ ∧ (∀ W, Turns [] w W → W.cell? ⟨g, off + k * 2, none⟩ = some (.int .i64 a.own) ∧ W.cell? ⟨g, off + k * 2 + 1, none⟩ = some (.slice a.A a.l.length a.c)) ∧ sK.Reads w w.heap.size a.A a.l ∧ (a.l.length ≤ a.c ∧ a.c ≤ maxLen) ∧ (-9223372036854775808 ≤ a.own ∧ a.own ≤ 9223372036854775807) ∧ ∀ x ∈ a.l, x.Ok := by
  rcases hr with h0 | ⟨g, off, rfl, hg, hc⟩
  · rw [h0] at ha
    simp at ha
  obtain ⟨⟨c0, c1⟩, hra, hac, hao, hal, hok⟩ := hc k a ha
  exact ⟨g, off, rfl, fun W ht => ⟨(ht.cell hg (by simp) _).trans c0, (ht.cell hg (by simp) _).trans c1⟩, hra, hac, hao, hok⟩
set_option maxRecDepth 100000 in
set_option maxHeartbeats 4000000 in
theorem deltaPlays_early (C : MeC) (most : Int) (A0 : Option Addr) (cap : Nat) (l : List Pt) (w : World) (hl : l.length ≤ 9223372036854775807) (hr : PReads w w.heap.size A0 l) (hf : fewP l 30 = false) :
    Calls Try.prog 3 #[.int .i64 most, .slice A0 l.length cap] w (FinD w) := by
  have HF := Lib.hid (fewD_any A0 cap 30 l w hl (by omega) hr)
  rw [hf] at HF
  have HK := Lib.hid (fun W => knownM_any C W)
  obtain ⟨NN, hNN⟩ : ∃ NN, NN = l.length := ⟨_, rfl⟩
  rw [← hNN] at HF ⊢
  clear hl hr hf hNN
  go_enter Try.func3, Try.ntmps3
  go_wp2_with fail
  refine (Hid.out HF).mono ?_
  rintro e w1 ⟨rfl, hb1⟩
  have HB1 := Lib.hid (Turns.of_below hb1 (Nat.le_refl _))
  clear HF hb1
  go_wp2_with fail
  refine (HK.out _).mono ?_
  rintro e w2 ⟨rfl, ht2⟩
  have HT := Lib.hid (HB1.out.then ht2)
  clear ht2
  go_wp2
  go_ret
  exact ⟨rfl, HT.out⟩
set_option maxRecDepth 100000 in
set_option maxHeartbeats 8000000 in
theorem deltaPlays_main (C : MeC) (most : Int) (A0 : Option Addr) (cap : Nat) (l : List Pt) (w : World) (hl : l.length ≤ 9223372036854775807) (hr : PReads w w.heap.size A0 l) (hf : fewP l 30 = true) (hm : -9223372036854775808 ≤ most ∧ most ≤ 9223372036854775807) :
    Calls Try.prog 3 #[.int .i64 most, .slice A0 l.length cap] w (FinD w) := by
  have HF := Lib.hid (fewD_any A0 cap 30 l w hl (by omega) hr)
  rw [hf] at HF
  have h30 : l.length ≤ 30 ∧ sumP l ≤ 200 := by
    unfold fewP at hf
    simpa using hf
  have HLE := Lib.hid h30
  have HR := Lib.hid hr
  have HK := Lib.hid (fun W => knownM_any C W)
  have HNW := Lib.hid (fun X (ht : Turns [] w X) => loneM_new (C := C) ht most hm.1 hm.2)
  have HRW := Lib.hid (fun X => rnewM_any most X hm.2)
  obtain ⟨NN, hNN⟩ : ∃ NN, NN = l.length := ⟨_, rfl⟩
  rw [← hNN] at HF ⊢
  have HNN := Lib.hid hNN
  clear hl hr hf h30 hNN hm
  go_enter Try.func3, Try.ntmps3
  go_wp2_with fail
  refine (Hid.out HF).mono ?_
  rintro e w1 ⟨rfl, hb1⟩
  have HB1 := Lib.hid (Turns.of_below hb1 (Nat.le_refl _))
  clear HF hb1
  go_wp2_with fail
  refine (HNW.out _ HB1.out).mono ?_
  rintro e w2 ⟨p, rfl, h2⟩
  have H2 := Lib.hid h2
  clear HNW h2
  go_wp2_with fail
  refine (HRW.out _).mono ?_
  rintro e w3 ⟨rm, rs, rfl, hr3, ht3⟩
  have HP3 := Lib.hid (Run1.start H2.out ht3 hr3)
  clear HRW hr3 ht3 H2
  generalize most.toNat = mo at HP3
  go_wp2_with fail
  go_loopw [7] (fun iv wr => ∃ k : Nat, k ≤ NN ∧ iv = .int .i64 k ∧ Hid (Run1 C (.plain w) wr p mo rm (sumP (l.take k)))) (fun iv _ => NN - (intOf iv).toNat)
  case atStart => exact ⟨0, Nat.zero_le _, rfl, HP3⟩
  case round =>
    obtain ⟨k, hk, rfl, HP⟩ := hrel
    have hn60 : (NN : Int) ≤ 60 := by have := HLE.out.1; have := HNN.out; omega
    by_cases hlt : k < NN
    · have hlt' : (k : Int) < (NN : Int) := by omega
      have hk0 : (0 : Int) ≤ (k : Int) := by omega
      obtain ⟨a, ha⟩ : ∃ a, l[k]? = some a := ⟨_, List.getElem?_eq_getElem (by have := HNN.out; omega)⟩
      obtain ⟨g, off, rfl, hc, hra, hac, hao, hok⟩ := HR.out.put ha
      obtain ⟨d0, d1⟩ := hc wr HP.out.turns
      have HDO := Lib.hid (HP.out.do a (sumP_take_succ ha) (by have := sumP_take_le l (k + 1); have := HLE.out.2; omega) hac hra hao hok)
      have HS2 := Lib.hid (show sumP (l.take (k + 1)) ≤ 200 by have := sumP_take_le l (k + 1); have := HLE.out.2; omega)
      clear hc hra hac hao hok ha
      go_wp2_with fail
      refine HDO.out.mono ?_
      rintro e w4 ⟨rfl, h4⟩
      have HTL := Lib.hid h4.tally
      have HLT := Lib.hid hlt
      clear h4 HDO d0 d1
      go_wp2_with fail
      refine HTL.out.mono ?_
      rintro e w5 ⟨T, rfl, hle, hso, h5⟩
      obtain ⟨xp, xa, xo, xt, xf, xg, xr⟩ := T
      obtain ⟨b1, b2, b3, b4, b5, b6, b7⟩ := hle
      obtain ⟨e1, e2⟩ := hso
      simp only at b1 b2 b3 b4 b5 b6 b7 e1 e2
      have hs2 := HS2.out
      have f1 : IntKind.i64.wrap ((xa : Int) + (xo : Int)) = (xa : Int) + (xo : Int) := IntWalk.i64_in _ (by omega)
      have f2 : IntKind.i64.wrap ((xa : Int) + (xo : Int) + (xt : Int)) = (xa : Int) + (xo : Int) + (xt : Int) := IntWalk.i64_in _ (by omega)
      have f3 : IntKind.i64.wrap ((xa : Int) + (xo : Int) + (xt : Int) + (xf : Int)) = (xa : Int) + (xo : Int) + (xt : Int) + (xf : Int) := IntWalk.i64_in _ (by omega)
      have f4 : ((xp : Int) != (xa : Int) + (xo : Int) + (xt : Int) + (xf : Int)) = false := by rw [bne_eq_false_iff_eq]; omega
      have f5 : decide ((xg : Int) < (xr : Int)) = false := by simp; omega
      have f6 : decide (xg < xr) = false := by simp; omega
      have H5 := Lib.hid h5
      clear b1 b2 b3 b4 b5 b6 b7 e1 e2 hs2 h5 HTL
      unfold Tl.val'
      simp only
      have HA : Hid (∀ x, Run1 C (.plain w) (w5.alloc x) p mo rm (sumP (l.take (k + 1)))) := Lib.hid (fun x => H5.out.pre (Turns.alloc _ _))
      go_wp2_with fail
      exact ⟨⟨k + 1, HLT.out, by go_num, Lib.hid (HA.out _)⟩, by have := HLT.out; simp [intOf]; omega⟩
    · have hge : decide ((k : Int) < (NN : Int)) = false := by simp; omega
      have HT := Lib.hid HP.out.turns
      obtain ⟨n, q', hn, hST⟩ := HP.out.store (by have := sumP_take_le l k; have := HLE.out.2; omega)
      obtain ⟨rs, A9, c9, hcs⟩ := q'
      have HST := Lib.hid hST
      have HN9 := Lib.hid hn
      clear hST hn
      go_wp2_with fail
      refine HST.out.mono ?_
      rintro e w5 ⟨q, rfl, t5, hlen⟩
      have HT5 := Lib.hid (HT.out.then t5)
      have HLN := Lib.hid hlen
      have HC := Lib.hid (fun W (ht : Turns [] w5 W) => hcs W (t5.then ht))
      have hd0 := HC.out w5 (Turns.refl _ _)
      have HD : Hid (Turns [] w5 w5.drew) := Lib.hid (Turns.refl [] w5).drew
      have e1 : ((n : Int) == (n : Int)) = true := by simp
      clear t5 hlen hcs HT HST
      go_wp2_with fail
      refine wp_region_noPanic ?_
      go_region_held (fun w' => w'.cell? ⟨rm, 0, none⟩ = some (.pointer (some ⟨rs, 0, none⟩)) ∧ w'.cell? ⟨rs, 0, none⟩ = some (.slice A9 n c9)) (first | exact hd0 | exact hd6 | exact hd7 | assumption) ((first | (go_at_call 15; refine (HLN.out _ (by first | exact Turns.refl _ _ | exact (Turns.refl _ _).drew)).mono ?_; rintro e w6 ⟨rfl, t6⟩; have HT6 := Lib.hid (HD.out.then t6); have hd6 := HC.out w6 HT6.out; clear t6) | (go_at_call 9; refine (HK.out _).mono ?_; rintro e w7 ⟨rfl, t7⟩; have HT7 := Lib.hid (HT6.out.then t7); have hd7 := HC.out w7 HT7.out; clear t7)))
      all_goals
        refine NoPanic.normal ?_
        go_wp2
        go_ret
        exact ⟨rfl, HT5.out.then HT7.out⟩
end Go.Proofs.Ytcjmieofmogeiaa
