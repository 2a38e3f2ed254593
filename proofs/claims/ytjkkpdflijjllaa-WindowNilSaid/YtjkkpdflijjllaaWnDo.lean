/- One act upon both windows (layer 18). -/
import Derived.Test.YtjkkpdflijjllaaWnC
import Derived.Deep.RegionHeld3
namespace Go.Proofs.Ytjkkpdflijjllaa
open Go.RowKit

section
variable {C : WiC} {Q : List Nat} {b : Base} {X Y Z : World} {p rv N : Nat} {S S1 S2 : Ws}
theorem PairN.hold (h : PairN C Q b X p S1 rv S2) (ht : Turns [] X Y) (K : List Nat) (hK : ∀ k ∈ K, X.heap.size ≤ k ∧ k < Y.heap.size) : PairN C Q ⟨b.w, K ++ b.K, Y⟩ Y p S1 rv S2 := by
  obtain ⟨F, G, v, a1, a2, d, t, s, hq⟩ := h
  exact ⟨F, G, v, C.pre a1 ht, a2.pre ht, d, t.then ht, s.hold ht K hK (fun i hi => by
    rcases List.mem_append.1 hi with h | h
    · exact (C.foot a1 i h).2
    · rw [List.mem_singleton] at h
      rw [h]
      exact a2.lt), fun i hi => ⟨Nat.lt_of_lt_of_le (hq i hi).1 (Nat.le_trans s.1 ht.size), (hq i hi).2⟩⟩
theorem PairN.stay (h : PairN C Q b X p S1 rv S2) : b.Z.heap.size ≤ X.heap.size ∧ ∀ k ∈ b.K, k < b.Z.heap.size ∧ X.heap[k]? = b.Z.heap[k]? := by
  obtain ⟨F, G, v, _, _, _, _, s, _⟩ := h
  exact ⟨s.1, fun k hk => ⟨(s.2 k hk).1, (s.2 k hk).2.2⟩⟩
/-- What was held for a while is held no more. -/
theorem PairN.back {K : List Nat} (hQ : ∀ i ∈ Q, i < b.Z.heap.size) (h0 : PairN C Q b X p S1 rv S2) (ht : Turns [] X Y) {p' rv' : Nat} {S1' S2' : Ws} (h : PairN C Q ⟨b.w, K ++ b.K, Y⟩ Z p' S1' rv' S2') : PairN C Q b Z p' S1' rv' S2' := by
  obtain ⟨s0, s1⟩ := h0.stay
  obtain ⟨F, G, v, a1, a2, d, t, s, hq⟩ := h
  have := ht.size
  refine ⟨F, G, v, a1, a2, d, t, ⟨Nat.le_trans (Nat.le_trans s0 ht.size) s.1, fun k hk => ?_⟩, fun i hi => ⟨hQ i hi, (hq i hi).2⟩⟩
  obtain ⟨e1, e2⟩ := s1 k hk
  obtain ⟨u1, u2, u3⟩ := s.2 k (List.mem_append.2 (.inr hk))
  exact ⟨e1, u2, u3.trans ((ht.block k (by omega) (by simp)).trans e2)⟩
end
def Ac.val (a : Ac) : Value := .agg #[.int .i64 a.kind, .int .i64 a.n, .string a.name, .int .i64 a.tm, .int .i64 a.inc, .bool a.rs]
theorem rsameW_one {W : World} {H1 H2 : List Nat} {o1 o2 : Value} {l : List Wn} (h1 : WnL W H1 o1 l) (h2 : WnL W H2 o2 l) : Calls Try.prog 29 #[o1, o2] W fun e w' => e = .returned (.bool true) ∧ Turns [] W w' := by
  obtain ⟨A1, c1, R1, rfl, _⟩ := id h1
  obtain ⟨A2, c2, R2, rfl, _⟩ := id h2
  have := rsameW_any W h1 h2
  rwa [decide_eq_true rfl] at this
set_option maxRecDepth 100000 in
set_option maxHeartbeats 2000000 in
theorem doN_any (C : WiC) {Q : List Nat} {b : Base} {X : World} {p rv N : Nat} {S : Ws} (h : PairN C Q b X p S rv S) (hok : WsOk S N) (hN : N ≤ 1000) (a : Ac) (ha : a.Ok) :
    Calls Try.prog 12 #[ptrW p, ptrW rv, a.val] X fun e Y => e = .returned (.bool true) ∧ PairN C Q b Y p (actW S a) rv (actW S a) := by
  have hQQ : ∀ i ∈ Q, i < b.Z.heap.size := by
    obtain ⟨F, G, v, _, _, _, _, _, hq⟩ := h
    exact fun i hi => (hq i hi).1
  obtain ⟨kind, n, name, tm, inc, rs⟩ := a
  obtain ⟨hn0, hn1, hn2, hn3⟩ := ha
  simp only at hn0 hn1 hn2 hn3
  unfold Ac.val
  simp only
  have HT1 : Hid (Turns [] X (X.alloc (.cells #[.int .i64 kind, .int .i64 n, .string name, .int .i64 tm, .int .i64 inc, .bool rs] 36))) := Lib.hid (Turns.alloc _ _)
  have H1 := Lib.hid (h.hold HT1.out [X.heap.size] (by simp))
  have HX1 : Hid (∀ Y : World, Y.heap[X.heap.size]? = (X.alloc (.cells #[.int .i64 kind, .int .i64 n, .string name, .int .i64 tm, .int .i64 inc, .bool rs] 36)).heap[X.heap.size]? → Y.cell? ⟨X.heap.size, 0, none⟩ = some (.int .i64 kind) ∧ Y.cell? ⟨X.heap.size, 1, none⟩ = some (.int .i64 n) ∧ Y.cell? ⟨X.heap.size, 2, none⟩ = some (.string name) ∧ Y.cell? ⟨X.heap.size, 3, none⟩ = some (.int .i64 tm) ∧ Y.cell? ⟨X.heap.size, 4, none⟩ = some (.int .i64 inc) ∧ Y.cell? ⟨X.heap.size, 5, none⟩ = some (.bool rs)) := Lib.hid (fun Y hy => by
    rw [heap_alloc_new] at hy
    refine ⟨?_, ?_, ?_, ?_, ?_, ?_⟩ <;> simp [World.cell?, hy])
  obtain ⟨x0, x1, x2, x3, x4, x5⟩ := HX1.out _ rfl
  have HBK : Hid (∀ {Z : World} {S1' S2' : Ws}, PairN C Q ⟨b.w, [X.heap.size] ++ b.K, X.alloc (.cells #[.int .i64 kind, .int .i64 n, .string name, .int .i64 tm, .int .i64 inc, .bool rs] 36)⟩ Z p S1' rv S2' → PairN C Q b Z p S1' rv S2' ∧ Z.heap[X.heap.size]? = (X.alloc (.cells #[.int .i64 kind, .int .i64 n, .string name, .int .i64 tm, .int .i64 inc, .bool rs] 36)).heap[X.heap.size]?) := Lib.hid (fun hz => ⟨h.back hQQ HT1.out hz, hz.stays _ (by simp)⟩)
  have HOK := Lib.hid hok
  have HA := Lib.hid (And.intro hn0 (And.intro hn1 (And.intro hn2 hn3)))
  have HNN := Lib.hid hN
  obtain ⟨X1, hX1⟩ : ∃ X1, X1 = X.alloc (.cells #[.int .i64 kind, .int .i64 n, .string name, .int .i64 tm, .int .i64 inc, .bool rs] 36) := ⟨_, rfl⟩
  rw [← hX1] at x0 x1 x2 x3 x4 x5 H1 HT1
  have HX1 : Hid (∀ Y : World, Y.heap[X.heap.size]? = X1.heap[X.heap.size]? → Y.cell? ⟨X.heap.size, 0, none⟩ = some (.int .i64 kind) ∧ Y.cell? ⟨X.heap.size, 1, none⟩ = some (.int .i64 n) ∧ Y.cell? ⟨X.heap.size, 2, none⟩ = some (.string name) ∧ Y.cell? ⟨X.heap.size, 3, none⟩ = some (.int .i64 tm) ∧ Y.cell? ⟨X.heap.size, 4, none⟩ = some (.int .i64 inc) ∧ Y.cell? ⟨X.heap.size, 5, none⟩ = some (.bool rs)) := Lib.hid (by rw [hX1]; exact HX1.out)
  have HBB : Hid (∀ {Z : World} {S1' S2' : Ws}, PairN C Q ⟨b.w, [X.heap.size] ++ b.K, X1⟩ Z p S1' rv S2' → PairN C Q b Z p S1' rv S2' ∧ Z.heap[X.heap.size]? = X1.heap[X.heap.size]?) := Lib.hid (by rw [hX1]; exact HBK.out)
  have HXE := Lib.hid hX1.symm
  clear hX1
  by_cases k1 : kind = 1
  · subst k1
    have HE := Lib.hid (show actW S ⟨1, n, name, tm, inc, rs⟩ = noteW S n from rfl)
    have HP := Lib.hid (pairN_note H1.out hok n hn1)
    clear h hQQ hok hn0 hn1 hn2 hn3 hN
    go_enter Try.func12, Try.ntmps12
    go_upto_region 1 with fail
    rw [HXE.out]
    go_wp2_with fail
    refine HP.out.mono ?_
    rintro e W2 ⟨rfl, h2⟩
    obtain ⟨-, y1, -⟩ := HX1.out _ (HBB.out h2).2
    have HP2 := Lib.hid (pairN_rnote h2 n)
    clear h2 HP x0 x1 x2 x3 x4 x5
    go_wp2_with fail
    refine HP2.out.mono ?_
    rintro e W3 ⟨rfl, h3⟩
    have HP3 := Lib.hid (HBB.out h3).1
    clear h3 HP2
    go_wp2_with fail
    go_ret
    exact ⟨rfl, by rw [HE.out]; exact HP3.out⟩
  by_cases k2 : kind = 2
  · subst k2
    have HE := Lib.hid (show actW S ⟨2, n, name, tm, inc, rs⟩ = (addW S name tm inc).2.2 from rfl)
    have HP := Lib.hid (pairN_add H1.out hok hN name tm inc rs hn0 hn2 hn3)
    have HOR := Lib.hid (fun (Z : World) (S1 : Ws) (hz : PairN C Q ⟨b.w, [X.heap.size] ++ b.K, X1⟩ Z p S1 rv S) => pairN_radd hz hok hN name tm inc rs hn2 hn3)
    clear h hQQ hok hn0 hn1 hn2 hn3 hN k1
    generalize addW S name tm inc = q at HE HP HOR
    obtain ⟨q1, q2, q3⟩ := q
    simp only at HE HP HOR
    go_enter Try.func12, Try.ntmps12
    go_upto_region 1 with fail
    rw [HXE.out]
    go_wp2_with fail
    refine HP.out.mono ?_
    rintro e W2 ⟨o, G2, rfl, hl2, hg2, h2⟩
    obtain ⟨-, -, y2, y3, y4, y5⟩ := HX1.out _ (HBB.out h2).2
    have HL2 := Lib.hid (And.intro hl2 hg2)
    have HP2 := Lib.hid (HOR.out _ _ h2)
    clear h2 HP hl2 hg2 x0 x1 x2 x3 x4 x5
    go_wp2_with fail
    refine HP2.out.mono ?_
    rintro e W3 ⟨o3, G3, rfl, hl3, ht3, h3⟩
    have HP3 := Lib.hid (HBB.out h3).1
    have HSM := Lib.hid (rsameW_one (HL2.out.1.turns ht3 HL2.out.2) hl3)
    have e1 : (q1 == q1) = true := by simp
    clear h3 HP2 hl3 ht3 y2 y3 y4 y5
    go_wp2_with fail
    refine HSM.out.mono ?_
    rintro e W4 ⟨rfl, t4⟩
    have HP4 := Lib.hid (HP3.out.pre t4)
    clear t4
    go_wp2_with fail
    go_ret
    exact ⟨rfl, by rw [HE.out]; exact HP4.out⟩
  by_cases k3 : kind = 3
  · subst k3
    have HE := Lib.hid (show actW S ⟨3, n, name, tm, inc, rs⟩ = (clockW S n).2 from rfl)
    have HP := Lib.hid (fun Y (ht : Turns [] X1 Y) => pairN_clock (H1.out.pre ht) hok hN n hn1)
    have HOR := Lib.hid (fun (Z : World) (S1 : Ws) (hz : PairN C Q ⟨b.w, [X.heap.size] ++ b.K, X1⟩ Z p S1 rv S) => pairN_rclock hz hok n)
    clear h hQQ hok hn0 hn1 hn2 hn3 hN k1 k2
    generalize clockW S n = q at HE HP HOR
    obtain ⟨q2, q3⟩ := q
    simp only at HE HP HOR
    go_enter Try.func12, Try.ntmps12
    go_upto_region 1 with fail
    rw [HXE.out]
    have hd0 := x1
    have HL7 : Hid (∀ (W : World), Turns [] W W) := Lib.hid (fun W => Turns.refl _ _)
    clear x1 x2 x3 x4 x5
    go_upto_region 10 with fail
    clear x0
    refine wp_region_noPanic ?_
    go_region_held (fun w' => w'.cell? ⟨X.heap.size, 1, none⟩ = some (.int .i64 n)) (first | exact hd0 | exact hd5 | exact hd6 | exact hd7 | assumption) ((first | (go_at_call 17; refine (HP.out _ (by first | exact Turns.refl _ _ | exact (Turns.refl _ _).drew)).mono ?_; rintro e w5 ⟨o5, G5, rfl, hl5, hg5, h5⟩; have HP5 := Lib.hid h5; have HL5 := Lib.hid (And.intro hl5 hg5); have hd5 := (HX1.out _ (HBB.out h5).2).2.1; clear h5 hl5 hg5) | (go_at_call 30; refine (HOR.out _ _ HP5.out).mono ?_; rintro e w6 ⟨o6, G6, rfl, hl6, ht6, h6⟩; have HP6 := Lib.hid (HBB.out h6).1; have hd6 := (HX1.out _ (HBB.out h6).2).2.1; have HSM := Lib.hid (rsameW_one (HL5.out.1.turns ht6 HL5.out.2) hl6); have HBX6 := Lib.hid (fun Y (ht : Turns [] w6 Y) => (HX1.out Y ((ht.block _ (lt_of_cellW hd6) (by simp)).trans (HBB.out h6).2)).2.1); clear h6 hl6 ht6) | (go_at_call 29; refine HSM.out.mono ?_; rintro e w7 ⟨rfl, t7⟩; have HP7 := Lib.hid (HP6.out.pre t7); have hd7 := HBX6.out _ t7; clear t7)))
    all_goals
      refine NoPanic.normal ?_
      go_wp2
      go_ret
      exact ⟨rfl, by rw [HE.out]; exact HP7.out⟩
  have HE := Lib.hid (show actW S ⟨kind, n, name, tm, inc, rs⟩ = S by unfold actW; rw [if_neg k1, if_neg k2, if_neg k3])
  have d1 : (kind == 1) = false := by simpa using k1
  have d2 : (kind == 2) = false := by simpa using k2
  have d3 : (kind == 3) = false := by simpa using k3
  have HP3 := Lib.hid (HBB.out H1.out).1
  clear h hQQ hok hn0 hn1 hn2 hn3 hN k1 k2 k3
  go_enter Try.func12, Try.ntmps12
  go_upto_region 1 with fail
  rw [HXE.out]
  go_wp2_with fail
  go_ret
  exact ⟨rfl, by rw [HE.out]; exact HP3.out⟩
end Go.Proofs.Ytjkkpdflijjllaa
