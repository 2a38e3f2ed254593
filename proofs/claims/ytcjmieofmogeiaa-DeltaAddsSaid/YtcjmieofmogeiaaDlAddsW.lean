/- DeltaAdds, walked. -/
import Derived.Test.YtcjmieofmogeiaaDlAddsP
import Derived.Test.YtcjmieofmogeiaaDlPlaysW
namespace Go.Proofs.Ytcjmieofmogeiaa
open Go.RowKit

set_option maxRecDepth 100000 in
set_option maxHeartbeats 4000000 in
theorem deltaAdds_early (C : MeC) (A0 : Option Addr) (cap n : Nat) (w : World) (hn : n ≤ 9223372036854775807) (hf : 100 < n) :
    Calls Try.prog 4 #[.slice A0 n cap] w (FinD w) := by
  have HK := Lib.hid (fun W => knownM_any C W)
  have h1 : (100 : Int) < (n : Int) := by omega
  clear hf
  go_enter Try.func4, Try.ntmps4
  go_wp2_with fail
  refine (HK.out _).mono ?_
  rintro e w2 ⟨rfl, ht2⟩
  have HT := Lib.hid ht2
  clear ht2
  go_wp2
  go_ret
  exact ⟨rfl, HT.out⟩
/-- The meter after k values. -/
def RunA (C : MeC) (w X : World) (p k : Nat) (v : Nat → Int) : Prop := ∃ T : Tl, LoneM C (.plain w) X p 1 T (lsA v k) ∧ T.Le k
theorem RunA.turns {C : MeC} {w X : World} {p k : Nat} {v : Nat → Int} (h : RunA C w X p k v) : Turns [] w X := by
  obtain ⟨T, h, _⟩ := h
  exact h.turns
set_option maxRecDepth 100000 in
set_option maxHeartbeats 4000000 in
theorem runA_put {C : MeC} {w X : World} {p k : Nat} {v : Nat → Int} (h : RunA C w X p k v) (hk : k ≤ 100) (hv : ∀ j, j < k + 1 → 0 ≤ v j ∧ v j < 1125899906842624) {x : Int} (hx : x = v k) :
    Calls Try.prog 16 #[ptr p, .int .i64 1, .slice (some ⟨X.heap.size, 0, none⟩) 1 1] (X.alloc (.cells #[.string ⟨#[97]⟩, .int .i64 x, .int .i64 (k : Int), .bool true] 52)) fun e Z => ∃ o og, e = .returned (.tuple #[o, og]) ∧ gK.Own (X.heap.size + 1) Z og (gnA v k) ∧ RunA C w Z p (k + 1) v := by
  obtain ⟨T, h, hT⟩ := h
  have ht2 : Turns [] X (X.alloc (.cells #[.string ⟨#[97]⟩, .int .i64 x, .int .i64 (k : Int), .bool true] 52)) := Turns.alloc _ _
  have hok := lsA_ok (v := v) (k := k) (by omega) fun j hj => hv j (by omega)
  have hr := lone_smA (X := X) x k
  have es : (⟨⟨#[97]⟩, x, (k : Int), true⟩ : Smp) = smA v k := by rw [hx]; rfl
  rw [es] at hr
  have HP := loneM_put h ht2 (l := [smA v k]) (A := some ⟨X.heap.size, 0, none⟩) (c := 1) (N := k) (by have := hok.2; simp; omega) hT (by simp; omega) (by simp) (by decide) hr (fun a e => by cases e; exact Nat.le_refl _) 1 (by omega) (fun z hz => by
    rw [List.mem_singleton] at hz
    subst hz
    exact smA_ok (by omega) (hv k (by omega))) hok.1
  obtain ⟨hs1, hs2⟩ := stepA v k
  rw [hs1] at HP
  simp only at HP
  rw [hs2] at HP
  refine HP.mono ?_
  rintro e Z ⟨o, og, rfl, -, hog, h2⟩
  have := hT.list [snA v k]
  exact ⟨o, og, rfl, by simpa using hog, _, h2, this⟩
set_option maxRecDepth 100000 in
set_option maxHeartbeats 8000000 in
theorem deltaAdds_main (C : MeC) (A0 : Option Addr) (cap : Nat) (cs : List Int) (w : World) (hl : cs.length ≤ 100) (hr : tK.Reads w w.heap.size A0 cs) :
    Calls Try.prog 4 #[.slice A0 cs.length cap] w (FinD w) := by
  have HK := Lib.hid (fun W => knownM_any C W)
  have HR : Hid (∀ k, k < cs.length → ∃ g off, A0 = some ⟨g, off, none⟩ ∧ ∀ W, Turns [] w W → ∀ j, j < cs.length → W.cell? ⟨g, off + j, none⟩ = some (.int .i64 (cs.getD j 0))) := Lib.hid (fun k hk => vals_at hr hk)
  have HNW := Lib.hid (loneM_new (C := C) (Turns.refl [] w) 1 (by omega) (by omega))
  obtain ⟨v, hv⟩ : ∃ v : Nat → Int, v = fun j => cs.getD j 0 := ⟨_, rfl⟩
  obtain ⟨NN, hNN⟩ : ∃ NN, NN = cs.length := ⟨_, rfl⟩
  have HR2 : Hid (∀ k, k < NN → ∃ g off, A0 = some ⟨g, off, none⟩ ∧ ∀ W, Turns [] w W → ∀ j, j < NN → W.cell? ⟨g, off + j, none⟩ = some (.int .i64 (v j))) := Lib.hid (by
    rw [hNN, hv]
    exact HR.out)
  rw [← hNN] at hl ⊢
  clear HR hr hv hNN
  have hl' : (NN : Int) ≤ 100 := by omega
  go_enter Try.func4, Try.ntmps4
  go_wp2_with fail
  refine HNW.out.mono ?_
  rintro e w2 ⟨p, rfl, h2⟩
  have H2 : Hid (RunA C w w2 p 0 v) := Lib.hid ⟨.zero, h2, Tl.Le.zero⟩
  clear h2 HNW
  go_wp2_with fail
  go_loopw [4, 5, 6] (fun s t i wr => ∃ k : Nat, k ≤ NN ∧ i = .int .i64 (k : Int) ∧ s = .int .i64 (sumA v k) ∧ t = .int .i64 (wantA v k) ∧ Hid (∀ j, j < k → 0 ≤ v j ∧ v j < 1125899906842624) ∧ Hid (RunA C w wr p k v)) (fun _ _ i _ => NN - (intOf i).toNat)
  case atStart => exact ⟨0, Nat.zero_le _, rfl, rfl, rfl, Lib.hid (fun j hj => absurd hj (by omega)), H2⟩
  case round =>
    obtain ⟨k, hk, rfl, rfl, rfl, HV, HP⟩ := hrel
    by_cases hlt : k < NN
    · have hlt' : (k : Int) < (NN : Int) := by omega
      have hk0 : (0 : Int) ≤ (k : Int) := by omega
      obtain ⟨g, off, rfl, hc⟩ := HR2.out k hlt
      have hc1 := hc wr HP.out.turns
      obtain ⟨x, hx⟩ : ∃ x, x = v k := ⟨_, rfl⟩
      have d0 := hc1 k hlt
      rw [← hx] at d0
      by_cases h0 : x < 0
      · have f0 : decide (x < 0) = true := by simpa using h0
        have HT := Lib.hid HP.out.turns
        clear hc hc1 hx
        go_wp2_with fail
        refine (HK.out _).mono ?_
        rintro e w3 ⟨rfl, t3⟩
        have HT3 := Lib.hid (HT.out.then t3)
        clear t3
        go_wp2
        go_ret
        exact ⟨rfl, HT3.out⟩
      have f0 : decide (x < 0) = false := by simpa using h0
      by_cases h5 : 1125899906842624 ≤ x
      · have f1 : decide (1125899906842624 ≤ x) = true := by simpa using h5
        have HT := Lib.hid HP.out.turns
        clear hc hc1 hx
        go_wp2_with fail
        refine (HK.out _).mono ?_
        rintro e w3 ⟨rfl, t3⟩
        have HT3 := Lib.hid (HT.out.then t3)
        clear t3
        go_wp2
        go_ret
        exact ⟨rfl, HT3.out⟩
      have f1 : decide (1125899906842624 ≤ x) = false := by simpa using h5
      have hvk : ∀ j, j < k + 1 → 0 ≤ v j ∧ v j < 1125899906842624 := fun j hj => by
        by_cases e : j = k
        · subst e
          omega
        · exact HV.out j (by omega)
      have HP2 := Lib.hid (runA_put HP.out (by omega) hvk hx)
      have HVK := Lib.hid hvk
      have HC := Lib.hid hc
      have HLT := Lib.hid hlt
      have HX := Lib.hid hx
      clear hc hc1 hx hvk
      go_wp2_with fail
      refine HP2.out.mono ?_
      rintro e w4 ⟨o, og, rfl, hog, h4⟩
      have HP4 := Lib.hid h4
      have HG4 := Lib.hid hog
      clear h4 hog HP2 HP d0 f0 f1 h0 h5
      rcases Nat.eq_zero_or_pos k with hz | hz
      · have hg := HG4.out
        rw [hz] at hg
        obtain ⟨A4, c4, rfl⟩ := no_gain hg
        have e9 : decide ((0 : Int) < (k : Int)) = false := by simp; omega
        have e8 : decide (0 < k) = false := by simp; omega
        have hS : sumA v k = 0 ∧ wantA v k = 0 ∧ sumA v (k + 1) = 0 ∧ wantA v (k + 1) = 0 := by rw [hz]; exact ⟨rfl, rfl, rfl, rfl⟩
        obtain ⟨s1, s2, s3, s4⟩ := hS
        rw [s1, s2]
        have HS3 := Lib.hid (And.intro s3 s4)
        clear hg HG4 s1 s2 s3 s4 hz
        go_wp2_with fail
        go_loopw [4, 5, 9] (fun s t jv wx => ∃ j : Nat, jv = .int .i64 (j : Int) ∧ s = .int .i64 0 ∧ t = .int .i64 0 ∧ wx = w4) (fun _ _ jv _ => 0)
        case atStart => exact ⟨0, rfl, rfl, rfl, rfl⟩
        case round =>
          obtain ⟨j, rfl, rfl, rfl, rfl⟩ := hrel
          have hj : decide ((j : Int) < 0) = false := by simp
          go_wp2_with fail
          exact ⟨⟨k + 1, HLT.out, by go_num, by rw [HS3.out.1], by rw [HS3.out.2], HVK, HP4⟩, by have := HLT.out; simp [intOf]; omega⟩
      · obtain ⟨k', hkk⟩ : ∃ k', k = k' + 1 := ⟨k - 1, by omega⟩
        have hg := HG4.out
        rw [hkk] at hg
        obtain ⟨g4, c4, rfl, hs⟩ := one_gain hg
        obtain ⟨q2, q3⟩ := hs w4 (Turns.refl _ _)
        simp only at q2 q3
        have e9 : decide ((0 : Int) < (k : Int)) = true := by simp; omega
        have e8 : decide (0 < k) = true := by simp; omega
        have e7 : IntKind.i64.wrap ((k : Int) - 1) = (k' : Int) := by
          rw [show (k : Int) - 1 = (k' : Int) by omega]
          exact IntWalk.i64_in _ (by omega)
        have hk'0 : (0 : Int) ≤ (k' : Int) := by omega
        have hk'1 : (k' : Int) < (NN : Int) := by omega
        obtain ⟨y, hy⟩ : ∃ y, y = v k' := ⟨_, rfl⟩
        have d1 := HC.out w4 HP4.out.turns k' (by omega)
        have hb1 := adds_in v k' fun j hj => HVK.out j (by omega)
        have hy1 := HVK.out k' (by omega)
        have hx1 := HVK.out k (by omega)
        have hgv := gainL_val hy1 (show 0 ≤ v (k' + 1) ∧ v (k' + 1) < 1125899906842624 by rw [← hkk]; exact hx1)
        have hv0 := HVK.out 0 (by omega)
        obtain ⟨S, hS⟩ : ∃ S, S = sumA v k := ⟨_, rfl⟩
        obtain ⟨W0, hW⟩ : ∃ S, S = wantA v k := ⟨_, rfl⟩
        obtain ⟨z, hz9⟩ : ∃ z, z = gainL (v k') (v (k' + 1)) := ⟨_, rfl⟩
        rw [← hy] at d1
        rw [← hz9] at q2 q3 hgv
        rw [← hS, ← hW]
        rw [← hkk, ← hS, ← hW, ← hy] at hb1
        have hzb : 0 ≤ z.1 ∧ z.1 < 1125899906842624 := by
          rw [hgv]
          rw [← hkk] at hgv ⊢
          split <;> simp only <;> omega
        have hSS : sumA v (k + 1) = S + z.1 := by rw [hS, hz9, hkk]; rfl
        have hWW : wantA v (k + 1) = W0 + (if z.2 then y else 0) := by rw [hW, hz9, hkk, hy]; rfl
        have hk100 : (k' : Int) * 1125899906842624 ≤ 112589990684262400 := by omega
        have b1 : 0 ≤ W0 ∧ W0 ≤ 112589990684262400 := ⟨hb1.2.1, by omega⟩
        have b2 : -112589990684262400 ≤ S ∧ S ≤ 225179981368524800 := by omega
        have b3 : 0 ≤ y ∧ y < 1125899906842624 := by rw [hy]; exact hy1
        obtain ⟨zi, zr⟩ := z
        simp only at q2 q3 hzb hSS hWW
        have a1 : IntKind.i64.wrap (S + zi) = S + zi := IntWalk.i64_in _ (by omega)
        have a2 : IntKind.i64.wrap (W0 + y) = W0 + y := IntWalk.i64_in _ (by omega)
        have HSS := Lib.hid hSS
        have HWW := Lib.hid hWW
        have HKK := Lib.hid hkk
        clear hg HG4 hs hb1 hy1 hx1 hgv hv0 hS hW hz9 hSS hWW hk100 b1 b2 b3 hzb hz hy hkk
        go_wp2_with fail
        go_loopw [4, 5, 9] (fun s t jv wx => ∃ j : Nat, jv = .int .i64 (j : Int) ∧ ((j = 0 ∧ s = .int .i64 S ∧ t = .int .i64 W0) ∨ (j = 1 ∧ s = .int .i64 (S + zi) ∧ t = .int .i64 (W0 + (if zr then y else 0)))) ∧ wx = w4) (fun _ _ jv _ => 2 - (intOf jv).toNat)
        case atStart => exact ⟨0, rfl, .inl ⟨rfl, rfl, rfl⟩, rfl⟩
        case round =>
          obtain ⟨j, rfl, hj, rfl⟩ := hrel
          rcases hj with ⟨hj, rfl, rfl⟩ | ⟨hj, rfl, rfl⟩
          · have hj1 : decide ((j : Int) < 1) = true := by simp; omega
            have hj2 : (j : Int) < 1 := by omega
            have hj0 : (0 : Int) ≤ (j : Int) := by omega
            have r2 : wr.cell? ⟨g4, j * 4 + 2, none⟩ = some (.int .i64 zi) := by rw [hj, Nat.zero_mul, Nat.zero_add]; exact q2
            have r3 : wr.cell? ⟨g4, j * 4 + 3, none⟩ = some (.bool zr) := by rw [hj, Nat.zero_mul, Nat.zero_add]; exact q3
            have HJ := Lib.hid hj
            clear hj q2 q3
            cases zr with
            | true =>
              go_wp2_with fail
              go_roundw
              case rel => exact ⟨j + 1, by go_num, .inr ⟨by rw [HJ.out], by first | rfl | trivial, by first | rfl | trivial | simp⟩, by first | rfl | trivial⟩
              case measure => have := HJ.out; simp [intOf]; omega
            | false =>
              go_wp2_with fail
              go_roundw
              case rel => exact ⟨j + 1, by go_num, .inr ⟨by rw [HJ.out], by first | rfl | trivial, by first | rfl | trivial | simp⟩, by first | rfl | trivial⟩
              case measure => have := HJ.out; simp [intOf]; omega
          · have hj1 : decide ((j : Int) < 1) = false := by simp; omega
            have HJ := Lib.hid hj
            clear hj q2 q3
            generalize W0 + (if zr = true then y else 0) = W1 at *
            go_wp2_with fail
            exact ⟨⟨k + 1, HLT.out, by go_num, by rw [HSS.out], by rw [HWW.out], HVK, HP4⟩, by have := HLT.out; simp [intOf]; omega⟩
    · have hge : decide ((k : Int) < (NN : Int)) = false := by simp; omega
      have hkN : k = NN := by omega
      have HT := Lib.hid HP.out.turns
      rcases Nat.eq_zero_or_pos NN with hz | hz
      · have hs1 : sumA v k = 0 ∧ wantA v k = 0 := by rw [hkN, hz]; exact ⟨rfl, rfl⟩
        rw [hs1.1, hs1.2]
        have e9 : decide ((0 : Int) < (NN : Int)) = false := by simp; omega
        have e8 : decide (0 < NN) = false := by simp; omega
        clear hs1 hkN hz HP
        go_wp2_with fail
        refine (HK.out _).mono ?_
        rintro e w3 ⟨rfl, t3⟩
        have HT3 := Lib.hid (HT.out.then t3)
        clear t3
        go_wp2
        go_ret
        exact ⟨rfl, HT3.out⟩
      · obtain ⟨n', hn'⟩ : ∃ n', NN = n' + 1 := ⟨NN - 1, by omega⟩
        obtain ⟨g, off, rfl, hc⟩ := HR2.out 0 hz
        have hc1 := hc wr HP.out.turns
        have d0 := hc1 0 hz
        have d1 := hc1 n' (by omega)
        have hb1 := adds_in v n' fun j hj => HV.out j (by omega)
        have hy1 := HV.out n' (by omega)
        have hv0 := HV.out 0 (by omega)
        rw [← hn'] at hb1
        rw [hkN]
        have e9 : decide ((0 : Int) < (NN : Int)) = true := by simp; omega
        have e8 : decide (0 < NN) = true := by simp; omega
        have e7 : IntKind.i64.wrap ((NN : Int) - 1) = (n' : Int) := by
          rw [show (NN : Int) - 1 = (n' : Int) by omega]
          exact IntWalk.i64_in _ (by omega)
        have hn0 : (0 : Int) ≤ (n' : Int) := by omega
        have hn1 : (n' : Int) < (NN : Int) := by omega
        have hz1 : (0 : Int) < (NN : Int) := by omega
        obtain ⟨S, hS⟩ : ∃ S, S = sumA v NN := ⟨_, rfl⟩
        obtain ⟨W0, hW⟩ : ∃ S, S = wantA v NN := ⟨_, rfl⟩
        obtain ⟨x, hx⟩ : ∃ x, x = v 0 := ⟨_, rfl⟩
        obtain ⟨y, hy⟩ : ∃ x, x = v n' := ⟨_, rfl⟩
        rw [← hx] at d0
        rw [← hy] at d1
        rw [← hS, ← hW]
        rw [← hS, ← hW, ← hx, ← hy] at hb1
        have b1 : W0 ≤ 112589990684262400 := by omega
        have a1 : IntKind.i64.wrap (W0 + y) = W0 + y := IntWalk.i64_in _ (by omega)
        have a2 : IntKind.i64.wrap (W0 + y - x) = W0 + y - x := IntWalk.i64_in _ (by omega)
        have a3 : (S == W0 + y - x) = true := by rw [beq_iff_eq]; exact hb1.1
        have HDN := Lib.hid (fun n => (Turns.refl [] wr).drewN n)
        have d0' := d0
        rw [Nat.add_zero] at d0'
        clear hc hc1 hb1 hy1 hv0 hS hW hx hy b1 hkN hn' HP HV
        go_wp2_with fail
        go_quiet (fail)
        go_wp2_with fail
        refine (HK.out _).mono ?_
        rintro e w3 ⟨rfl, t3⟩
        have HT3 := Lib.hid (HT.out.then ((HDN.out _).then t3))
        clear t3
        go_wp2
        go_ret
        exact ⟨rfl, HT3.out⟩
end Go.Proofs.Ytcjmieofmogeiaa
