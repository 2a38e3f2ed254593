/- BodyChunks: the walk. -/
import Derived.Test.YtnkpdnbnheffeaaDoorChunkMem
import Derived.Deep.RegionWith
import Derived.Deep.CutBlock
import Derived.Deep.RegionHeld3
namespace Go.Proofs.YtnkpdnbnheffeaaDoor
open Go.RowKit

set_option maxRecDepth 100000 in
set_option maxHeartbeats 1000000 in
theorem chunks_early (A A2 A3 : Option Addr) (n c n2 c2 n3 c3 : Nat) (w : World) (hm : GX w) (h1 : n ≤ 9223372036854775807) (h2 : n2 ≤ 9223372036854775807) (h3 : n3 ≤ 9223372036854775807) (h : (n : Int) > 5000 ∨ (n2 : Int) > 200 ∨ (n3 : Int) > 100) :
    Calls Tryd.prog 5 #[.slice A n c, .slice A2 n2 c2, .slice A3 n3 c3] w (FinK w) := by
  have HK := Lib.hid (known7_yes w hm)
  clear hm
  by_cases a1 : (n : Int) > 5000
  · clear h
    go_enter Tryd.func5, Tryd.ntmps5
    go_wp2_with fail
    refine (Hid.out HK).mono ?_
    rintro e w3 ⟨rfl, hb3⟩
    go_wp2
    go_ret
    exact ⟨rfl, hb3⟩
  · have b1 : decide ((5000 : Int) < (n : Int)) = false := by simp; omega
    by_cases a2 : (n2 : Int) > 200
    · clear h a1
      go_enter Tryd.func5, Tryd.ntmps5
      go_wp2_with fail
      refine (Hid.out HK).mono ?_
      rintro e w3 ⟨rfl, hb3⟩
      go_wp2
      go_ret
      exact ⟨rfl, hb3⟩
    · have b2 : decide ((200 : Int) < (n2 : Int)) = false := by simp; omega
      have a3 : (n3 : Int) > 100 := by omega
      clear h a1 a2
      go_enter Tryd.func5, Tryd.ntmps5
      go_wp2_with fail
      refine (Hid.out HK).mono ?_
      rintro e w3 ⟨rfl, hb3⟩
      go_wp2
      go_ret
      exact ⟨rfl, hb3⟩
/-- The chunks so far. -/
structure Enc (w : World) (l : List UInt8) (t : Nat) (vv : Value) (wr : World) (ks : List (List UInt8)) : Prop where
  own : Owned w.heap.size wr vv (encL ks)
  flat : ks.flatten = l.take t
  each : ∀ k ∈ ks, 0 < k.length ∧ k.length < 65536
  len : (encL ks).length ≤ 9 * t
set_option maxRecDepth 100000 in
set_option maxHeartbeats 8000000 in
theorem chunks_main (A A2 A3 : Option Addr) (l : List UInt8) (zs : List Int) (l3 : List UInt8) (c c2 c3 : Nat) (w : World) (hm : GX w) (h1 : l.length ≤ 5000) (h2 : zs.length ≤ 200) (h3 : l3.length ≤ 100)
    (hr : BReads w w.heap.size A l) (hc : l.length ≤ c) (hn : A = none → c = 0) (hr2 : IReads w w.heap.size A2 zs) (hr3 : BReads w w.heap.size A3 l3) (hn3 : A3 = none → c3 = 0) :
    Calls Tryd.prog 5 #[.slice A l.length c, .slice A2 zs.length c2, .slice A3 l3.length c3] w (FinK w) := by
  have HGX : Hid (∀ W, Below w.heap.size w W → GX W) := Lib.hid (fun W hb => hm.grown hb)
  have HRA := Lib.hid (fun (W : World) (hb : Below w.heap.size w W) => (hr.below hb).more hb.size)
  have HR3 := Lib.hid (fun (W : World) (hb : Below w.heap.size w W) => (hr3.below hb).more hb.size)
  have HI := Lib.hid hr2
  have HN := Lib.hid hn
  have HN3 := Lib.hid hn3
  have HR := Lib.hid hr
  obtain ⟨n, hnn⟩ : ∃ n, n = l.length := ⟨_, rfl⟩
  obtain ⟨n2, hnn2⟩ : ∃ n2, n2 = zs.length := ⟨_, rfl⟩
  obtain ⟨n3, hnn3⟩ : ∃ n3, n3 = l3.length := ⟨_, rfl⟩
  have HL := Lib.hid hnn
  have HL2 := Lib.hid hnn2
  have HL3 := Lib.hid hnn3
  rw [← hnn] at h1 hc
  rw [← hnn2] at h2
  rw [← hnn3] at h3
  rw [← hnn, ← hnn2, ← hnn3]
  have b1 : decide ((5000 : Int) < (n : Int)) = false := by simp; omega
  have b2 : decide ((200 : Int) < (n2 : Int)) = false := by simp; omega
  have b3 : decide ((100 : Int) < (n3 : Int)) = false := by simp; omega
  clear hm hr hn hr2 hr3 hn3 hnn hnn2 hnn3
  go_enter Tryd.func5, Tryd.ntmps5
  go_wp2
  clear b1 b2 b3
  go_loopw [7, 8, 9] (fun v tv iv wr => ∃ (t i : Nat) (vv : Value), vv = v ∧ tv = .int .i64 (t : Int) ∧ iv = .int .i64 (i : Int) ∧ t ≤ n ∧ i ≤ t ∧ Hid (∃ ks, Enc w l t vv wr ks) ∧ Hid (Below w.heap.size w wr)) (fun _ tv _ _ => n - (intOf tv).toNat)
  case atStart => exact ⟨0, 0, _, rfl, rfl, rfl, Nat.zero_le _, Nat.zero_le _, Lib.hid ⟨[], World.ownsRow_nil _ _ _ _, by simp, by simp, by simp [encL]⟩, Lib.hid (Below.refl _ _)⟩
  case round =>
    obtain ⟨t, i, vv, rfl, rfl, rfl, ht, hit, HE, HB⟩ := hrel
    by_cases hlt : t < n
    · have hlt' : (t : Int) < (n : Int) := by omega
      have HRT := Lib.hid (HRA.out _ HB.out)
      obtain ⟨g, off, hA, hgl, -⟩ := HRT.out.addr (by rw [← HL.out]; omega)
      subst hA
      have htc : ((c : Nat) == t) = false := by simp; omega
      have k0 : IntKind.i64.wrap ((n : Int) - (t : Int)) = (n : Int) - (t : Int) := by rw [IntKind.wrap_i64]; omega
      obtain ⟨ks, hks⟩ := HE.out
      have HKS := Lib.hid hks
      clear hks HE hgl
      by_cases hi : i < n2
      · have hi' : (i : Int) < (n2 : Int) := by omega
        obtain ⟨g2, off2, hA2, hgl2, hcell⟩ := HI.out.at (by rw [← HL2.out]; omega)
        subst hA2
        obtain ⟨z, hz⟩ : ∃ z, zs[i]? = some z := ⟨_, List.getElem?_eq_getElem (by rw [← HL2.out]; exact hi)⟩
        have hzc : wr.cell? ⟨g2, off2 + i, none⟩ = some (.int .i64 z) := (HB.out.cell (p := ⟨g2, off2 + i, none⟩) hgl2).trans (hcell i z hz)
        obtain ⟨m, hm⟩ : ∃ m : Nat, (m : Int) = min (max z 1) ((n : Int) - (t : Int)) := ⟨(min (max z 1) ((n : Int) - (t : Int))).toNat, by omega⟩
        have hmm := hm.symm
        have hm1 : 1 ≤ m := by omega
        have hm2 : t + m ≤ n := by omega
        clear hcell hz hgl2 hm
        go_upto_region 11 with fail
        have HHX := Lib.hid (fun W => hex_any m W (by omega) (by omega))
        have hhl := hexS_len m 3 (by omega)
        have hel := HKS.out.len
        have HLM := Lib.hid (show ((l.drop t).take m).length = m by rw [List.length_take, List.length_drop, ← HL.out]; omega)
        have HLE1 := Lib.hid (show (encL ks).length + (⟨(hexS m).toArray⟩ : ByteArray).size ≤ 1000000 by rw [Lib.size_eq]; show (encL ks).length + (hexS m).length ≤ _; omega)
        have HLE2 := Lib.hid (show (encL ks ++ hexS m).length + (⟨#[13, 10]⟩ : ByteArray).size ≤ 1000000 by rw [List.length_append]; show _ + 2 ≤ _; omega)
        have HLE3 := Lib.hid (show (encL ks ++ hexS m ++ [13, 10]).length + ((l.drop t).take m).length ≤ 100000 by rw [HLM.out, List.length_append, List.length_append]; show _ + 2 + m ≤ _; omega)
        have HLE4 := Lib.hid (show (encL ks ++ hexS m ++ [13, 10] ++ (l.drop t).take m).length + (⟨#[13, 10]⟩ : ByteArray).size ≤ 1000000 by rw [List.length_append, HLM.out, List.length_append, List.length_append]; show _ + 2 + m + 2 ≤ _; omega)
        have HNE : Hid (Enc w l t vv wr ks → ∀ v4 w4, Owned w.heap.size w4 v4 (encL ks ++ hexS m ++ [13, 10] ++ (l.drop t).take m ++ [13, 10]) → Enc w l (t + m) v4 w4 (ks ++ [(l.drop t).take m])) := Lib.hid (fun he v4 w4 ho => ⟨by rw [← enc_snoc ks ((l.drop t).take m) m HLM.out.symm]; exact ho, flat_snoc he.flat, fun k hk => by
            rcases List.mem_append.1 hk with h | h
            · exact he.each k h
            · rw [List.mem_singleton] at h
              subst h
              rw [HLM.out]
              omega, by
            have h1 := he.len
            rw [encL_snoc, List.length_append, enc1_len, HLM.out]
            omega⟩)
        have k2 : IntKind.i64.wrap ((i : Int) + 1) = ((i + 1 : Nat) : Int) := by rw [IntKind.wrap_i64]; omega
        have l1 : (t : Int) + (m : Int) ≤ (c : Int) := by omega
        have l2 : (0 : Int) ≤ (t : Int) + (m : Int) := by omega
        have l3' : ((t : Int) + (m : Int)).toNat = t + m := by omega
        have l5 : t + m - t = m := by omega
        have l6 : t ≤ t + m := by omega
        have l7 : ¬ c = t := by omega
        have k3 : IntKind.i64.wrap ((t : Int) + (m : Int)) = (t : Int) + (m : Int) := by rw [IntKind.wrap_i64]; omega
        have l4 : t + m ≤ c := by omega
        clear hhl hel
        go_region_law (first | (go_simp; go_at_call 11; refine (HHX.out _).mono ?_; rintro e w0 ⟨rfl, rfl⟩) | (refine step_append_text (by rfl) (.tmp 50) (.tmp 52) (by rfl) w.heap.size vv (encL ks) (by rfl) HKS.out.own ⟨(hexS m).toArray⟩ (by rfl) HLE1.out HB.out.size ?_; intro v1 w1 hown1 hb1; have HO1 := Lib.hid (show Owned w.heap.size w1 v1 (encL ks ++ hexS m) from hown1); have HB1 := Lib.hid (show Below w.heap.size w w1 from by first | exact HB.out.trans hb1 | exact HB.out.drew.trans hb1); clear hown1 hb1) | (refine step_append_text (by rfl) (.tmp 53) (.const (.string ⟨#[13, 10]⟩)) (by rfl) w.heap.size v1 (encL ks ++ hexS m) (by rfl) HO1.out ⟨#[13, 10]⟩ (by rfl) HLE2.out HB1.out.size ?_; intro v2 w2 hown2 hb2; have HO2 := Lib.hid (show Owned w.heap.size w2 v2 (encL ks ++ hexS m ++ [13, 10]) from hown2); have HB2 := Lib.hid (HB1.out.trans hb2); clear hown2 hb2) | (refine EK.step_append_all bOk (by rfl) (.tmp 54) (.tmp 60) (by rfl) w.heap.size v2 (encL ks ++ hexS m ++ [13, 10]) (by rfl) (own_b.2 HO2.out) _ (some ⟨g, off + t, none⟩) ((l.drop t).take m) m (c - t) HLM.out (by rfl) (reads_b ((HRA.out w2 HB2.out).fromAt.take m)) HLE3.out HB2.out.size ?_; intro v3 w3 hown3 ht3 hf3; have HO3 := Lib.hid (own_b.1 hown3); have HB3 := Lib.hid (HB2.out.trans (ht3.below (B := w.heap.size) (fun i hi => HO2.out.grows i (by unfold ownB at hi; rwa [Option.mem_toList] at hi)) HB2.out.size)); clear hown3 ht3 hf3) | (refine step_append_text (by rfl) (.tmp 61) (.const (.string ⟨#[13, 10]⟩)) (by rfl) w.heap.size v3 (encL ks ++ hexS m ++ [13, 10] ++ (l.drop t).take m) (by rfl) HO3.out ⟨#[13, 10]⟩ (by rfl) HLE4.out HB3.out.size ?_; intro v4 w4 hown4 hb4; have HO4 := Lib.hid (show Owned w.heap.size w4 v4 (encL ks ++ hexS m ++ [13, 10] ++ (l.drop t).take m ++ [13, 10]) from hown4); have HB4 := Lib.hid (HB3.out.trans hb4); clear hown4 hb4))
        all_goals
          go_wp2
          clear HLE1 HLE2 HLE3 HLE4 HHX HLM k0 k2 k3 l1 l2 l3' l5 l6 l7
          go_round
          case rel =>
            have e1 : (t : Int) + (m : Int) = ((t + m : Nat) : Int) := by omega
            have e2 : (i : Int) + 1 = ((i + 1 : Nat) : Int) := by omega
            have e3 : t + m ≤ n := hm2
            have e4 : i + 1 ≤ t + m := Nat.add_le_add hit hm1
            rw [e1, e2]
            exact ⟨t + m, i + 1, v4, rfl, rfl, rfl, e3, e4, Lib.hid ⟨_, HNE.out HKS.out v4 w4 HO4.out⟩, HB4⟩
          case measure =>
            have e1 : (t : Int) + (m : Int) = ((t + m : Nat) : Int) := by omega
            rw [e1]
            show n - (t + m) < n - t
            try clear hmm
            omega
      · have hi' : decide ((i : Int) < (n2 : Int)) = false := by simp; omega
        obtain ⟨m, hm⟩ : ∃ m : Nat, (m : Int) = (n : Int) - (t : Int) := ⟨n - t, by omega⟩
        have hm1 : 1 ≤ m := by omega
        have hm2 : t + m ≤ n := by omega
        have hnm : (n : Int) - (t : Int) = (m : Int) := hm.symm
        have k0m : IntKind.i64.wrap (m : Int) = (m : Int) := by rw [IntKind.wrap_i64]; omega
        clear hm
        go_upto_region 11 with fail
        clear hnm k0m
        have HHX := Lib.hid (fun W => hex_any m W (by omega) (by omega))
        have hhl := hexS_len m 3 (by omega)
        have hel := HKS.out.len
        have HLM := Lib.hid (show ((l.drop t).take m).length = m by rw [List.length_take, List.length_drop, ← HL.out]; omega)
        have HLE1 := Lib.hid (show (encL ks).length + (⟨(hexS m).toArray⟩ : ByteArray).size ≤ 1000000 by rw [Lib.size_eq]; show (encL ks).length + (hexS m).length ≤ _; omega)
        have HLE2 := Lib.hid (show (encL ks ++ hexS m).length + (⟨#[13, 10]⟩ : ByteArray).size ≤ 1000000 by rw [List.length_append]; show _ + 2 ≤ _; omega)
        have HLE3 := Lib.hid (show (encL ks ++ hexS m ++ [13, 10]).length + ((l.drop t).take m).length ≤ 100000 by rw [HLM.out, List.length_append, List.length_append]; show _ + 2 + m ≤ _; omega)
        have HLE4 := Lib.hid (show (encL ks ++ hexS m ++ [13, 10] ++ (l.drop t).take m).length + (⟨#[13, 10]⟩ : ByteArray).size ≤ 1000000 by rw [List.length_append, HLM.out, List.length_append, List.length_append]; show _ + 2 + m + 2 ≤ _; omega)
        have HNE : Hid (Enc w l t vv wr ks → ∀ v4 w4, Owned w.heap.size w4 v4 (encL ks ++ hexS m ++ [13, 10] ++ (l.drop t).take m ++ [13, 10]) → Enc w l (t + m) v4 w4 (ks ++ [(l.drop t).take m])) := Lib.hid (fun he v4 w4 ho => ⟨by rw [← enc_snoc ks ((l.drop t).take m) m HLM.out.symm]; exact ho, flat_snoc he.flat, fun k hk => by
            rcases List.mem_append.1 hk with h | h
            · exact he.each k h
            · rw [List.mem_singleton] at h
              subst h
              rw [HLM.out]
              omega, by
            have h1 := he.len
            rw [encL_snoc, List.length_append, enc1_len, HLM.out]
            omega⟩)
        have k2 : IntKind.i64.wrap ((i : Int) + 1) = ((i + 1 : Nat) : Int) := by rw [IntKind.wrap_i64]; omega
        have l1 : (t : Int) + (m : Int) ≤ (c : Int) := by omega
        have l2 : (0 : Int) ≤ (t : Int) + (m : Int) := by omega
        have l3' : ((t : Int) + (m : Int)).toNat = t + m := by omega
        have l5 : t + m - t = m := by omega
        have l6 : t ≤ t + m := by omega
        have l7 : ¬ c = t := by omega
        have k3 : IntKind.i64.wrap ((t : Int) + (m : Int)) = (t : Int) + (m : Int) := by rw [IntKind.wrap_i64]; omega
        have l4 : t + m ≤ c := by omega
        clear hhl hel
        go_region_law (first | (go_simp; go_at_call 11; refine (HHX.out _).mono ?_; rintro e w0 ⟨rfl, rfl⟩) | (refine step_append_text (by rfl) (.tmp 50) (.tmp 52) (by rfl) w.heap.size vv (encL ks) (by rfl) HKS.out.own ⟨(hexS m).toArray⟩ (by rfl) HLE1.out HB.out.size ?_; intro v1 w1 hown1 hb1; have HO1 := Lib.hid (show Owned w.heap.size w1 v1 (encL ks ++ hexS m) from hown1); have HB1 := Lib.hid (show Below w.heap.size w w1 from by first | exact HB.out.trans hb1 | exact HB.out.drew.trans hb1); clear hown1 hb1) | (refine step_append_text (by rfl) (.tmp 53) (.const (.string ⟨#[13, 10]⟩)) (by rfl) w.heap.size v1 (encL ks ++ hexS m) (by rfl) HO1.out ⟨#[13, 10]⟩ (by rfl) HLE2.out HB1.out.size ?_; intro v2 w2 hown2 hb2; have HO2 := Lib.hid (show Owned w.heap.size w2 v2 (encL ks ++ hexS m ++ [13, 10]) from hown2); have HB2 := Lib.hid (HB1.out.trans hb2); clear hown2 hb2) | (refine EK.step_append_all bOk (by rfl) (.tmp 54) (.tmp 60) (by rfl) w.heap.size v2 (encL ks ++ hexS m ++ [13, 10]) (by rfl) (own_b.2 HO2.out) _ (some ⟨g, off + t, none⟩) ((l.drop t).take m) m (c - t) HLM.out (by rfl) (reads_b ((HRA.out w2 HB2.out).fromAt.take m)) HLE3.out HB2.out.size ?_; intro v3 w3 hown3 ht3 hf3; have HO3 := Lib.hid (own_b.1 hown3); have HB3 := Lib.hid (HB2.out.trans (ht3.below (B := w.heap.size) (fun i hi => HO2.out.grows i (by unfold ownB at hi; rwa [Option.mem_toList] at hi)) HB2.out.size)); clear hown3 ht3 hf3) | (refine step_append_text (by rfl) (.tmp 61) (.const (.string ⟨#[13, 10]⟩)) (by rfl) w.heap.size v3 (encL ks ++ hexS m ++ [13, 10] ++ (l.drop t).take m) (by rfl) HO3.out ⟨#[13, 10]⟩ (by rfl) HLE4.out HB3.out.size ?_; intro v4 w4 hown4 hb4; have HO4 := Lib.hid (show Owned w.heap.size w4 v4 (encL ks ++ hexS m ++ [13, 10] ++ (l.drop t).take m ++ [13, 10]) from hown4); have HB4 := Lib.hid (HB3.out.trans hb4); clear hown4 hb4))
        all_goals
          go_wp2
          clear HLE1 HLE2 HLE3 HLE4 HHX HLM k0 k2 k3 l1 l2 l3' l5 l6 l7
          go_round
          case rel =>
            have e1 : (t : Int) + (m : Int) = ((t + m : Nat) : Int) := by omega
            have e2 : (i : Int) + 1 = ((i + 1 : Nat) : Int) := by omega
            have e3 : t + m ≤ n := hm2
            have e4 : i + 1 ≤ t + m := Nat.add_le_add hit hm1
            rw [e1, e2]
            exact ⟨t + m, i + 1, v4, rfl, rfl, rfl, e3, e4, Lib.hid ⟨_, HNE.out HKS.out v4 w4 HO4.out⟩, HB4⟩
          case measure =>
            have e1 : (t : Int) + (m : Int) = ((t + m : Nat) : Int) := by omega
            rw [e1]
            show n - (t + m) < n - t
            try clear hmm
            omega
    · obtain rfl : t = n := by omega
      have hge : decide ((t : Int) < (t : Int)) = false := by simp
      obtain ⟨ks, hks⟩ := HE.out
      have HFL := Lib.hid (show ks.flatten = l by rw [hks.flat, List.take_of_length_le (by rw [← HL.out]; exact Nat.le_refl _)])
      have HEA := Lib.hid hks.each
      have HEL := Lib.hid (show (encL ks).length ≤ 45000 by have := hks.len; omega)
      have HOE := Lib.hid hks.own
      have HLE := Lib.hid (show (encL ks).length + 5 ≤ 1000000 by have := hks.len; omega)
      clear hks HE HI hlt ht hit
      go_wp2_with (at_builtin; refine wpList_append_text rfl (.tmp 66) (.const (.string ⟨#[48, 13, 10, 13, 10]⟩)) rfl w.heap.size vv (encL ks) rfl HOE.out ⟨#[48, 13, 10, 13, 10]⟩ rfl HLE.out HB.out.size ?_; intro v1 w1 hown1 hb1; have HO1 := Lib.hid (show Owned w.heap.size w1 v1 (encL ks ++ [48, 13, 10, 13, 10]) from hown1); have HB1 := Lib.hid (HB.out.trans hb1); clear hown1 hb1)
      refine (chunked_any w1).mono ?_
      rintro e w2 ⟨rfl, hb2⟩
      have HB2 := Lib.hid (HB1.out.trans (hb2.mono HB1.out.size))
      have HO2 := Lib.hid (HO1.out.below hb2)
      clear hb2 HO1
      have HN1 := Lib.hid (new_dk (B := w.heap.size) w2 HB2.out.size 200 (-1) (t : Int) true false t (by omega) (by omega))
      go_wp2_with fail
      refine (Hid.out HN1).mono ?_
      rintro e w3 ⟨pd, Rd, rfl, hd3, hb3, hr3⟩
      have HB3 := Lib.hid (HB2.out.trans (hb3.mono HB2.out.size))
      have HO3 := Lib.hid (HO2.out.below hb3)
      have HD3 := Lib.hid hd3
      have HRd := Lib.hid (fun g (hg : g ∈ Rd) => show w.heap.size ≤ g ∧ g < w3.heap.size from ⟨Nat.le_trans HB2.out.size (hr3 g hg), hd3.lt g hg⟩)
      clear hd3 hb3 hr3 HN1 HO2
      have HN2 := Lib.hid (new_dk (B := w.heap.size) w3 HB3.out.size 0 (t : Int) (t : Int) false false t (by omega) (by omega))
      go_wp2_with fail
      refine (Hid.out HN2).mono ?_
      rintro e w4 ⟨po, Ro, rfl, ho4, hb4, hr4⟩
      have HB4 := Lib.hid (HB3.out.trans (hb4.mono HB3.out.size))
      have HO4 := Lib.hid (HO3.out.below hb4)
      have HD4 := Lib.hid (HD3.out.below hb4)
      have HP4 := Lib.hid ho4
      have HRo := Lib.hid (fun g (hg : g ∈ Ro) => show w3.heap.size ≤ g ∧ g < w4.heap.size from ⟨hr4 g hg, ho4.lt g hg⟩)
      have HS4 := Lib.hid (show w.heap.size ≤ w3.heap.size ∧ w3.heap.size ≤ w4.heap.size from ⟨HB3.out.size, hb4.size⟩)
      clear ho4 hb4 hr4 HN2 HO3 HD3
      obtain ⟨Ao, co, hvo, hro, hco, hno⟩ := HO4.out.sl
      subst hvo
      have HXL := Lib.hid (show (encL ks ++ [48, 13, 10, 13, 10]).length ≤ 45005 by have := HEL.out; simp; omega)
      obtain ⟨X, hX⟩ : ∃ X, X = encL ks ++ [48, 13, 10, 13, 10] := ⟨_, rfl⟩
      rw [← hX] at HO4 HXL hro hco ⊢
      obtain ⟨M, hM⟩ : ∃ M, M = X.length := ⟨_, rfl⟩
      rw [← hM] at HXL hco ⊢
      have HM := Lib.hid hM
      have HRO := Lib.hid hro
      have HNO := Lib.hid hno
      have HXE := Lib.hid hX
      clear hM hro hno hX HOE HLE
      have HXA := Lib.hid (show ([] : List UInt8).length + X.length ≤ 100000 by rw [← HM.out]; simpa using (show M ≤ 100000 by have := HXL.out; omega))
      have HXB := Lib.hid (show X.length + l3.length ≤ 100000 by rw [← HM.out, ← HL3.out]; have := HXL.out; omega)
      have HR34 := Lib.hid (fun W (hb : Below w4.heap.size w4 W) => HR3.out W (HB4.out.trans (hb.mono HB4.out.size)))
      go_wp2_with (first | (at_builtin; refine wpList_append_bG (by rfl) (.const (.slice none 0 0)) (.tmp 86) rfl w4.heap.size (.slice none 0 0) [] rfl (World.ownsRow_nil _ _ _ _) w4.heap.size Ao X M co HM.out.symm rfl HRO.out HXA.out (Nat.le_refl _) ?_; intro v5 w5 hown5 hb5; have HO5 := Lib.hid (show Owned w4.heap.size w5 v5 X from hown5); have HB5 := Lib.hid hb5; clear hown5 hb5) | (at_builtin; refine wpList_append_bG (by rfl) (.tmp 87) (.tmp 88) rfl w4.heap.size v5 X rfl HO5.out w5.heap.size A3 l3 n3 c3 HL3.out.symm rfl (HR34.out _ HB5.out) HXB.out HB5.out.size ?_; intro v6 w6 hown6 hb6; have HO6 := Lib.hid hown6; have HB6 := Lib.hid (HB5.out.trans hb6); clear hown6 hb6))
      have HBW := Lib.hid (show 1 < w.heap.size from (HGX.out w (Below.refl _ _)).lt)
      have hpu : (Dc.made (-1) true t).push (X ++ l3) = (M, ⟨0, .none, false, t - ks.flatten.length, [], 2, l, 0⟩) := by
        rw [HXE.out, chunked_push ks t l3 HEA.out (by rw [HFL.out, ← HL.out]; exact Nat.le_refl _), HFL.out, HM.out, HXE.out]
        simp
      have HPU := Lib.hid (push_own (B := w.heap.size) (HD4.out.below HB6.out) HO6.out (fun g hg => by have := HRd.out g hg; have := HS4.out; omega) (bnd_made (by omega) (by rw [List.length_append]; exact HXB.out)) (HGX.out _ (HB4.out.trans (HB6.out.mono HB4.out.size))) HBW.out)
      rw [hpu] at HPU
      generalize t - ks.flatten.length = rm at HPU
      clear hpu HD4 HO6 HO5 HB5 HXB HXA HRO HNO HM HXE HEA HFL HEL
      refine (Hid.out HPU).mono ?_
      rintro e w7 ⟨rfl, Rd', hd7, ht7, hf7⟩
      have hrd := HRd.out
      have hro := HRo.out
      have hs4 := HS4.out
      have hs6 := HB6.out.size
      have hs7 := ht7.size
      have HP7 := Lib.hid ((HP4.out.below HB6.out).turns ht7 (fun g hg hm => by have := hrd g hm; have := hro g hg; omega))
      have HD7 := Lib.hid hd7
      have HB7 := Lib.hid ((HB4.out.trans (HB6.out.mono HB4.out.size)).trans (ht7.below (B := w.heap.size) (fun g hg => (hrd g hg).1) (Nat.le_trans HB4.out.size hs6)))
      have HR7 := Lib.hid (fun g (hg : g ∈ Rd') => show g < w3.heap.size ∨ w6.heap.size ≤ g from (hf7 g hg).imp (fun h => (hrd g h).2) id)
      have HS7 := Lib.hid (show w.heap.size ≤ w3.heap.size ∧ w3.heap.size ≤ w4.heap.size ∧ w4.heap.size ≤ w6.heap.size ∧ w6.heap.size ≤ w7.heap.size from ⟨hs4.1, hs4.2, hs6, hs7⟩)
      clear hd7 ht7 hf7 hrd hro hs4 hs6 hs7 HPU HP4 HB6 HS4 HRd
      have HYA := Lib.hid (show ([] : List UInt8).length + l.length ≤ 100000 by rw [← HL.out]; simpa using (show t ≤ 100000 by omega))
      have HYB := Lib.hid (show l.length + l3.length ≤ 100000 by rw [← HL.out, ← HL3.out]; omega)
      have HR37 := Lib.hid (fun W (hb : Below w7.heap.size w7 W) => HR3.out W (HB7.out.trans (hb.mono HB7.out.size)))
      have HRA7 := Lib.hid (HRA.out w7 HB7.out)
      go_wp2_with (first | (at_builtin; refine wpList_append_bG (by rfl) (.const (.slice none 0 0)) (.tmp 97) rfl w7.heap.size (.slice none 0 0) [] rfl (World.ownsRow_nil _ _ _ _) w7.heap.size A l t c HL.out.symm rfl HRA7.out HYA.out (Nat.le_refl _) ?_; intro v8 w8 hown8 hb8; have HO8 := Lib.hid (show Owned w7.heap.size w8 v8 l from hown8); have HB8 := Lib.hid hb8; clear hown8 hb8) | (at_builtin; refine wpList_append_bG (by rfl) (.tmp 98) (.tmp 99) rfl w7.heap.size v8 l rfl HO8.out w8.heap.size A3 l3 n3 c3 HL3.out.symm rfl (HR37.out _ HB8.out) HYB.out HB8.out.size ?_; intro v9 w9 hown9 hb9; have HO9 := Lib.hid hown9; have HB9 := Lib.hid (HB8.out.trans hb9); clear hown9 hb9))
      have hpu : (Dc.made (t : Int) false t).push (l ++ l3) = (t, ⟨0, .none, false, 0, [], 0, l, 0⟩) := by
        have h := length_push l l3
        rw [← HL.out] at h
        exact h
      have HPU := Lib.hid (push_own (B := w.heap.size) (HP7.out.below HB9.out) HO9.out (fun g hg => by have := HRo.out g hg; have := HS7.out; omega) (bnd_made (by omega) (by rw [List.length_append]; exact HYB.out)) (HGX.out _ (HB7.out.trans (HB9.out.mono HB7.out.size))) HBW.out)
      rw [hpu] at HPU
      clear hpu HP7 HO9 HO8 HB8 HYB HYA HRA7 HR37
      refine (Hid.out HPU).mono ?_
      rintro e w10 ⟨rfl, Ro', hp10, ht10, hf10⟩
      have hro := HRo.out
      have hs7 := HS7.out
      have hs9 := HB9.out.size
      have HD10 := Lib.hid ((HD7.out.below HB9.out).turns ht10 (fun g hg hm => by have := hro g hm; have := HR7.out g hg; omega))
      have HP10 := Lib.hid hp10
      have HB10 := Lib.hid ((HB7.out.trans (HB9.out.mono HB7.out.size)).trans (ht10.below (B := w.heap.size) (fun g hg => by have := hro g hg; omega) (Nat.le_trans HB7.out.size hs9)))
      clear hp10 ht10 hf10 hro hs7 hs9 HPU HD7 HB9 HR7 HS7 HRo HB7 HR3 HN3 HL3 HL2
      go_upto_region 18 with fail
      have HSK : Hid (∀ W, Hid (Below w10.heap.size w10 W) → ((convert 22 9 (.slice A t c)).run Tryd.prog W = .ok (.string ⟨l.toArray⟩) W ∧ Hid (Below w10.heap.size w10 W))) := Lib.hid (fun W hb => ⟨by
        have h := run_bytes_text W 9 22 Tryd.underlying22 Tryd.underlying9 c (HRA.out W (HB10.out.trans (hb.out.mono HB10.out.size)))
        rwa [← HL.out] at h, hb⟩)
      have HDN : Hid (∀ W, Hid (Below w10.heap.size w10 W) → Calls Tryd.prog 15 #[.pointer (some ⟨pd, 0, none⟩)] W fun en w' => en = .returned (.bool true) ∧ W = w') := Lib.hid (fun W hb => done_dk (HD10.out.below hb.out))
      have HON : Hid (∀ W, Hid (Below w10.heap.size w10 W) → Calls Tryd.prog 15 #[.pointer (some ⟨po, 0, none⟩)] W fun en w' => en = .returned (.bool true) ∧ W = w') := Lib.hid (fun W hb => done_dk (HP10.out.below hb.out))
      have HDB0 : Hid (∀ W, Hid (Below w10.heap.size w10 W) → Calls Tryd.prog 16 #[.pointer (some ⟨pd, 0, none⟩)] W fun e w' => (∃ v', e = .returned v' ∧ Owned W.heap.size w' v' l) ∧ Below W.heap.size W w') := Lib.hid (fun W hb => body_dk (HD10.out.below hb.out) (by show l.length ≤ _; rw [← HL.out]; omega))
      have HDB : Hid (∀ W, Hid (Below w10.heap.size w10 W) → Calls Tryd.prog 16 #[.pointer (some ⟨pd, 0, none⟩)] W fun e w' => ∃ A3 c3, e = .returned (.slice A3 l.length c3) ∧ (convert 22 9 (.slice A3 l.length c3)).run Tryd.prog w' = .ok (.string ⟨l.toArray⟩) w' ∧ Hid (Below w10.heap.size w10 w')) := Lib.hid (fun W hb => (HDB0.out W hb).mono fun e w' hh => by
        obtain ⟨⟨v', he, ho⟩, hb2⟩ := hh
        obtain ⟨A3, c3, hv, hcv⟩ := owned_text ho
        exact ⟨A3, c3, by rw [he, hv], hcv, Lib.hid (hb.out.trans (hb2.mono hb.out.size))⟩)
      have HOB : Hid (∀ W, Hid (Below w10.heap.size w10 W) → Calls Tryd.prog 16 #[.pointer (some ⟨po, 0, none⟩)] W fun e w' => ∃ A3 c3, e = .returned (.slice A3 l.length c3) ∧ (convert 22 9 (.slice A3 l.length c3)).run Tryd.prog w' = .ok (.string ⟨l.toArray⟩) w' ∧ Hid (Below w10.heap.size w10 w')) := Lib.hid (fun W hb => (body_dk (HP10.out.below hb.out) (by show l.length ≤ _; rw [← HL.out]; omega)).mono fun e w' hh => by
        obtain ⟨⟨v', he, ho⟩, hb2⟩ := hh
        obtain ⟨A3, c3, hv, hcv⟩ := owned_text ho
        exact ⟨A3, c3, by rw [he, hv], hcv, Lib.hid (hb.out.trans (hb2.mono hb.out.size))⟩)
      have HKN : Hid (∀ W, Hid (Below w10.heap.size w10 W) → Calls Tryd.prog 10 #[] W fun e w' => e = .returned (.bool true) ∧ Hid (Below w10.heap.size w10 w')) := Lib.hid (fun W hb => (known7_yes W (HGX.out W (HB10.out.trans (hb.out.mono HB10.out.size)))).mono fun e w' hh => ⟨hh.1, Lib.hid (hb.out.trans (hh.2.mono hb.out.size))⟩)
      clear HD10 HP10 HB HB1 HB2 HB3 HB4 HO4 HR34 HXL HRA HN HR hge hco
      refine wp_region_noPanic ?_
      go_region_held (fun w' => (convert 22 9 (.slice A t c)).run Tryd.prog w' = .ok (.string ⟨l.toArray⟩) w' ∧ Hid (Below w10.heap.size w10 w')) (first | exact HSK.out _ (Lib.hid (Below.refl _ _).drew) | (refine HSK.out _ ?_; assumption) | (refine HSK.out _ ?_; go_split_ands; assumption)) (first | (go_at_call_of 15 (Value.pointer (some ⟨pd, 0, none⟩)); refine (HDN.out _ (by go_split_ands; assumption)).mono ?_; rintro e w' ⟨rfl, rfl⟩) | (go_at_call_of 15 (Value.pointer (some ⟨po, 0, none⟩)); refine (HON.out _ (by go_split_ands; assumption)).mono ?_; rintro e w' ⟨rfl, rfl⟩) | (go_at_call_of 16 (Value.pointer (some ⟨pd, 0, none⟩)); refine (HDB.out _ (by go_split_ands; assumption)).mono ?_; rintro e w11 ⟨A11, c11, rfl, hcv1, hb11⟩) | (go_at_call_of 16 (Value.pointer (some ⟨po, 0, none⟩)); refine (HOB.out _ (by go_split_ands; assumption)).mono ?_; rintro e w12 ⟨A12, c12, rfl, hcv2, hb12⟩))
      refine NoPanic.normal ?_
      clear HDN HON HOB hcv1 hcv2 hb11
      go_wp2_with fail
      refine (HDB0.out w12 hb12).mono ?_
      rintro e w13 ⟨⟨v3, rfl, ho3⟩, hb13⟩
      obtain ⟨A13, c13, rfl, -⟩ := ho3.reads
      have HX : Hid (0 < t → ∃ g l', A13 = some ⟨g, 0, none⟩ ∧ l'.length = t ∧ Mut w12.heap.size w13 g l') := Lib.hid (fun h0 => by
        obtain ⟨g, cap, hv, hc, hm⟩ := ho3.mut (by rw [← HL.out]; exact h0)
        cases hv
        exact ⟨g, l, rfl, HL.out.symm, hm⟩)
      have HB13 := Lib.hid (hb12.out.trans (hb13.mono hb12.out.size))
      have HS12 := Lib.hid hb12.out.size
      have hlt := HL.out.symm
      clear ho3 hb13 HDB0
      rw [hlt]
      clear hlt
      go_wp2
      go_loopw [14] (fun jv wr => ∃ j : Nat, jv = .int .i64 (j : Int) ∧ j ≤ t ∧ Hid (Below w10.heap.size w10 wr) ∧ Hid (0 < t → ∃ g l', A13 = some ⟨g, 0, none⟩ ∧ l'.length = t ∧ Mut w12.heap.size wr g l')) (fun jv _ => t - (intOf jv).toNat)
      case atStart => exact ⟨0, rfl, Nat.zero_le _, HB13, HX⟩
      case round =>
        obtain ⟨j, rfl, hj, HBr, HXr⟩ := hrel
        by_cases hjt : j < t
        · obtain ⟨g, l', hA, hl', hm⟩ := HXr.out (by omega)
          subst hA
          obtain ⟨cc, hcc⟩ : ∃ cc, l'[j]? = some cc := ⟨_, List.getElem?_eq_getElem (by omega)⟩
          obtain ⟨hcell, hfr⟩ := hm.cell j cc hcc
          unfold bcell at hcell
          have hjt' : (j : Int) < (t : Int) := by omega
          have hup := byte_up cc
          have HM := Lib.hid hm
          have HLL := Lib.hid hl'
          have k2 : IntKind.i64.wrap ((j : Int) + 1) = ((j + 1 : Nat) : Int) := by rw [IntKind.wrap_i64]; omega
          have HBs := Lib.hid (show Below w10.heap.size w10 (wr.setCell ⟨g, j, none⟩ (.int .u8 ((cc + 1).toNat : Int))) from HBr.out.setCell (Nat.le_trans HS12.out hm.low) _)
          clear hcc hm hl' HX HXr
          go_wp2
          go_round
          case rel => exact ⟨j + 1, rfl, hjt, HBs, Lib.hid (fun _ => ⟨g, l'.set j (cc + 1), rfl, by rw [List.length_set]; exact HLL.out, HM.out.set j (cc + 1)⟩)⟩
          case measure =>
            show t - (j + 1) < t - j
            omega
        · have hge : decide ((j : Int) < (t : Int)) = false := by simp; omega
          have HBD : Hid (Below w10.heap.size w10 wr.drew) := Lib.hid HBr.out.drew
          clear HX HXr
          go_upto_region 25 with fail
          refine wp_region_noPanic ?_
          go_region_held (fun w' => (convert 22 9 (.slice A t c)).run Tryd.prog w' = .ok (.string ⟨l.toArray⟩) w' ∧ Hid (Below w10.heap.size w10 w')) (first | exact HSK.out _ HBD | (refine HSK.out _ ?_; assumption) | (refine HSK.out _ ?_; go_split_ands; assumption)) (first | (go_at_call_of 16 (Value.pointer (some ⟨pd, 0, none⟩)); refine (HDB.out _ (by go_split_ands; assumption)).mono ?_; rintro e w14 ⟨A14, c14, rfl, hcv4, hb14⟩) | (go_at_call 10; refine (HKN.out _ (by go_split_ands; assumption)).mono ?_; rintro e w15 ⟨rfl, hb15⟩))
          all_goals
            refine NoPanic.normal ?_
            go_wp2
            go_ret
            exact ⟨rfl, HB10.out.trans (hb15.out.mono HB10.out.size)⟩
end Go.Proofs.YtnkpdnbnheffeaaDoor
