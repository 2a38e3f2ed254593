/- The program's read. -/
import Derived.Test.YtlpmfckhioppaaaReqFirst
import Derived.Lib.SlBytesConst
namespace Go.Proofs.Ytlpmfckhioppaaa
open Go.RowKit

theorem cutL_len (s : List UInt8) : (cutL s).length ≤ s.length := by
  unfold cutL
  split
  · rw [List.length_take]; omega
  · exact Nat.le_refl _
theorem cutR_len (s : List UInt8) : (cutR s).length ≤ s.length := by
  unfold cutR
  split
  · rw [List.length_drop]; omega
  · exact Nat.zero_le _
theorem trimP_len (p s : List UInt8) : (trimP p s).length ≤ s.length := by
  unfold trimP
  split
  · rw [List.length_drop]; omega
  · exact Nat.le_refl _
theorem trimS_len (p s : List UInt8) : (trimS' p s).length ≤ s.length := by
  unfold trimS'
  split
  · rw [List.length_take]; omega
  · exact Nat.le_refl _
theorem pathP_len (s : List UInt8) : (pathP s).length ≤ s.length := Nat.le_trans (trimS_len _ _) (Nat.le_trans (trimP_len _ _) (cutL_len _))
theorem hostP_len (s : List UInt8) : (hostP s).length ≤ s.length := Nat.le_trans (trimP_len _ _) (Nat.le_trans (cutL_len _) (cutR_len _))
theorem lit_reads (w : World) (t : TypeId) (l : List UInt8) (fr : Nat × Nat) : BReads (w.alloc (.cells (l.map bcell).toArray t fr)) (w.heap.size + 1) (some ⟨w.heap.size, 0, none⟩) l := by
  refine .inr ⟨w.heap.size, 0, rfl, Nat.lt_succ_self _, fun j c hj => ?_⟩
  rw [cell_of_row _ w.heap.size (0 + j) _ t fr (heap_alloc_new w _), List.getElem?_toArray, Nat.zero_add, List.getElem?_map, hj]
  rfl
theorem sl_lit (w : World) (t : TypeId) (l : List UInt8) (C : Array Value) (n : Nat) (fr : Nat × Nat) (hC : C = (l.map bcell).toArray) (hn : n = l.length) : Sl (w.alloc (.cells C t fr)) (w.heap.size + 1) (.slice (some ⟨w.heap.size, 0, none⟩) n n) l := by
  subst hC hn
  exact ⟨_, _, rfl, lit_reads w t l fr, Nat.le_refl _, fun h => by cases h⟩
theorem Owned.sl {B : Nat} {w : World} {v : Value} {l : List UInt8} (h : Owned B w v l) : Sl w w.heap.size v l := by
  obtain ⟨A, cap, h1, hr, hc, _⟩ := h.reads
  refine ⟨A, cap, h1, hr, hc, fun hA => ?_⟩
  rcases h.form with ⟨h2, _⟩ | ⟨g, c, h2, _⟩
  · rw [h1] at h2
    exact (Value.slice.inj h2).2.2
  · rw [h1] at h2
    have := (Value.slice.inj h2).1
    rw [hA] at this
    cases this
/-- What read answers of a beginning. -/
theorem read_eq (l : List UInt8) {N : Nat} (hN : N = min l.length 1407) : firstB l = firstB (l.take N) := by
  rcases Nat.le_total l.length 1407 with h | h
  · rw [List.take_of_length_le (by omega)]
  · rw [firstB_take l (by omega)]
theorem read_no {s : List UInt8} (h : ¬ (mayHost (hostP s) = true ∧ mayPath (pathP s) = true)) : firstB s = none := by
  rw [firstB_read, if_neg fun x => h ⟨x.1, x.2.1⟩]
theorem read_un {s : List UInt8} (h : ¬ textL (hostP s) (pathP s) <+: s) : firstB s = none := by
  rw [firstB_read, if_neg fun x => h x.2.2]
theorem read_yes {s : List UInt8} (h1 : mayHost (hostP s) = true) (h2 : mayPath (pathP s) = true) (h3 : textL (hostP s) (pathP s) <+: s) : firstB s = some (hostP s, pathP s) := by
  rw [firstB_read, if_pos ⟨h1, h2, h3⟩]
set_option maxRecDepth 100000 in
set_option maxHeartbeats 8000000 in
theorem read_any {w : World} {A : Option Addr} {c : Nat} {l : List UInt8} (hr : BReads w w.heap.size A l) (hc : l.length ≤ c) (hn : A = none → c = 0) (hl : l.length ≤ 1000000) (hm : MX w) (h0 : 0 < w.heap.size) :
    Calls Try.prog 62 #[.slice A l.length c] w fun e w' => e = .returned (FV (firstB l)) ∧ Below w.heap.size w w' := by
  obtain ⟨N, hN⟩ : ∃ N, N = min l.length 1407 := ⟨_, rfl⟩
  have HRE := Lib.hid (read_eq l hN)
  have HS := Lib.hid (Sl.take (w := w) (B := w.heap.size) hr hc hn N (by omega))
  obtain ⟨lt, hlt⟩ : ∃ lt, lt = l.take N := ⟨_, rfl⟩
  rw [← hlt] at HRE HS
  have HLT := Lib.hid (show lt.length ≤ 1407 by rw [hlt, List.length_take]; omega)
  have hmin : min (l.length : Int) 1407 = (N : Int) := by omega
  have hN0 : (0 : Int) ≤ (N : Int) := by omega
  have hNc : (N : Int) ≤ (c : Int) := by omega
  have HMX := Lib.hid hm
  have HP := Lib.hid h0
  have hcs := fun (w : World) (C : Array Value) (n c : Nat) => Lib.run_convert_bytes_const (P := Try.prog) w 30 5 C n c Try.underlying30 Try.underlying5
  clear hN hlt hm h0 hr hn hl
  go_enter Try.func62, Try.ntmps62
  go_wp2_with fail
  refine (cut_ok (HS.out.keep (Nat.le_refl _) (below_alloc (Nat.le_refl _) _)) (by have := HLT.out; omega) (sl_lit _ _ tEnd _ _ _ rfl rfl) (HMX.out.below HP.out (below_alloc (Nat.le_refl _) _))).mono ?_
  rintro e w1 ⟨a1, r1, b1, rfl, ha1, hr1, hb1⟩
  have HA1 := Lib.hid ha1
  have HR1 := Lib.hid hr1
  have HB1 := Lib.hid ((below_alloc (B := w.heap.size) (Nat.le_refl _) _).trans (hb1.mono (by simp)))
  clear ha1 hr1 hb1
  go_wp2_with fail
  refine (cut_ok (HR1.out.keep HB1.out.size (below_alloc (Nat.le_refl _) _)) (by have := HLT.out; have := cutR_len lt; omega) (sl_lit _ _ tEnd _ _ _ rfl rfl) (HMX.out.below HP.out (HB1.out.trans (below_alloc HB1.out.size _)))).mono ?_
  rintro e w2 ⟨a2, r2, b2, rfl, ha2, -, hb2⟩
  have HA2 := Lib.hid ha2
  have HB2 := Lib.hid ((HB1.out.trans (below_alloc HB1.out.size _)).trans (hb2.mono (Nat.le_trans HB1.out.size (by simp))))
  have HA12 := Lib.hid (HA1.out.keep HB1.out.size ((below_alloc (Nat.le_refl _) _).trans (hb2.mono (by simp))))
  clear ha2 hb2 HA1 HR1
  go_wp2_with fail
  refine (trimP_ok (HA12.out.keep HB2.out.size (below_alloc (Nat.le_refl _) _)) (sl_lit _ _ tGet _ _ _ rfl rfl) (by decide)).mono ?_
  rintro e w3 ⟨a3, rfl, ha3, hw3⟩
  have HB3 := Lib.hid (show Below w.heap.size w w3 from hw3 ▸ HB2.out.trans (below_alloc HB2.out.size _))
  have HA3 := Lib.hid (show Sl w3 w.heap.size a3 _ from hw3 ▸ ha3)
  have HA23 := Lib.hid (show Sl w3 w.heap.size a2 _ from hw3 ▸ HA2.out.keep HB2.out.size (below_alloc (Nat.le_refl _) _))
  clear ha3 hw3 HA12 HA2
  go_wp2_with fail
  refine (trimS_ok (HA3.out.keep HB3.out.size (below_alloc (Nat.le_refl _) _)) (by have := HLT.out; have := trimP_len tGet (cutL lt); have := cutL_len lt; omega) (sl_lit _ _ tHttp _ _ _ rfl rfl) (by decide)).mono ?_
  rintro e w4 ⟨a4, rfl, ha4, hw4⟩
  have HB4 := Lib.hid (show Below w.heap.size w w4 from hw4 ▸ HB3.out.trans (below_alloc HB3.out.size _))
  have hcv4 := (show Sl w4 w.heap.size a4 (pathP lt) from hw4 ▸ ha4).text
  have HA24 := Lib.hid (show Sl w4 w.heap.size a2 _ from hw4 ▸ HA23.out.keep HB3.out.size (below_alloc (Nat.le_refl _) _))
  clear ha4 hw4 HA3 HA23
  go_wp2_with fail
  refine (trimP_ok (HA24.out.keep HB4.out.size (below_alloc (Nat.le_refl _) _)) (sl_lit _ _ tHost _ _ _ rfl rfl) (by decide)).mono ?_
  rintro e w5 ⟨a5, rfl, ha5, hw5⟩
  have HB5 := Lib.hid (show Below w.heap.size w w5 from hw5 ▸ HB4.out.trans (below_alloc HB4.out.size _))
  have hcv5 := (show Sl w5 w.heap.size a5 (hostP lt) from hw5 ▸ ha5).text
  clear ha5 hw5 HA24 hcv4
  obtain ⟨X, hX⟩ : ∃ X : ByteArray, X = ⟨(hostP lt).toArray⟩ := ⟨_, rfl⟩
  obtain ⟨P, hP⟩ : ∃ P : ByteArray, P = ⟨(pathP lt).toArray⟩ := ⟨_, rfl⟩
  rw [← hX] at hcv5
  rw [← hP]
  have hXl : X.data.toList = hostP lt := by rw [hX]
  have hPl : P.data.toList = pathP lt := by rw [hP]
  have hXz : X.size ≤ 1407 := by rw [Lib.size_eq, hXl]; have := HLT.out; have := hostP_len lt; omega
  have hPz : P.size ≤ 1407 := by rw [Lib.size_eq, hPl]; have := HLT.out; have := pathP_len lt; omega
  clear hX hP
  by_cases hmay : mayHost X.data.toList = true ∧ mayPath P.data.toList = true
  · have HBY := Lib.hid (bytes_yes X P w5 hmay.1 hmay.2)
    have hT := textL_len X.data.toList P.data.toList
    have HRD : Hid ((textL X.data.toList P.data.toList).isPrefixOf lt = false → firstB l = none) := Lib.hid (fun h => by
      rw [HRE.out]
      refine read_un fun hp => ?_
      rw [← hXl, ← hPl, ← List.isPrefixOf_iff_prefix, h] at hp
      cases hp)
    have HRY : Hid ((textL X.data.toList P.data.toList).isPrefixOf lt = true → FV (firstB l) = .tuple #[.string X, .string P, .int .i64 ((textL X.data.toList P.data.toList).length : Int)]) := Lib.hid (fun h => by
      rw [List.isPrefixOf_iff_prefix] at h
      obtain ⟨h1, h2⟩ := hmay
      rw [hXl, hPl] at h
      rw [hXl] at h1
      rw [hPl] at h2
      rw [HRE.out, read_yes h1 h2 h]
      unfold FV hostR pathR sizeB
      rw [← hXl, ← hPl, Lib.mk_data, Lib.mk_data])
    have HTZ := Lib.hid hT
    obtain ⟨TL, hTL⟩ : ∃ TL, TL = textL X.data.toList P.data.toList := ⟨_, rfl⟩
    rw [← hTL] at HBY HRD HRY HTZ
    clear hT hTL hmay hXl hPl
    go_wp2_with fail
    refine (Hid.out HBY).mono ?_
    rintro e w6 ⟨⟨v6, rfl, hown6⟩, hb6⟩
    have HB6 := Lib.hid (HB5.out.trans (hb6.mono HB5.out.size))
    rcases hown6.form with ⟨_, h0⟩ | ⟨g, cap, rfl, _⟩
    · have := HTZ.out
      rw [h0] at this
      simp at this
    have HP6 := Lib.hid (hasP_ok (HS.out.keep (Nat.le_refl _) HB6.out) hown6.sl)
    clear hown6 hb6 hcv5
    generalize TL.isPrefixOf lt = b at HP6 HRD HRY
    cases b with
    | false =>
      have HR := Lib.hid (HRD.out rfl)
      go_wp2_with (refine (Hid.out HP6).mono ?_; rintro e w7 ⟨rfl, rfl⟩)
      go_ret3
      exact ⟨by rw [HR.out]; rfl, HB6.out⟩
    | true =>
      have HR := Lib.hid (HRY.out rfl)
      go_wp2_with (refine (Hid.out HP6).mono ?_; rintro e w7 ⟨rfl, rfl⟩)
      go_ret3
      exact ⟨congrArg Ending.returned HR.out.symm, HB6.out⟩
  · have HBN := Lib.hid (bytes_no X P w5 (by omega) (by omega) hmay)
    have HR := Lib.hid (show firstB l = none by rw [HRE.out]; rw [hXl, hPl] at hmay; exact read_no hmay)
    clear hmay hXl hPl
    go_wp2_with (refine (Hid.out HBN).mono ?_; rintro e w6 ⟨rfl, rfl⟩)
    go_ret3
    exact ⟨by rw [HR.out]; rfl, HB5.out⟩
end Go.Proofs.Ytlpmfckhioppaaa
