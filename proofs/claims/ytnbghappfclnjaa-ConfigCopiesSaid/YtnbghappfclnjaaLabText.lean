/- The name of a series whose labels stand by rising names: the program's text. -/
import Derived.Test.YtnbghappfclnjaaLabEscape
import Derived.Test.YtnbghappfclnjaaLabMem
import Derived.Test.YtnbghappfclnjaaBuf
namespace Go.Proofs.Ytnbghappfclnjaa
open Go.RowKit

set_option maxRecDepth 100000 in
set_option maxHeartbeats 4000000 in
theorem text_any (A : Option Addr) (cap : Nat) (m : ByteArray) (l : List Lbl) (w : World) (hm : m.size ≤ 200) (hl : l.length ≤ 16) (hlab : labsB l = true) (hr : LReads w w.heap.size A l) :
    Calls Try.prog 45 #[.string m, .slice A l.length cap] w fun e w' => e = .returned (.string ⟨(textT m.data.toList l).toArray⟩) ∧ Below w.heap.size w w' := by
  have HML := Lib.hid (show m.data.toList.length ≤ 200 by rw [← Lib.size_eq]; exact hm)
  have HLAB := Lib.hid hlab
  have HR := Lib.hid hr
  obtain ⟨v0, w0, hcv, hbuf0, hbel0⟩ := conv_bytes w m (by unfold maxLen; omega)
  have HBUF0 := Lib.hid hbuf0
  have HBEL0 := Lib.hid hbel0
  have HTE := Lib.hid (textT_eq m.data.toList l)
  clear hlab hr hbuf0 hbel0
  go_enter Try.func45, Try.ntmps45
  go_wp2
  clear hcv
  go_loopw [5, 6, 13] (fun b ah i wr => ∃ (k : Nat) (bv : Value) (c : UInt8), bv = b ∧ k ≤ l.length ∧ i = .int .i64 k ∧ ah = .int .u8 (c.toNat : Int) ∧ Hid (c = if k = 0 then 123 else 44) ∧ Hid (Buf w.heap.size wr b (m.data.toList ++ piecesT (l.take k))) ∧ Hid (Below w.heap.size w wr) ∧ w.heap.size ≤ wr.heap.size) (fun _ _ i _ => l.length - (intOf i).toNat)
  case atStart => exact ⟨0, v0, 123, rfl, Nat.zero_le _, rfl, rfl, Lib.hid rfl, Lib.hid (by simpa [piecesT] using HBUF0.out), HBEL0, HBEL0.out.size⟩
  case round =>
    obtain ⟨k, bv, c, rfl, hk, rfl, rfl, HC, HO, HB, hBr⟩ := hrel
    by_cases hlt : k < l.length
    · obtain ⟨x, hx⟩ : ∃ x, l[k]? = some x := ⟨_, List.getElem?_eq_getElem hlt⟩
      obtain ⟨b, off, rfl, hb, hc⟩ := HR.out.at (by omega)
      have hc1 := (HB.out.cell (p := ⟨b, off + k * 2, none⟩) hb).trans (hc k x hx).1
      have hc2 := (HB.out.cell (p := ⟨b, off + k * 2 + 1, none⟩) hb).trans (hc k x hx).2
      unfold strV at hc1 hc2
      have HSN := Lib.hid (piecesT_snoc hx)
      have hlt' : (k : Int) < (l.length : Int) := by omega
      have hlx := List.all_eq_true.1 HLAB.out x (List.mem_of_getElem? hx)
      have HP := Lib.hid (show (m.data.toList ++ piecesT (l.take k)).length ≤ 40000 by
        rw [List.length_append]
        have h1 := piecesT_len k HLAB.out
        have h2 := HML.out
        omega)
      have HLX := Lib.hid (labT_len hlx)
      have HEX := Lib.hid (show (⟨x.2.toArray⟩ : ByteArray).size ≤ 20000 by
        unfold labB at hlx
        rw [Bool.and_eq_true, decide_eq_true_eq] at hlx
        have : (⟨x.2.toArray⟩ : ByteArray).size = x.2.length := by rw [Lib.size_eq]
        omega)
      clear hlx
      have HT : Hid (m.data.toList ++ piecesT (l.take (k + 1)) = (m.data.toList ++ piecesT (l.take k)) ++ [c] ++ x.1 ++ [61, 34] ++ escL x.2 ++ [34]) := Lib.hid (by
        rw [HSN.out, HC.out]
        simp [labT])
      obtain ⟨P, hP⟩ : ∃ P, P = m.data.toList ++ piecesT (l.take k) := ⟨_, rfl⟩
      rw [← hP] at HO HP HT
      clear hP HC HSN
      have HL1 := Lib.hid (show P.length + [c].length ≤ 1000000 by have := HP.out; simp only [List.length_append, List.length_cons, List.length_nil]; omega)
      have HL2 := Lib.hid (show (P ++ [c]).length + x.1.length ≤ 1000000 by have := HP.out; have := HLX.out; simp only [labT, List.length_append, List.length_cons, List.length_nil] at *; omega)
      have HL3 := Lib.hid (show (P ++ [c] ++ x.1).length + [61, 34].length ≤ 1000000 by have := HP.out; have := HLX.out; simp only [labT, List.length_append, List.length_cons, List.length_nil] at *; omega)
      have HL4 := Lib.hid (show (P ++ [c] ++ x.1 ++ [61, 34]).length + (escL x.2).length ≤ 1000000 by have := HP.out; have := HLX.out; simp only [labT, List.length_append, List.length_cons, List.length_nil] at *; omega)
      have HL5 := Lib.hid (show (P ++ [c] ++ x.1 ++ [61, 34] ++ escL x.2).length + [34].length ≤ 1000000 by have := HP.out; have := HLX.out; simp only [labT, List.length_append, List.length_cons, List.length_nil] at *; omega)
      clear hc hx
      go_wp2_with (first | (at_builtin; refine wpList_append_buf rfl (.tmp 17) (.tmp 19) 74 rfl w.heap.size bv _ rfl ((HO.out.alloc _).alloc _) _ [c] rfl (src_one _ _ _ c _ (by simp) rfl) HL1.out (le_alloc (le_alloc hBr _) _) ?_; intro v1 w1 hbuf1 hbel1 hsafe1; have HO1 := Lib.hid hbuf1; have HB1 := Lib.hid (((below_alloc hBr _).trans (below_alloc (le_alloc hBr _) _)).trans hbel1); have hB1 := Nat.le_trans hBr HB1.out.size; have HX1 := Lib.hid (hsafe1.cell (X := wr.heap.size) (j := 0) (HO.out.apart (Nat.le_refl _)) (cell_alloc (by simp; rfl) _)); have HY1 := Lib.hid (hsafe1.cell (X := wr.heap.size) (j := 1) (HO.out.apart (Nat.le_refl _)) (cell_alloc (by simp; rfl) _)); have hx1 := HX1.out.2; clear hbuf1 hbel1 hsafe1) | (at_builtin; refine wpList_append_buf rfl (.tmp 21) (.tmp 23) 9 rfl w.heap.size v1 _ rfl HO1.out _ x.1 rfl (src_text _ ⟨x.1.toArray⟩) HL2.out hB1 ?_; intro v2 w2 hbuf2 hbel2 hsafe2; have HO2 := Lib.hid hbuf2; have HB2 := Lib.hid (HB1.out.trans hbel2); have hB2 := Nat.le_trans hB1 hbel2.size; have HY2 := Lib.hid (hsafe2.cell HY1.out.1 HY1.out.2); clear hbuf2 hbel2 hsafe2) | (at_builtin; refine wpList_append_buf rfl (.tmp 25) (.tmp 26) 74 rfl w.heap.size v2 _ rfl (HO2.out.alloc _) _ [61, 34] rfl (src_two _ _ _ _ 61 34 _ (by simp) rfl rfl) HL3.out (le_alloc hB2 _) ?_; intro v3 w3 hbuf3 hbel3 hsafe3; have HO3 := Lib.hid hbuf3; have HB3 := Lib.hid (HB2.out.trans ((below_alloc hB2 _).trans hbel3)); have hB3 := Nat.le_trans (le_alloc hB2 _) hbel3.size; have HY3 := Lib.hid (hsafe3.cell HY2.out.1 (cell_alloc HY2.out.2 _)); have hy3 := HY3.out.2; clear hbuf3 hbel3 hsafe3) | (go_at_call 61; refine (escape_any ⟨x.2.toArray⟩ _ HEX.out).mono ?_; rintro e w4 ⟨rfl, hbel4⟩; have HO4 := Lib.hid (HO3.out.below hbel4); have HB4 := Lib.hid (HB3.out.trans (hbel4.mono hB3)); have hB4 := Nat.le_trans hB3 hbel4.size; clear hbel4) | (at_builtin; refine wpList_append_buf rfl (.tmp 28) (.tmp 31) 9 rfl w.heap.size v3 _ rfl HO4.out _ (escL x.2) rfl (src_text _ ⟨(escL x.2).toArray⟩) HL4.out hB4 ?_; intro v5 w5 hbuf5 hbel5 hsafe5; have HO5 := Lib.hid hbuf5; have HB5 := Lib.hid (HB4.out.trans hbel5); have hB5 := Nat.le_trans hB4 hbel5.size; clear hbuf5 hbel5 hsafe5) | (at_builtin; refine wpList_append_buf rfl (.tmp 33) (.tmp 34) 74 rfl w.heap.size v5 _ rfl (HO5.out.alloc _) _ [34] rfl (src_one _ _ _ 34 _ (by simp) rfl) HL5.out (le_alloc hB5 _) ?_; intro v6 w6 hbuf6 hbel6 hsafe6; have HO6 := Lib.hid hbuf6; have HB6 := Lib.hid (HB5.out.trans ((below_alloc hB5 _).trans hbel6)); have hB6 := Nat.le_trans (le_alloc hB5 _) hbel6.size; clear hbuf6 hbel6 hsafe6))
      have HN := Lib.hid (show Buf w.heap.size w6 v6 (m.data.toList ++ piecesT (l.take (k + 1))) by rw [HT.out]; exact HO6.out)
      have HG := Lib.hid (HB.out.trans HB6.out)
      go_roundw
      case rel => exact ⟨k + 1, v6, 44, rfl, by omega, by go_num, rfl, Lib.hid rfl, HN, HG, hB6⟩
      case measure => simp [intOf] <;> omega
    · have hk' : k = l.length := by omega
      have HT := Lib.hid (show l.take k = l by rw [hk', List.take_length])
      have hge : decide ((k : Int) < (l.length : Int)) = false := by simp; omega
      by_cases h0 : l = []
      · subst h0
        have HE := Lib.hid (show textT m.data.toList [] = m.data.toList ++ piecesT (([] : List Lbl).take k) by rw [HTE.out]; simp [piecesT])
        have hbt := HO.out.text
        rw [← HE.out] at hbt
        clear hk'
        go_wp2
        go_ret
        exact ⟨rfl, HB.out⟩
      · have hpos : (0 : Int) < l.length := by have := List.length_pos_iff.2 h0; omega
        have HE := Lib.hid (show textT m.data.toList l = m.data.toList ++ piecesT (l.take k) ++ [125] by rw [HTE.out, if_neg h0, HT.out])
        have HL1 := Lib.hid (show (m.data.toList ++ piecesT (l.take k)).length + [125].length ≤ 1000000 by
          rw [List.length_append]
          have h1 := piecesT_len k HLAB.out
          have h2 := HML.out
          simp only [List.length_cons, List.length_nil]
          omega)
        clear hk' h0
        go_wp2_with (at_builtin; refine wpList_append_buf rfl (.tmp 40) (.tmp 41) 74 rfl w.heap.size bv _ rfl (HO.out.alloc _) _ [125] rfl (src_one _ _ _ 125 _ (by simp) rfl) HL1.out (le_alloc hBr _) ?_; intro v1 w1 hbuf1 hbel1 hsafe1; have HO1 := Lib.hid hbuf1; have HB1 := Lib.hid ((below_alloc hBr _).trans hbel1); have hbt := HO1.out.text; rw [← HE.out] at hbt; clear hbuf1 hbel1 hsafe1)
        go_ret
        exact ⟨rfl, HB.out.trans HB1.out⟩
end Go.Proofs.Ytnbghappfclnjaa
