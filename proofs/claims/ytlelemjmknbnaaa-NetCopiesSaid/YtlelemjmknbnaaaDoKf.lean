/- do: an act, done by both. -/
import Derived.Test.YtlelemjmknbnaaaDoMore
import Derived.Deep.RegionLaw
import Derived.Lib.BufferRead
namespace Go.Proofs.Ytlelemjmknbnaaa
open Go.RowKit

set_option maxRecDepth 100000 in
set_option maxHeartbeats 8000000 in
theorem do_read {B : Nat} {w : World} {bn bm rn : Nat} {v : Value} {most : Int} {N t : Nat} {L : List NE} {rs : List Rc} (h : Two B w bn bm rn v most N L rs) (hB : B ≤ w.heap.size) (hN : N ≤ 900) (hs : SmallR t rs) (ht : t ≤ 10000) (k : Int) (hk : (Lit.int .i64 k).wf = true) (host : ByteArray) (hh : host.size ≤ 3000) (A : Option Addr) (l : List UInt8) (c : Nat) (hr : BReads w B A l) (hc : A = none → c = 0) (hlen : l.length ≤ 3000) :
    Calls Try.prog 8 #[.pointer (some ⟨bn, 0, none⟩), .pointer (some ⟨rn, 0, none⟩), .agg #[.int .i64 8, .int .i64 k, .string host, .slice A l.length c]] w fun e w' =>
      e = .returned (.bool true) ∧ (∃ v' N' L' rs', Two B w' bn bm rn v' most N' L' rs' ∧ N' ≤ N + 1 ∧ SmallR (t + (host.size + l.length)) rs' ∧ ∀ i ∈ footT bn bm rn v' L', i ∈ footT bn bm rn v L ∨ w.heap.size ≤ i) ∧ Below B w w' ∧ Turns (footT bn bm rn v L) w w' := by
  have HR0 := Lib.hid hr
  have HRB := Lib.hid (hr.below (below_alloc hB (.cells #[.int .i64 8, .int .i64 k, .string host, .slice A l.length c] 32)))
  have HCC := Lib.hid hc
  have HLN := Lib.hid (show ([] : List UInt8).length + l.length ≤ 1000000 by simp; omega)
  have H := Lib.hid h
  have HK := Lib.hid hk
  have HL := Lib.hid (show rs.length ≤ 1000 from Nat.le_trans h.doc.len (by omega))
  have HS := Lib.hid hs
  have HWB := Lib.hid hB
  have HNB := Lib.hid hN
  have HTB := Lib.hid ht
  have HHB := Lib.hid hh
  have HLB := Lib.hid hlen
  obtain ⟨NN, hNN⟩ : ∃ NN, NN = l.length := ⟨_, rfl⟩
  rw [← hNN] at HRB ⊢
  have HNN := Lib.hid hNN
  clear h hr hc hlen hk hNN hB hN hs ht hh
  go_enter Try.func8, Try.ntmps8
  go_upto_block 0 with (at_builtin; refine wpList_append_bytesT rfl (.const (.slice none 0 0)) (.tmp 17) rfl w.heap.size (.slice none 0 0) [] rfl (World.ownsRow_nil _ _ _ _) B A l c (by rw [← HNN.out]; rfl) HRB.out HCC.out HLN.out (by simp) ?_; intro v2 w2 hown2 ht2 hl2; have HT2 := Lib.hid (show Turns [] w w2 from (Turns.alloc (F := []) _ _).trans (ht2.mono (G := []) (by simp [ownB, Value.ownBlock])) (by simp)); have hbx := (ht2.block w.heap.size (by simp) (by simp [ownB, Value.ownBlock])).trans (heap_alloc_new w (.cells #[.int .i64 8, .int .i64 k, .string host, .slice A NN c] 32)); have HBX := Lib.hid hbx; have b0 : w2.cell? ⟨w.heap.size, 0, none⟩ = some (.int .i64 8) := (by simp [World.cell?, hbx]); have HO2 := Lib.hid hown2; have HL2 := Lib.hid hl2; clear hown2 ht2 hl2 hbx)
  have HOW := Lib.hid (show Owned w.heap.size w2 v2 l from HO2.out)
  obtain ⟨FF, hFF⟩ : ∃ FF, FF = ownB v2 ++ footT bn bm rn v L := ⟨_, rfl⟩
  have HF := Lib.hid (show FreeF FF w2.heap.size bn bm rn v v2 L from ⟨H.out.start (b := 0) HOW.out, fun i hi => .inl (by rw [hFF]; exact List.mem_append.2 (.inr hi)), fun i hi => by rw [hFF]; exact List.mem_append.2 (.inl hi)⟩)
  have HFF := Lib.hid (show ∀ i ∈ FF, i ∈ footT bn bm rn v L ∨ w.heap.size ≤ i from fun i hi => by
    rw [hFF] at hi
    rcases List.mem_append.1 hi with h9 | h9
    · exact .inr (HOW.out.foot i h9).1
    · exact .inl h9)
  clear hFF
  have H2 := Lib.hid (H.out.kept HT2.out)
  have HSZ := Lib.hid HT2.out.size
  have HPN := Lib.hid (show w.heap.size ∉ bn :: bm :: footL L from fun hm => Nat.lt_irrefl _ (H.out.net.lt _ hm).2)
  have HWB2 := Lib.hid (Nat.le_trans HWB.out HSZ.out)
  have HR2 := Lib.hid (show BReads w2 B A l from HR0.out.below (HT2.out.below (by simp) HWB.out))
  clear HO2 HL2 H
  go_cut [8] (fun v8 wx => ∃ w3, w3 = wx ∧ v8 = .bool true ∧ Hid (TwoP FF B w.heap.size w2 bn bm rn most N (t + (host.size + NN)) v2 l wx))
  case first =>
    · skip
      have b1 : w2.cell? ⟨w.heap.size, 1, none⟩ = some (.int .i64 k) := by simp [World.cell?, HBX.out]
      rcases H2.out.link.cases k with ⟨g1, g2⟩ | ⟨x, r, g1, _, _⟩
      · have HA := Lib.hid (read_no H2.out.net k HK.out g1)
        have HD := Lib.hid (fun W (ht : Turns [] w2 W) => rread_no (H2.out.kept ht).doc HL.out k g2)
        have hcn := fun W => Lib.run_convert_nil_bytes (P := Try.prog) W 30 9 5 0 Try.underlying30 Try.underlying5 Try.underlying9
        go_wp2_with fail
        refine (Hid.out HA).mono ?_
        rintro e w3 ⟨rfl, rfl⟩
        go_wp2_with fail
        go_region_law (go_simp; go_at_call 29; refine (HD.out _ (by first | exact Turns.refl _ _ | exact (Turns.refl _ _).drew)).mono ?_; rintro e w4 ⟨rfl, rfl⟩)
        all_goals
          go_wp2_with fail
          go_loopw [14] (fun iv wr => iv = .int .i64 0 ∧ Hid (Turns [] w2 wr)) (fun _ _ => 0)
          case atStart => exact ⟨rfl, Lib.hid (by first | exact Turns.refl _ _ | exact (Turns.refl _ _).drew)⟩
          case round =>
            obtain ⟨rfl, HTr⟩ := hrel
            go_wp2_with fail
            go_meet
            exact ⟨_, rfl, rfl, Lib.hid (show TwoP FF B w.heap.size w2 bn bm rn most N (t + (host.size + NN)) v2 l _ from ⟨⟨_, _, _, _, H2.out.kept HTr.out, Nat.le_succ _, HS.out.mono (by omega), HF.out⟩, HOW.out.turns HTr.out (by simp), HTr.out.below (by simp) HWB2.out, HTr.out.mono (by simp)⟩)⟩
      · obtain ⟨L1, L2, rfl, hkx⟩ := getE_split g1
        obtain ⟨R1, r, R2, rfl, l1, hx, l2⟩ := H2.out.link.at_
        have ha0 := read_ok H2.out.net (by rw [hkx]; exact HK.out)
        rw [hkx] at ha0
        have HA := Lib.hid ha0
        obtain ⟨n, hn⟩ : ∃ n, n = x.1.inn.length := ⟨_, rfl⟩
        have HRP := Lib.hid (fun (w3 W : World) (h1 : NetAt B w3 bn bm most (N : Int) (L1 ++ ({ x.1 with inn := [] }, { x.2 with va := .slice none 0 0 }) :: L2)) (t1 : Turns [x.2.b] w2 w3) (ht : Turns [] w3 W) => read_pair H2.out l1 hx l2 HOW.out HF.out HS.out (by have := HTB.out; omega) HWB2.out HL.out n hn k hkx h1 t1 ht)
        have HCV := Lib.hid (fun (w3 W : World) (t1 : Turns [x.2.b] w2 w3) (ht : Turns [] w3 W) => read_conv H2.out t1 ht)
        have hc2 := (H2.out.net.conns x (by simp)).2.1
        have HXB := Lib.hid (show w.heap.size ∉ [x.2.b] from fun hm => HPN.out (by rw [List.mem_singleton] at hm; rw [hm]; simp [foot_mem x.2.b (Pl.mem_foot.2 (.inl rfl))]))
        obtain ⟨S, hS⟩ : ∃ S : ByteArray, S = ⟨x.1.inn.toArray⟩ := ⟨_, rfl⟩
        obtain ⟨X2, hX2⟩ : ∃ X2, X2 = x.2.va := ⟨_, rfl⟩
        rw [← hS, ← hX2] at HRP HCV
        rw [← hX2] at HA hc2
        have hform : (X2 = .slice none 0 0 ∧ n = 0) ∨ ∃ g cap, X2 = .slice (some ⟨g, 0, none⟩) n cap := by
          rcases hc2.form with ⟨e1, e2⟩ | ⟨g, cap, e1, _⟩
          · exact .inl ⟨e1, by rw [hn, e2]; rfl⟩
          · exact .inr ⟨g, cap, by rw [hn]; exact e1⟩
        have HFM := Lib.hid hform
        have hn3 : n ≤ 100000 := by
          have h1 := (HS.out.inn H2.out.link x (by simp)).1
          have := HTB.out
          omega
        have hss : (S.toList == S.toList) = true := beq_self_eq_true _
        clear hc2 hX2 hS hn hform g1 hx hkx ha0
        go_wp2_with fail
        refine (Hid.out HA).mono ?_
        rintro e w3 ⟨rfl, hn3', t3⟩
        have HN3 := Lib.hid hn3'
        have HT3 := Lib.hid t3
        have hb3 := (t3.block _ (lt_of_block HBX.out) HXB.out).trans HBX.out
        have p1 : w3.cell? ⟨w.heap.size, 1, none⟩ = some (.int .i64 k) := by simp [World.cell?, hb3]
        have q0 := HCV.out w3 w3 t3 (Turns.refl _ _)
        have q1 := HCV.out w3 w3.drew t3 (Turns.refl _ _).drew
        clear hn3' t3 hb3
        go_wp2_with fail
        go_region_law (go_simp; go_at_call 29; refine (HRP.out w3 _ HN3.out HT3.out (by first | exact Turns.refl _ _ | exact (Turns.refl _ _).drew)).mono ?_; rintro e w4 ⟨A2, c4, rfl, q2, q3, hq⟩; have HQ := Lib.hid hq; clear hq)
        all_goals
          have HQ1 := HQ
          clear HQ q2 q3
          rcases HFM.out with ⟨e1, e2⟩ | ⟨g, cap, e1⟩
          · subst e1 e2
            go_wp2_with fail
            go_loopw [14] (fun iv wr => iv = .int .i64 0 ∧ Hid (TwoP FF B w.heap.size w2 bn bm rn most N (t + (host.size + NN)) v2 l wr)) (fun _ _ => 0)
            case atStart => exact ⟨rfl, Lib.hid (HQ1.out.one.mono (by omega))⟩
            case round =>
              obtain ⟨rfl, HTr⟩ := hrel
              go_wp2_with fail
              go_meet
              exact ⟨_, rfl, rfl, HTr⟩
          · subst e1
            go_wp2_with fail
            go_loopw [14] (fun iv wr => ∃ j : Nat, j ≤ n ∧ iv = .int .i64 j ∧ Hid (TwoQ FF B w.heap.size w2 bn bm rn most N t v2 l (.slice (some ⟨g, 0, none⟩) n cap) n wr)) (fun iv _ => n - (intOf iv).toNat)
            case atStart => exact ⟨0, Nat.zero_le _, rfl, HQ1⟩
            case round =>
              obtain ⟨j, hj, rfl, HQr⟩ := hrel
              have hj0 : (0 : Int) ≤ (j : Int) := by omega
              by_cases hlt : j < n
              · have hlt' : (j : Int) < (n : Int) := by omega
                obtain ⟨cb, hcb, hfb⟩ := HQr.out.byte rfl j hlt
                have hup := up_byte cb
                have HN := Lib.hid (HQr.out.bump rfl j (cb + 1))
                go_wp2
                go_roundw
                case rel => exact ⟨j + 1, by omega, by go_num, HN⟩
                case measure => simp [intOf] <;> omega
              · have hge : decide ((j : Int) < (n : Int)) = false := by rw [decide_eq_false_iff_not]; omega
                go_wp2_with fail
                go_meet
                exact ⟨_, rfl, rfl, Lib.hid (HQr.out.one.mono (by omega))⟩
  case rest =>
  obtain ⟨w3, -, rfl, HP⟩ := hcut
  have HB2 := Lib.hid (show Below B w w2 from HT2.out.below (by simp) HWB.out)
  rcases HOW.out.form with ⟨e1, e2⟩ | ⟨g, cap, e1, _⟩
  · have e3 : NN = 0 := by rw [HNN.out, e2]; rfl
    subst e1 e3
    go_wp2_with fail
    go_loopw [15] (fun iv wr => iv = .int .i64 0 ∧ Hid (TwoP FF B w.heap.size w2 bn bm rn most N (t + (host.size + 0)) (.slice none 0 0) l wr)) (fun _ _ => 0)
    case atStart => exact ⟨rfl, HP⟩
    case round =>
      obtain ⟨rfl, HTr⟩ := hrel
      go_wp2
      go_ret
      obtain ⟨⟨v', N', L', rs', h1, h2, h3, h5⟩, _, h4, h6⟩ := HTr.out
      exact ⟨rfl, ⟨v', N', L', rs', h1, h2, h3, behind1 HFF.out HT2.out h5⟩, HB2.out.trans h4, behind2 HFF.out HT2.out h6⟩
  · rw [← HNN.out] at e1
    subst e1
    have hn3 : NN ≤ 3000 := by rw [HNN.out]; exact HLB.out
    go_wp2_with fail
    go_loopw [15] (fun iv wr => ∃ j : Nat, j ≤ NN ∧ iv = .int .i64 j ∧ Hid (∃ m, m.length = NN ∧ TwoP FF B w.heap.size w2 bn bm rn most N (t + (host.size + NN)) (.slice (some ⟨g, 0, none⟩) NN cap) m wr)) (fun iv _ => NN - (intOf iv).toNat)
    case atStart => exact ⟨0, Nat.zero_le _, rfl, Lib.hid ⟨l, HNN.out.symm, HP.out⟩⟩
    case round =>
      obtain ⟨j, hj, rfl, HQr⟩ := hrel
      obtain ⟨m, hm, hq⟩ := HQr.out
      have hj0 : (0 : Int) ≤ (j : Int) := by omega
      by_cases hlt : j < NN
      · have hlt' : (j : Int) < (NN : Int) := by omega
        obtain ⟨cb, hcb, hfb⟩ := hq.byte rfl j (by omega)
        have hup := up_byte cb
        have HN := Lib.hid (show ∃ m, m.length = NN ∧ TwoP FF B w.heap.size w2 bn bm rn most N (t + (host.size + NN)) (.slice (some ⟨g, 0, none⟩) NN cap) m _ from ⟨m.set j (cb + 1), by simpa using hm, hq.bump HWB.out rfl j (cb + 1)⟩)
        clear hm hq
        go_wp2
        go_roundw
        case rel => exact ⟨j + 1, by omega, by go_num, HN⟩
        case measure => simp [intOf] <;> omega
      · have hge : decide ((j : Int) < (NN : Int)) = false := by rw [decide_eq_false_iff_not]; omega
        obtain ⟨⟨v', N', L', rs', h1, h2, h3, h5⟩, _, h4, h6⟩ := hq
        have HX5 := Lib.hid (behind1 HFF.out HT2.out h5)
        have HX6 := Lib.hid (behind2 HFF.out HT2.out h6)
        have HX1 := Lib.hid h1
        have HX2 := Lib.hid h2
        have HX3 := Lib.hid h3
        have HX4 := Lib.hid h4
        clear h1 h2 h3 h4 h5 h6 hm
        go_wp2
        go_ret
        exact ⟨rfl, ⟨v', N', L', rs', HX1.out, HX2.out, HX3.out, HX5.out⟩, HB2.out.trans HX4.out, HX6.out⟩
end Go.Proofs.Ytlelemjmknbnaaa
