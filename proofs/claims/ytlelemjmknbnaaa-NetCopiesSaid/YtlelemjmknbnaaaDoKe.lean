/- do: an act, done by both. -/
import Derived.Test.YtlelemjmknbnaaaDoMore
import Derived.Deep.RegionLaw
import Derived.Lib.BufferRead
namespace Go.Proofs.Ytlelemjmknbnaaa
open Go.RowKit

set_option maxRecDepth 100000 in
set_option maxHeartbeats 8000000 in
theorem do_close {B : Nat} {w : World} {bn bm rn : Nat} {v : Value} {most : Int} {N t : Nat} {L : List NE} {rs : List Rc} (h : Two B w bn bm rn v most N L rs) (hB : B ≤ w.heap.size) (hN : N ≤ 900) (hs : SmallR t rs) (ht : t ≤ 10000) (k : Int) (hk : (Lit.int .i64 k).wf = true) (host : ByteArray) (hh : host.size ≤ 3000) (A : Option Addr) (l : List UInt8) (c : Nat) (hr : BReads w B A l) (hc : A = none → c = 0) (hlen : l.length ≤ 3000) :
    Calls Try.prog 8 #[.pointer (some ⟨bn, 0, none⟩), .pointer (some ⟨rn, 0, none⟩), .agg #[.int .i64 9, .int .i64 k, .string host, .slice A l.length c]] w fun e w' =>
      e = .returned (.bool true) ∧ (∃ v' N' L' rs', Two B w' bn bm rn v' most N' L' rs' ∧ N' ≤ N + 1 ∧ SmallR (t + (host.size + l.length)) rs' ∧ ∀ i ∈ footT bn bm rn v' L', i ∈ footT bn bm rn v L ∨ w.heap.size ≤ i) ∧ Below B w w' ∧ Turns (footT bn bm rn v L) w w' := by
  have HR0 := Lib.hid hr
  have HRB := Lib.hid (hr.below (below_alloc hB (.cells #[.int .i64 9, .int .i64 k, .string host, .slice A l.length c] 32)))
  have HCC := Lib.hid hc
  have HLN := Lib.hid (show ([] : List UInt8).length + l.length ≤ 1000000 by simp; omega)
  have H := Lib.hid h
  have HK := Lib.hid hk
  have HL := Lib.hid (show rs.length ≤ 1000 from Nat.le_trans h.doc.len (by omega))
  have HS := Lib.hid hs
  have HWB := Lib.hid hB
  have HNB := Lib.hid hN
  have HTB := Lib.hid ht
  have HHB := Lib.hid hh
  have HLB := Lib.hid hlen
  obtain ⟨NN, hNN⟩ : ∃ NN, NN = l.length := ⟨_, rfl⟩
  rw [← hNN] at HRB ⊢
  have HNN := Lib.hid hNN
  clear h hr hc hlen hk hNN hB hN hs ht hh
  go_enter Try.func8, Try.ntmps8
  go_upto_block 0 with (at_builtin; refine wpList_append_bytesT rfl (.const (.slice none 0 0)) (.tmp 17) rfl w.heap.size (.slice none 0 0) [] rfl (World.ownsRow_nil _ _ _ _) B A l c (by rw [← HNN.out]; rfl) HRB.out HCC.out HLN.out (by simp) ?_; intro v2 w2 hown2 ht2 hl2; have HT2 := Lib.hid (show Turns [] w w2 from (Turns.alloc (F := []) _ _).trans (ht2.mono (G := []) (by simp [ownB, Value.ownBlock])) (by simp)); have hbx := (ht2.block w.heap.size (by simp) (by simp [ownB, Value.ownBlock])).trans (heap_alloc_new w (.cells #[.int .i64 9, .int .i64 k, .string host, .slice A NN c] 32)); have HBX := Lib.hid hbx; have b0 : w2.cell? ⟨w.heap.size, 0, none⟩ = some (.int .i64 9) := (by simp [World.cell?, hbx]); have HO2 := Lib.hid hown2; have HL2 := Lib.hid hl2; clear hown2 ht2 hl2 hbx)
  have HOW := Lib.hid (show Owned w.heap.size w2 v2 l from HO2.out)
  obtain ⟨FF, hFF⟩ : ∃ FF, FF = ownB v2 ++ footT bn bm rn v L := ⟨_, rfl⟩
  have HF := Lib.hid (show FreeF FF w2.heap.size bn bm rn v v2 L from ⟨H.out.start (b := 0) HOW.out, fun i hi => .inl (by rw [hFF]; exact List.mem_append.2 (.inr hi)), fun i hi => by rw [hFF]; exact List.mem_append.2 (.inl hi)⟩)
  have HFF := Lib.hid (show ∀ i ∈ FF, i ∈ footT bn bm rn v L ∨ w.heap.size ≤ i from fun i hi => by
    rw [hFF] at hi
    rcases List.mem_append.1 hi with h9 | h9
    · exact .inr (HOW.out.foot i h9).1
    · exact .inl h9)
  clear hFF
  have H2 := Lib.hid (H.out.kept HT2.out)
  have HSZ := Lib.hid HT2.out.size
  have HPN := Lib.hid (show w.heap.size ∉ bn :: bm :: footL L from fun hm => Nat.lt_irrefl _ (H.out.net.lt _ hm).2)
  have HWB2 := Lib.hid (Nat.le_trans HWB.out HSZ.out)
  have HR2 := Lib.hid (show BReads w2 B A l from HR0.out.below (HT2.out.below (by simp) HWB.out))
  clear HO2 HL2 H
  go_cut [8] (fun v8 wx => ∃ w3, w3 = wx ∧ v8 = .bool true ∧ Hid (TwoP FF B w.heap.size w2 bn bm rn most N (t + (host.size + NN)) v2 l wx))
  case first =>
    · skip
      obtain ⟨cc, F, hA, hD⟩ := pair_close H2.out HL.out k HK.out
      have HA := Lib.hid hA
      have HD := Lib.hid hD
      have HBK : Hid (∀ W w3 e, Turns [] w2 W → NPost B W bn bm most (N : Int) L cc (F (L.map Prod.fst)) e w3 → w3.cell? ⟨w.heap.size, 1, none⟩ = some (.int .i64 k) ∧ w3.cell? ⟨w.heap.size, 3, none⟩ = some (.slice A NN c)) := Lib.hid (fun W w3 e ht hp => by
        have hb := npost_block HBX.out HPN.out ht hp
        simp [World.cell?, hb])
      have b1 : w2.cell? ⟨w.heap.size, 1, none⟩ = some (.int .i64 k) := by simp [World.cell?, HBX.out]
      have b3 : w2.cell? ⟨w.heap.size, 3, none⟩ = some (.slice A NN c) := by simp [World.cell?, HBX.out]
      have hcc : (cc == cc) = true := beq_self_eq_true _
      clear hA hD
      go_wp2_with fail
      go_region_law (first | (go_simp; go_at_call 30; refine (HA.out _ (by first | exact Turns.refl _ _ | exact (Turns.refl _ _).drew)).mono ?_; rintro e w3 hp1; have HP1 := Lib.hid hp1; obtain ⟨rfl, -, -⟩ := hp1; have p1 := (HBK.out _ _ _ (by first | exact Turns.refl _ _ | exact (Turns.refl _ _).drew) HP1.out).1; have p3 := (HBK.out _ _ _ (by first | exact Turns.refl _ _ | exact (Turns.refl _ _).drew) HP1.out).2) | (go_simp; go_at_call 31; refine (HD.out _ _ _ _ (by first | exact Turns.refl _ _ | exact (Turns.refl _ _).drew) HP1.out (by first | exact Turns.refl _ _ | exact (Turns.refl _ _).drew)).mono ?_; rintro e w4 hp2; have HP2 := Lib.hid hp2; obtain ⟨rfl, -, -⟩ := hp2))
      all_goals
        go_wp2_with fail
        go_meet
        exact ⟨_, rfl, rfl, Lib.hid (H2.out.done HOW.out HF.out HS.out HWB2.out (by first | exact Turns.refl _ _ | exact (Turns.refl _ _).drew) HP1.out (by first | exact Turns.refl _ _ | exact (Turns.refl _ _).drew) HP2.out (by first | omega | (rw [HNN.out]; omega)))⟩
  case rest =>
  obtain ⟨w3, -, rfl, HP⟩ := hcut
  have HB2 := Lib.hid (show Below B w w2 from HT2.out.below (by simp) HWB.out)
  rcases HOW.out.form with ⟨e1, e2⟩ | ⟨g, cap, e1, _⟩
  · have e3 : NN = 0 := by rw [HNN.out, e2]; rfl
    subst e1 e3
    go_wp2_with fail
    go_loopw [15] (fun iv wr => iv = .int .i64 0 ∧ Hid (TwoP FF B w.heap.size w2 bn bm rn most N (t + (host.size + 0)) (.slice none 0 0) l wr)) (fun _ _ => 0)
    case atStart => exact ⟨rfl, HP⟩
    case round =>
      obtain ⟨rfl, HTr⟩ := hrel
      go_wp2
      go_ret
      obtain ⟨⟨v', N', L', rs', h1, h2, h3, h5⟩, _, h4, h6⟩ := HTr.out
      exact ⟨rfl, ⟨v', N', L', rs', h1, h2, h3, behind1 HFF.out HT2.out h5⟩, HB2.out.trans h4, behind2 HFF.out HT2.out h6⟩
  · rw [← HNN.out] at e1
    subst e1
    have hn3 : NN ≤ 3000 := by rw [HNN.out]; exact HLB.out
    go_wp2_with fail
    go_loopw [15] (fun iv wr => ∃ j : Nat, j ≤ NN ∧ iv = .int .i64 j ∧ Hid (∃ m, m.length = NN ∧ TwoP FF B w.heap.size w2 bn bm rn most N (t + (host.size + NN)) (.slice (some ⟨g, 0, none⟩) NN cap) m wr)) (fun iv _ => NN - (intOf iv).toNat)
    case atStart => exact ⟨0, Nat.zero_le _, rfl, Lib.hid ⟨l, HNN.out.symm, HP.out⟩⟩
    case round =>
      obtain ⟨j, hj, rfl, HQr⟩ := hrel
      obtain ⟨m, hm, hq⟩ := HQr.out
      have hj0 : (0 : Int) ≤ (j : Int) := by omega
      by_cases hlt : j < NN
      · have hlt' : (j : Int) < (NN : Int) := by omega
        obtain ⟨cb, hcb, hfb⟩ := hq.byte rfl j (by omega)
        have hup := up_byte cb
        have HN := Lib.hid (show ∃ m, m.length = NN ∧ TwoP FF B w.heap.size w2 bn bm rn most N (t + (host.size + NN)) (.slice (some ⟨g, 0, none⟩) NN cap) m _ from ⟨m.set j (cb + 1), by simpa using hm, hq.bump HWB.out rfl j (cb + 1)⟩)
        clear hm hq
        go_wp2
        go_roundw
        case rel => exact ⟨j + 1, by omega, by go_num, HN⟩
        case measure => simp [intOf] <;> omega
      · have hge : decide ((j : Int) < (NN : Int)) = false := by rw [decide_eq_false_iff_not]; omega
        obtain ⟨⟨v', N', L', rs', h1, h2, h3, h5⟩, _, h4, h6⟩ := hq
        have HX5 := Lib.hid (behind1 HFF.out HT2.out h5)
        have HX6 := Lib.hid (behind2 HFF.out HT2.out h6)
        have HX1 := Lib.hid h1
        have HX2 := Lib.hid h2
        have HX3 := Lib.hid h3
        have HX4 := Lib.hid h4
        clear h1 h2 h3 h4 h5 h6 hm
        go_wp2
        go_ret
        exact ⟨rfl, ⟨v', N', L', rs', HX1.out, HX2.out, HX3.out, HX5.out⟩, HB2.out.trans HX4.out, HX6.out⟩

set_option maxRecDepth 100000 in
set_option maxHeartbeats 8000000 in
theorem do_dial {B : Nat} {w : World} {bn bm rn : Nat} {v : Value} {most : Int} {N t : Nat} {L : List NE} {rs : List Rc} (h : Two B w bn bm rn v most N L rs) (hB : B ≤ w.heap.size) (hN : N ≤ 900) (hs : SmallR t rs) (ht : t ≤ 10000) (k : Int) (hk : (Lit.int .i64 k).wf = true) (host : ByteArray) (hh : host.size ≤ 3000) (A : Option Addr) (l : List UInt8) (c : Nat) (hr : BReads w B A l) (hc : A = none → c = 0) (hlen : l.length ≤ 3000) :
    Calls Try.prog 8 #[.pointer (some ⟨bn, 0, none⟩), .pointer (some ⟨rn, 0, none⟩), .agg #[.int .i64 1, .int .i64 k, .string host, .slice A l.length c]] w fun e w' =>
      e = .returned (.bool true) ∧ (∃ v' N' L' rs', Two B w' bn bm rn v' most N' L' rs' ∧ N' ≤ N + 1 ∧ SmallR (t + (host.size + l.length)) rs' ∧ ∀ i ∈ footT bn bm rn v' L', i ∈ footT bn bm rn v L ∨ w.heap.size ≤ i) ∧ Below B w w' ∧ Turns (footT bn bm rn v L) w w' := by
  have HR0 := Lib.hid hr
  have HRB := Lib.hid (hr.below (below_alloc hB (.cells #[.int .i64 1, .int .i64 k, .string host, .slice A l.length c] 32)))
  have HCC := Lib.hid hc
  have HLN := Lib.hid (show ([] : List UInt8).length + l.length ≤ 1000000 by simp; omega)
  have H := Lib.hid h
  have HK := Lib.hid hk
  have HL := Lib.hid (show rs.length ≤ 1000 from Nat.le_trans h.doc.len (by omega))
  have HS := Lib.hid hs
  have HWB := Lib.hid hB
  have HNB := Lib.hid hN
  have HTB := Lib.hid ht
  have HHB := Lib.hid hh
  have HLB := Lib.hid hlen
  obtain ⟨NN, hNN⟩ : ∃ NN, NN = l.length := ⟨_, rfl⟩
  rw [← hNN] at HRB ⊢
  have HNN := Lib.hid hNN
  clear h hr hc hlen hk hNN hB hN hs ht hh
  go_enter Try.func8, Try.ntmps8
  go_upto_block 0 with (at_builtin; refine wpList_append_bytesT rfl (.const (.slice none 0 0)) (.tmp 17) rfl w.heap.size (.slice none 0 0) [] rfl (World.ownsRow_nil _ _ _ _) B A l c (by rw [← HNN.out]; rfl) HRB.out HCC.out HLN.out (by simp) ?_; intro v2 w2 hown2 ht2 hl2; have HT2 := Lib.hid (show Turns [] w w2 from (Turns.alloc (F := []) _ _).trans (ht2.mono (G := []) (by simp [ownB, Value.ownBlock])) (by simp)); have hbx := (ht2.block w.heap.size (by simp) (by simp [ownB, Value.ownBlock])).trans (heap_alloc_new w (.cells #[.int .i64 1, .int .i64 k, .string host, .slice A NN c] 32)); have HBX := Lib.hid hbx; have b0 : w2.cell? ⟨w.heap.size, 0, none⟩ = some (.int .i64 1) := (by simp [World.cell?, hbx]); have HO2 := Lib.hid hown2; have HL2 := Lib.hid hl2; clear hown2 ht2 hl2 hbx)
  have HOW := Lib.hid (show Owned w.heap.size w2 v2 l from HO2.out)
  obtain ⟨FF, hFF⟩ : ∃ FF, FF = ownB v2 ++ footT bn bm rn v L := ⟨_, rfl⟩
  have HF := Lib.hid (show FreeF FF w2.heap.size bn bm rn v v2 L from ⟨H.out.start (b := 0) HOW.out, fun i hi => .inl (by rw [hFF]; exact List.mem_append.2 (.inr hi)), fun i hi => by rw [hFF]; exact List.mem_append.2 (.inl hi)⟩)
  have HFF := Lib.hid (show ∀ i ∈ FF, i ∈ footT bn bm rn v L ∨ w.heap.size ≤ i from fun i hi => by
    rw [hFF] at hi
    rcases List.mem_append.1 hi with h9 | h9
    · exact .inr (HOW.out.foot i h9).1
    · exact .inl h9)
  clear hFF
  have H2 := Lib.hid (H.out.kept HT2.out)
  have HSZ := Lib.hid HT2.out.size
  have HPN := Lib.hid (show w.heap.size ∉ bn :: bm :: footL L from fun hm => Nat.lt_irrefl _ (H.out.net.lt _ hm).2)
  have HWB2 := Lib.hid (Nat.le_trans HWB.out HSZ.out)
  have HR2 := Lib.hid (show BReads w2 B A l from HR0.out.below (HT2.out.below (by simp) HWB.out))
  clear HO2 HL2 H
  go_cut [8] (fun v8 wx => ∃ w3, w3 = wx ∧ v8 = .bool true ∧ Hid (TwoP FF B w.heap.size w2 bn bm rn most N (t + (host.size + NN)) v2 l wx))
  case first =>
    · skip
      have b2 : w2.cell? ⟨w.heap.size, 2, none⟩ = some (.string host) := by simp [World.cell?, HBX.out]
      by_cases hd : (L.length : Int) < most
      · have HA := Lib.hid (dial_ok H2.out.net host (by have := HHB.out; omega) (by have := HNB.out; omega) hd)
        have HD0 : Hid ((rs.length : Int) < most) := Lib.hid (by rw [← H2.out.link.len]; exact hd)
        have hnn : (((N : Int) + 1) == ((N : Int) + 1)) = true := beq_self_eq_true _
        clear hd
        go_wp2_with fail
        refine (Hid.out HA).mono ?_
        rintro e w3 ⟨rfl, ⟨nb, hnb, hn3⟩, t3⟩
        have HD := Lib.hid (rdial_ok (H2.out.docAt t3 (by simp)) host (by have := HNB.out; omega) HD0.out HL.out)
        have hb3 := (t3.block _ (lt_of_block HBX.out) (fun hm => HPN.out (by simp at hm ⊢; rcases hm with h9 | h9 <;> simp [h9]))).trans HBX.out
        have p2 : w3.cell? ⟨w.heap.size, 2, none⟩ = some (.string host) := by simp [World.cell?, hb3]
        have HN3 := Lib.hid hn3
        have HT3 := Lib.hid t3
        have HNB3 := Lib.hid hnb
        clear hn3 t3 hnb hb3
        go_wp2_with fail
        refine (Hid.out HD).mono ?_
        rintro e w4 ⟨rfl, ⟨v4, hd4, hv4⟩, t4⟩
        have HX := Lib.hid (H2.out.dialled HD0.out HOW.out HF.out HS.out HWB2.out HNB3.out (fun i hi => Nat.le_trans HT3.out.size (hv4 i hi)) HN3.out HT3.out hd4 t4 (t' := t + (host.size + NN)) (by rw [Lib.size_eq]; omega))
        clear hd4 t4 hv4
        go_wp2_with fail
        go_meet
        exact ⟨_, rfl, rfl, HX⟩
      · have HA := Lib.hid (dial_full H2.out.net host (by omega))
        have HD0 : Hid (most ≤ (rs.length : Int)) := Lib.hid (by rw [← H2.out.link.len]; omega)
        clear hd
        go_wp2_with fail
        refine (Hid.out HA).mono ?_
        rintro e w3 ⟨rfl, t3⟩
        have HT3 := Lib.hid t3
        have HD := Lib.hid (rdial_full (H2.out.kept t3).doc host HD0.out)
        have hb3 := (t3.block _ (lt_of_block HBX.out) (by simp)).trans HBX.out
        have p2 : w3.cell? ⟨w.heap.size, 2, none⟩ = some (.string host) := by simp [World.cell?, hb3]
        clear t3 hb3
        go_wp2_with fail
        refine (Hid.out HD).mono ?_
        rintro e w4 ⟨rfl, t4⟩
        have HX := Lib.hid (show TwoP FF B w.heap.size w2 bn bm rn most N (t + (host.size + NN)) v2 l w4 from
          ⟨⟨_, _, _, _, (H2.out.kept HT3.out).kept t4, Nat.le_succ _, HS.out.mono (by omega), HF.out⟩, (HOW.out.turns HT3.out (by simp)).turns t4 (by simp), (HT3.out.below (by simp) HWB2.out).trans (t4.below (by simp) (Nat.le_trans HWB2.out HT3.out.size)), (HT3.out.mono (by simp)).trans t4 (by simp)⟩)
        clear t4
        go_wp2_with fail
        go_meet
        exact ⟨_, rfl, rfl, HX⟩
  case rest =>
  obtain ⟨w3, -, rfl, HP⟩ := hcut
  have HB2 := Lib.hid (show Below B w w2 from HT2.out.below (by simp) HWB.out)
  rcases HOW.out.form with ⟨e1, e2⟩ | ⟨g, cap, e1, _⟩
  · have e3 : NN = 0 := by rw [HNN.out, e2]; rfl
    subst e1 e3
    go_wp2_with fail
    go_loopw [15] (fun iv wr => iv = .int .i64 0 ∧ Hid (TwoP FF B w.heap.size w2 bn bm rn most N (t + (host.size + 0)) (.slice none 0 0) l wr)) (fun _ _ => 0)
    case atStart => exact ⟨rfl, HP⟩
    case round =>
      obtain ⟨rfl, HTr⟩ := hrel
      go_wp2
      go_ret
      obtain ⟨⟨v', N', L', rs', h1, h2, h3, h5⟩, _, h4, h6⟩ := HTr.out
      exact ⟨rfl, ⟨v', N', L', rs', h1, h2, h3, behind1 HFF.out HT2.out h5⟩, HB2.out.trans h4, behind2 HFF.out HT2.out h6⟩
  · rw [← HNN.out] at e1
    subst e1
    have hn3 : NN ≤ 3000 := by rw [HNN.out]; exact HLB.out
    go_wp2_with fail
    go_loopw [15] (fun iv wr => ∃ j : Nat, j ≤ NN ∧ iv = .int .i64 j ∧ Hid (∃ m, m.length = NN ∧ TwoP FF B w.heap.size w2 bn bm rn most N (t + (host.size + NN)) (.slice (some ⟨g, 0, none⟩) NN cap) m wr)) (fun iv _ => NN - (intOf iv).toNat)
    case atStart => exact ⟨0, Nat.zero_le _, rfl, Lib.hid ⟨l, HNN.out.symm, HP.out⟩⟩
    case round =>
      obtain ⟨j, hj, rfl, HQr⟩ := hrel
      obtain ⟨m, hm, hq⟩ := HQr.out
      have hj0 : (0 : Int) ≤ (j : Int) := by omega
      by_cases hlt : j < NN
      · have hlt' : (j : Int) < (NN : Int) := by omega
        obtain ⟨cb, hcb, hfb⟩ := hq.byte rfl j (by omega)
        have hup := up_byte cb
        have HN := Lib.hid (show ∃ m, m.length = NN ∧ TwoP FF B w.heap.size w2 bn bm rn most N (t + (host.size + NN)) (.slice (some ⟨g, 0, none⟩) NN cap) m _ from ⟨m.set j (cb + 1), by simpa using hm, hq.bump HWB.out rfl j (cb + 1)⟩)
        clear hm hq
        go_wp2
        go_roundw
        case rel => exact ⟨j + 1, by omega, by go_num, HN⟩
        case measure => simp [intOf] <;> omega
      · have hge : decide ((j : Int) < (NN : Int)) = false := by rw [decide_eq_false_iff_not]; omega
        obtain ⟨⟨v', N', L', rs', h1, h2, h3, h5⟩, _, h4, h6⟩ := hq
        have HX5 := Lib.hid (behind1 HFF.out HT2.out h5)
        have HX6 := Lib.hid (behind2 HFF.out HT2.out h6)
        have HX1 := Lib.hid h1
        have HX2 := Lib.hid h2
        have HX3 := Lib.hid h3
        have HX4 := Lib.hid h4
        clear h1 h2 h3 h4 h5 h6 hm
        go_wp2
        go_ret
        exact ⟨rfl, ⟨v', N', L', rs', HX1.out, HX2.out, HX3.out, HX5.out⟩, HB2.out.trans HX4.out, HX6.out⟩
end Go.Proofs.Ytlelemjmknbnaaa
