/- do: an act, done by both. -/
import Derived.Test.YtlelemjmknbnaaaDoKa
import Derived.Test.YtlelemjmknbnaaaDoKb
import Derived.Test.YtlelemjmknbnaaaDoKc
import Derived.Test.YtlelemjmknbnaaaDoKd
import Derived.Test.YtlelemjmknbnaaaDoKe
import Derived.Test.YtlelemjmknbnaaaDoKf
import Derived.Deep.RegionLaw
import Derived.Lib.BufferRead
namespace Go.Proofs.Ytlelemjmknbnaaa
open Go.RowKit

set_option maxRecDepth 100000 in
set_option maxHeartbeats 8000000 in
theorem do_other {B : Nat} {w : World} {bn bm rn : Nat} {v : Value} {most : Int} {N t : Nat} {L : List NE} {rs : List Rc} (h : Two B w bn bm rn v most N L rs) (hB : B ≤ w.heap.size) (hN : N ≤ 900) (hs : SmallR t rs) (ht : t ≤ 10000) (kd k : Int) (k1 : ¬ kd = 1) (k2 : ¬ kd = 2) (k3 : ¬ kd = 3) (k4 : ¬ kd = 4) (k5 : ¬ kd = 5) (k6 : ¬ kd = 6) (k7 : ¬ kd = 7) (k8 : ¬ kd = 8) (k9 : ¬ kd = 9) (hk : (Lit.int .i64 k).wf = true) (host : ByteArray) (hh : host.size ≤ 3000) (A : Option Addr) (l : List UInt8) (c : Nat) (hr : BReads w B A l) (hc : A = none → c = 0) (hlen : l.length ≤ 3000) :
    Calls Try.prog 8 #[.pointer (some ⟨bn, 0, none⟩), .pointer (some ⟨rn, 0, none⟩), .agg #[.int .i64 kd, .int .i64 k, .string host, .slice A l.length c]] w fun e w' =>
      e = .returned (.bool true) ∧ (∃ v' N' L' rs', Two B w' bn bm rn v' most N' L' rs' ∧ N' ≤ N + 1 ∧ SmallR (t + (host.size + l.length)) rs' ∧ ∀ i ∈ footT bn bm rn v' L', i ∈ footT bn bm rn v L ∨ w.heap.size ≤ i) ∧ Below B w w' ∧ Turns (footT bn bm rn v L) w w' := by
  have HR0 := Lib.hid hr
  have HRB := Lib.hid (hr.below (below_alloc hB (.cells #[.int .i64 kd, .int .i64 k, .string host, .slice A l.length c] 32)))
  have HCC := Lib.hid hc
  have HLN := Lib.hid (show ([] : List UInt8).length + l.length ≤ 1000000 by simp; omega)
  have H := Lib.hid h
  have HK := Lib.hid hk
  have HL := Lib.hid (show rs.length ≤ 1000 from Nat.le_trans h.doc.len (by omega))
  have HS := Lib.hid hs
  have HWB := Lib.hid hB
  have HNB := Lib.hid hN
  have HTB := Lib.hid ht
  have HHB := Lib.hid hh
  have HLB := Lib.hid hlen
  obtain ⟨NN, hNN⟩ : ∃ NN, NN = l.length := ⟨_, rfl⟩
  rw [← hNN] at HRB ⊢
  have HNN := Lib.hid hNN
  clear h hr hc hlen hk hNN hB hN hs ht hh
  go_enter Try.func8, Try.ntmps8
  go_upto_block 0 with (at_builtin; refine wpList_append_bytesT rfl (.const (.slice none 0 0)) (.tmp 17) rfl w.heap.size (.slice none 0 0) [] rfl (World.ownsRow_nil _ _ _ _) B A l c (by rw [← HNN.out]; rfl) HRB.out HCC.out HLN.out (by simp) ?_; intro v2 w2 hown2 ht2 hl2; have HT2 := Lib.hid (show Turns [] w w2 from (Turns.alloc (F := []) _ _).trans (ht2.mono (G := []) (by simp [ownB, Value.ownBlock])) (by simp)); have hbx := (ht2.block w.heap.size (by simp) (by simp [ownB, Value.ownBlock])).trans (heap_alloc_new w (.cells #[.int .i64 kd, .int .i64 k, .string host, .slice A NN c] 32)); have HBX := Lib.hid hbx; have b0 : w2.cell? ⟨w.heap.size, 0, none⟩ = some (.int .i64 kd) := (by simp [World.cell?, hbx]); have HO2 := Lib.hid hown2; have HL2 := Lib.hid hl2; clear hown2 ht2 hl2 hbx)
  have HOW := Lib.hid (show Owned w.heap.size w2 v2 l from HO2.out)
  obtain ⟨FF, hFF⟩ : ∃ FF, FF = ownB v2 ++ footT bn bm rn v L := ⟨_, rfl⟩
  have HF := Lib.hid (show FreeF FF w2.heap.size bn bm rn v v2 L from ⟨H.out.start (b := 0) HOW.out, fun i hi => .inl (by rw [hFF]; exact List.mem_append.2 (.inr hi)), fun i hi => by rw [hFF]; exact List.mem_append.2 (.inl hi)⟩)
  have HFF := Lib.hid (show ∀ i ∈ FF, i ∈ footT bn bm rn v L ∨ w.heap.size ≤ i from fun i hi => by
    rw [hFF] at hi
    rcases List.mem_append.1 hi with h9 | h9
    · exact .inr (HOW.out.foot i h9).1
    · exact .inl h9)
  clear hFF
  have H2 := Lib.hid (H.out.kept HT2.out)
  have HSZ := Lib.hid HT2.out.size
  have HPN := Lib.hid (show w.heap.size ∉ bn :: bm :: footL L from fun hm => Nat.lt_irrefl _ (H.out.net.lt _ hm).2)
  have HWB2 := Lib.hid (Nat.le_trans HWB.out HSZ.out)
  have HR2 := Lib.hid (show BReads w2 B A l from HR0.out.below (HT2.out.below (by simp) HWB.out))
  clear HO2 HL2 H
  go_cut [8] (fun v8 wx => ∃ w3, w3 = wx ∧ v8 = .bool true ∧ Hid (TwoP FF B w.heap.size w2 bn bm rn most N (t + (host.size + NN)) v2 l wx))
  case first =>
    have e1 : (kd == 1) = false := by rw [beq_eq_false_iff_ne]; assumption
    have e2 : (kd == 2) = false := by rw [beq_eq_false_iff_ne]; assumption
    have e3 : (kd == 3) = false := by rw [beq_eq_false_iff_ne]; assumption
    have e4 : (kd == 4) = false := by rw [beq_eq_false_iff_ne]; assumption
    have e5 : (kd == 5) = false := by rw [beq_eq_false_iff_ne]; assumption
    have e6 : (kd == 6) = false := by rw [beq_eq_false_iff_ne]; assumption
    have e7 : (kd == 7) = false := by rw [beq_eq_false_iff_ne]; assumption
    have e8 : (kd == 8) = false := by rw [beq_eq_false_iff_ne]; assumption
    have e9 : (kd == 9) = false := by rw [beq_eq_false_iff_ne]; assumption
    clear k1 k2 k3 k4 k5 k6 k7 k8 k9
    go_wp2_with fail
    go_meet
    exact ⟨_, rfl, rfl, Lib.hid (show TwoP FF B w.heap.size w2 bn bm rn most N (t + (host.size + NN)) v2 l _ from ⟨⟨_, _, _, _, H2.out, Nat.le_succ _, HS.out.mono (by omega), HF.out⟩, HOW.out, Below.refl _ _, Turns.refl _ _⟩)⟩
  case rest =>
  obtain ⟨w3, -, rfl, HP⟩ := hcut
  have HB2 := Lib.hid (show Below B w w2 from HT2.out.below (by simp) HWB.out)
  rcases HOW.out.form with ⟨e1, e2⟩ | ⟨g, cap, e1, _⟩
  · have e3 : NN = 0 := by rw [HNN.out, e2]; rfl
    subst e1 e3
    go_wp2_with fail
    go_loopw [15] (fun iv wr => iv = .int .i64 0 ∧ Hid (TwoP FF B w.heap.size w2 bn bm rn most N (t + (host.size + 0)) (.slice none 0 0) l wr)) (fun _ _ => 0)
    case atStart => exact ⟨rfl, HP⟩
    case round =>
      obtain ⟨rfl, HTr⟩ := hrel
      go_wp2
      go_ret
      obtain ⟨⟨v', N', L', rs', h1, h2, h3, h5⟩, _, h4, h6⟩ := HTr.out
      exact ⟨rfl, ⟨v', N', L', rs', h1, h2, h3, behind1 HFF.out HT2.out h5⟩, HB2.out.trans h4, behind2 HFF.out HT2.out h6⟩
  · rw [← HNN.out] at e1
    subst e1
    have hn3 : NN ≤ 3000 := by rw [HNN.out]; exact HLB.out
    go_wp2_with fail
    go_loopw [15] (fun iv wr => ∃ j : Nat, j ≤ NN ∧ iv = .int .i64 j ∧ Hid (∃ m, m.length = NN ∧ TwoP FF B w.heap.size w2 bn bm rn most N (t + (host.size + NN)) (.slice (some ⟨g, 0, none⟩) NN cap) m wr)) (fun iv _ => NN - (intOf iv).toNat)
    case atStart => exact ⟨0, Nat.zero_le _, rfl, Lib.hid ⟨l, HNN.out.symm, HP.out⟩⟩
    case round =>
      obtain ⟨j, hj, rfl, HQr⟩ := hrel
      obtain ⟨m, hm, hq⟩ := HQr.out
      have hj0 : (0 : Int) ≤ (j : Int) := by omega
      by_cases hlt : j < NN
      · have hlt' : (j : Int) < (NN : Int) := by omega
        obtain ⟨cb, hcb, hfb⟩ := hq.byte rfl j (by omega)
        have hup := up_byte cb
        have HN := Lib.hid (show ∃ m, m.length = NN ∧ TwoP FF B w.heap.size w2 bn bm rn most N (t + (host.size + NN)) (.slice (some ⟨g, 0, none⟩) NN cap) m _ from ⟨m.set j (cb + 1), by simpa using hm, hq.bump HWB.out rfl j (cb + 1)⟩)
        clear hm hq
        go_wp2
        go_roundw
        case rel => exact ⟨j + 1, by omega, by go_num, HN⟩
        case measure => simp [intOf] <;> omega
      · have hge : decide ((j : Int) < (NN : Int)) = false := by rw [decide_eq_false_iff_not]; omega
        obtain ⟨⟨v', N', L', rs', h1, h2, h3, h5⟩, _, h4, h6⟩ := hq
        have HX5 := Lib.hid (behind1 HFF.out HT2.out h5)
        have HX6 := Lib.hid (behind2 HFF.out HT2.out h6)
        have HX1 := Lib.hid h1
        have HX2 := Lib.hid h2
        have HX3 := Lib.hid h3
        have HX4 := Lib.hid h4
        clear h1 h2 h3 h4 h5 h6 hm
        go_wp2
        go_ret
        exact ⟨rfl, ⟨v', N', L', rs', HX1.out, HX2.out, HX3.out, HX5.out⟩, HB2.out.trans HX4.out, HX6.out⟩
set_option maxRecDepth 100000 in
set_option maxHeartbeats 8000000 in
theorem do_any {B : Nat} {w : World} {bn bm rn : Nat} {v : Value} {most : Int} {N t : Nat} {L : List NE} {rs : List Rc} (h : Two B w bn bm rn v most N L rs) (hB : B ≤ w.heap.size) (hN : N ≤ 900) (hs : SmallR t rs) (ht : t ≤ 10000) (kd k : Int) (hk : (Lit.int .i64 k).wf = true) (host : ByteArray) (hh : host.size ≤ 3000) (A : Option Addr) (l : List UInt8) (c : Nat) (hr : BReads w B A l) (hc : A = none → c = 0) (hlen : l.length ≤ 3000) :
    Calls Try.prog 8 #[.pointer (some ⟨bn, 0, none⟩), .pointer (some ⟨rn, 0, none⟩), .agg #[.int .i64 kd, .int .i64 k, .string host, .slice A l.length c]] w fun e w' =>
      e = .returned (.bool true) ∧ (∃ v' N' L' rs', Two B w' bn bm rn v' most N' L' rs' ∧ N' ≤ N + 1 ∧ SmallR (t + (host.size + l.length)) rs' ∧ ∀ i ∈ footT bn bm rn v' L', i ∈ footT bn bm rn v L ∨ w.heap.size ≤ i) ∧ Below B w w' ∧ Turns (footT bn bm rn v L) w w' := by
  by_cases k1 : kd = 1
  · subst k1; exact do_dial h hB hN hs ht k hk host hh A l c hr hc hlen
  by_cases k2 : kd = 2
  · subst k2; exact do_accept h hB hN hs ht k hk host hh A l c hr hc hlen
  by_cases k3 : kd = 3
  · subst k3; exact do_refuse h hB hN hs ht k hk host hh A l c hr hc hlen
  by_cases k4 : kd = 4
  · subst k4; exact do_reset h hB hN hs ht k hk host hh A l c hr hc hlen
  by_cases k5 : kd = 5
  · subst k5; exact do_end h hB hN hs ht k hk host hh A l c hr hc hlen
  by_cases k6 : kd = 6
  · subst k6; exact do_arrive h hB hN hs ht k hk host hh A l c hr hc hlen
  by_cases k7 : kd = 7
  · subst k7; exact do_send h hB hN hs ht k hk host hh A l c hr hc hlen
  by_cases k8 : kd = 8
  · subst k8; exact do_read h hB hN hs ht k hk host hh A l c hr hc hlen
  by_cases k9 : kd = 9
  · subst k9; exact do_close h hB hN hs ht k hk host hh A l c hr hc hlen
  exact do_other h hB hN hs ht kd k k1 k2 k3 k4 k5 k6 k7 k8 k9 hk host hh A l c hr hc hlen
end Go.Proofs.Ytlelemjmknbnaaa
