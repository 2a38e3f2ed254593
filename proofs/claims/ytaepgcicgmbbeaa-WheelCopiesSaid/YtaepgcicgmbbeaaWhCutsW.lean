/- WheelCuts, walked. -/
import Derived.Test.YtaepgcicgmbbeaaWhTwo
namespace Go.Proofs.Ytaepgcicgmbbeaa
open Go.RowKit

theorem wpList_append_all {α : Type} {K : EK α} {P : Program} (ok : K.Ok P) {w : World} {ops : Array Oper} {rest : List Oper} {o : Oper} {a : Act} {Q : Exit → Act → World → Prop} (hgd : o.guard = none) (s x : Operand)
    (ho : o.op = .call { callee := .builtin .append, args := #[s, x], argTypes := #[K.ts, K.ts] })
    (base : Nat) (v : Value) (l1 : List α) (hs : a.eval s = v) (hown : K.Own base w v l1)
    (B : Nat) (A : Option Addr) (l2 : List α) (n c : Nat) (hn : l2.length = n) (hx : a.eval x = .slice A n c) (hr : K.Reads w B A l2)
    (hlen : l1.length + l2.length ≤ 100000) (hbase : base ≤ w.heap.size)
    (h : ∀ v' w', K.Own base w' v' (l1 ++ l2) → Turns (ownB v) w w' → (∀ i ∈ ownB v', i ∈ ownB v ∨ i = w.heap.size) → wpList P ops Q rest (a.put o.dst v') w') : wpList P ops Q (o :: rest) a w :=
  wpList_plain hgd fun _ hK => EK.wp_append_all ok s x ho base v l1 hs hown B A l2 n c hn hx hr hlen hbase fun v' w' h1 h2 h3 => hK _ _ (h v' w' h1 h2 h3)
def Ints (l : List Fi) : Prop := ∀ x ∈ l, (-9223372036854775808 ≤ x.1 ∧ x.1 ≤ 9223372036854775807) ∧ (-9223372036854775808 ≤ x.2 ∧ x.2 ≤ 9223372036854775807)
def Fin (w : World) (e : Ending) (w' : World) : Prop := e = .returned (.bool true) ∧ Turns [] w w'
set_option maxRecDepth 100000 in
set_option maxHeartbeats 2000000 in
theorem cuts_early (A0 A1 : Option Addr) (c0 c1 : Nat) (n0 n1 : Nat) (tu : Int) (w : World) (h : 60 < n0 ∨ 40 < n1) :
    Calls Try.prog 5 #[.slice A0 n0 c0, .slice A1 n1 c1, .int .i64 tu] w (Fin w) := by
  have HK := Lib.hid (known_any w)
  by_cases h1 : 60 < n0
  · have e1 : decide ((60 : Int) < (n0 : Int)) = true := by simp; omega
    clear h h1
    go_enter Try.func5, Try.ntmps5
    go_wp2_with fail
    refine (Hid.out HK).mono ?_
    rintro e w1 ⟨rfl, t1⟩
    have HT := Lib.hid t1
    clear t1
    go_wp2
    go_ret
    exact ⟨rfl, HT.out⟩
  · have e1 : decide ((60 : Int) < (n0 : Int)) = false := by simp; omega
    have e2 : decide ((40 : Int) < (n1 : Int)) = true := by simp; omega
    clear h h1
    go_enter Try.func5, Try.ntmps5
    go_wp2_with fail
    refine (Hid.out HK).mono ?_
    rintro e w1 ⟨rfl, t1⟩
    have HT := Lib.hid t1
    clear t1
    go_wp2
    go_ret
    exact ⟨rfl, HT.out⟩
set_option maxRecDepth 100000 in
set_option maxHeartbeats 8000000 in
theorem cuts_main (A0 A1 : Option Addr) (c0 c1 : Nat) (l : List Fi) (cs : List Int) (tu : Int) (w : World) (hl : l.length ≤ 60) (hc : cs.length ≤ 40) (hr : fK.Reads w w.heap.size A0 l) (hrc : pK.Reads w w.heap.size A1 cs) (hi : Ints l) (hci : ∀ c ∈ cs, -9223372036854775808 ≤ c ∧ c ≤ 9223372036854775807) (htu : -9223372036854775808 ≤ tu ∧ tu ≤ 9223372036854775807) :
    Calls Try.prog 5 #[.slice A0 l.length c0, .slice A1 cs.length c1, .int .i64 tu] w (Fin w) := by
  have e1 : decide ((60 : Int) < (l.length : Int)) = false := by simp; omega
  have e2 : decide ((40 : Int) < (cs.length : Int)) = false := by simp; omega
  have HN := Lib.hid (lone_new (w := w) (W := w) 0 (Turns.refl _ _))
  have HR := Lib.hid hr
  have HRC := Lib.hid hrc
  have HI := Lib.hid hi
  have HCI := Lib.hid hci
  have HTU := Lib.hid htu
  have HLE := Lib.hid (And.intro hl hc)
  clear hl hc hr hrc hi hci htu
  go_enter Try.func5, Try.ntmps5
  go_wp2_with fail
  refine (Hid.out HN).mono ?_
  rintro e W1 ⟨rfl, h1⟩
  have H1 := Lib.hid h1
  clear h1 HN e1 e2
  go_wp2_with fail
  go_loopw [8] (fun u wr => ∃ k : Nat, u = .int .i64 (k : Int) ∧ k ≤ l.length ∧ Hid (∃ L, Lone w wr w.heap.size 0 L ∧ WOk 0 L ∧ L.length ≤ k)) (fun u _ => l.length - (intOf u).toNat)
  case atStart => exact ⟨0, rfl, Nat.zero_le _, Lib.hid ⟨[], H1.out, w0, Nat.le_refl _⟩⟩
  case round =>
    obtain ⟨k, rfl, hk, HQ⟩ := hrel
    obtain ⟨L, q1, q2, q3⟩ := HQ.out
    by_cases hlt : k < l.length
    · obtain ⟨x, hx⟩ : ∃ x, l[k]? = some x := ⟨_, List.getElem?_eq_getElem hlt⟩
      obtain ⟨b, o, rfl, hb, hcl⟩ := HR.out.at fOk (by omega)
      have d0 : wr.cell? ⟨b, o + k * 2, none⟩ = some (.int .i64 x.1) := (q1.turns.cell hb (by simp) _).trans (hcl k x hx 0 _ rfl)
      have d1 : wr.cell? ⟨b, o + k * 2 + 1, none⟩ = some (.int .i64 x.2) := (q1.turns.cell hb (by simp) _).trans (hcl k x hx 1 _ rfl)
      have hxi := HI.out x (List.mem_of_getElem? hx)
      have HST := Lib.hid (fun X (ht : Turns [] wr X) => lone_set (q1.pre ht) q2 x.1 x.2 hxi.1 hxi.2 (by have := HLE.out.1; omega))
      have HQ2 := Lib.hid (And.intro (q2.set (id := x.1) (at' := x.2) hxi.1) (Nat.le_trans (setL_len 0 L x.1 x.2) (Nat.succ_le_succ q3)))
      have HWK := Lib.hid (wrapS (i := k) (by have := HLE.out.1; omega))
      have HKL := Lib.hid hlt
      have f2 : (k : Int) < (l.length : Int) := by omega
      have f3 : (0 : Int) ≤ (k : Int) := by omega
      clear hx hcl hxi q1 q2 q3 hlt hb HQ
      go_wp2
      go_region_law (go_simp; go_at_call 15; refine (HST.out _ (by first | exact Turns.refl _ _ | exact (Turns.refl _ _).drew)).mono ?_; rintro e w3 ⟨rfl, hl3⟩; have HL3 := Lib.hid hl3; clear hl3)
      all_goals
        go_wp2
        go_roundw
        case rel => exact ⟨k + 1, congrArg (Value.int .i64) HWK.out, HKL.out, Lib.hid ⟨_, HL3.out, HQ2.out.1, HQ2.out.2⟩⟩
        case measure => exact measS HKL.out HWK.out
    · have hge : decide ((k : Int) < (l.length : Int)) = false := by simp; omega
      have hke : k = l.length := by omega
      subst hke
      have HC := Lib.hid (two_copy q1 q2 (by have := HLE.out.1; omega))
      have HOK := Lib.hid q2
      have HL60 := Lib.hid (show L.length ≤ 60 from Nat.le_trans q3 HLE.out.1)
      clear q1 q2 q3 HQ H1
      go_wp2_with fail
      refine (Hid.out HC).mono ?_
      rintro e W3 ⟨b2, F1, F2, rfl, h2⟩
      have HAD := Lib.hid (adv_any h2.2.1 HOK.out tu HTU.out (by have := HL60.out; omega))
      have HT2 := Lib.hid h2
      clear h2 HC
      go_wp2_with fail
      refine (Hid.out HAD).mono ?_
      rintro e W4 ⟨va, rfl, b1', b2', b3'⟩
      have HI0 : Hid (∃ F1 F2, CutI w W4 w.heap.size 0 L b2 (advL 0 L tu).2.1 (advL 0 L tu).2.2 va (advL 0 L tu).1 (.slice none 0 0) [] F1 F2) := Lib.hid (by
        have hs : w.heap.size ≤ W3.heap.size := HT2.out.2.2.2.size
        refine ⟨F1, F2, (HT2.out.swap.op b2' b3' fun _ h => .inl h).swap, EK.Own.low b1' hs, EK.Own.nil _ _ (Nat.zero_le _), fun i hi hm => ?_, fun i hi => by simp [ownB, Value.ownBlock] at hi, fun i hi => by simp [ownB, Value.ownBlock] at hi, fun i hi => by simp [ownB, Value.ownBlock] at hi⟩
        have := (b1'.foot i hi).1
        have := (HT2.out.1.1 i hm).2
        omega)
      obtain ⟨Av, cv, rfl, -⟩ := b1'.reads
      obtain ⟨D, hD⟩ : ∃ D, D = (advL 0 L tu).1 := ⟨_, rfl⟩
      rw [← hD] at HI0
      have HDD := Lib.hid hD
      rw [← hD]
      clear b1' b2' b3' HAD HT2 hD
      go_wp2
      have HLL := Lib.hid (show l.length ≤ 60 from HLE.out.1)
      obtain ⟨T2, hT2⟩ : ∃ T2, T2 = (advL 0 L tu).2.1 := ⟨_, rfl⟩
      obtain ⟨L2, hL2⟩ : ∃ L2, L2 = (advL 0 L tu).2.2 := ⟨_, rfl⟩
      rw [← hT2, ← hL2] at HI0
      have HT2 := Lib.hid hT2
      have HL2 := Lib.hid hL2
      clear hge hk hlt hT2 hL2
      generalize l.length = nn at *
      go_loopw [11, 12] (fun u v wr => ∃ k : Nat, v = .int .i64 (k : Int) ∧ k ≤ cs.length ∧ Hid (∃ F1 F2 T1 L1 G, CutI w wr w.heap.size T1 L1 b2 T2 L2 (.slice Av D.length cv) D u G F1 F2 ∧ CutA tu T1 L1 L G)) (fun _ v _ => cs.length - (intOf v).toNat)
      case atStart =>
        obtain ⟨F1, F2, h⟩ := HI0.out
        exact ⟨0, rfl, Nat.zero_le _, Lib.hid ⟨F1, F2, 0, L, [], h, CutA.start HOK.out⟩⟩
      case round =>
        obtain ⟨k, rfl, hk, HQ⟩ := hrel
        obtain ⟨F1, F2, T1, L1, G, q1, q2⟩ := HQ.out
        have htw := q1.two.2.2.2
        have hL1 : L1.length ≤ 60 := Nat.le_trans (q2.len1 HOK.out) HL60.out
        by_cases hlt : k < cs.length
        · obtain ⟨c, hc⟩ : ∃ c, cs[k]? = some c := ⟨_, List.getElem?_eq_getElem hlt⟩
          obtain ⟨b, o, rfl, hb, hcl⟩ := HRC.out.at pOk (by omega)
          have d0 : wr.cell? ⟨b, o + k, none⟩ = some (.int .i64 c) := by
            have := (htw.cell hb (by simp) _).trans (hcl k c hc 0 _ rfl)
            simpa [pK] using this
          have hci := HCI.out c (List.mem_of_getElem? hc)
          have HWK := Lib.hid (wrapS (i := k) (by have := HLE.out.2; omega))
          have HKL := Lib.hid hlt
          have f2 : (k : Int) < (cs.length : Int) := by omega
          have f3 : (0 : Int) ≤ (k : Int) := by omega
          have HQ1 := Lib.hid q1
          have HQ2 := Lib.hid q2
          have HAD := Lib.hid (adv_any q1.two.1 q2.ok c hci (by omega))
          have HCW := Lib.hid hci
          clear hc hcl hci hb htw hL1 hlt q1 q2 HQ HI0
          by_cases hct : c ≤ tu
          · have hcd : decide (c ≤ tu) = true := by simpa using hct
            have HCT := Lib.hid hct
            clear hct
            go_wp2_with fail
            refine (Hid.out HAD).mono ?_
            rintro e W5 hadv
            have HV := Lib.hid hadv
            obtain ⟨v2, rfl, ho2, -, -⟩ := hadv
            have hcut := HQ1.out.adv HV.out
            obtain ⟨A2, c2, rfl, hr2, -⟩ := ho2.reads
            have HC5 := Lib.hid hcut.1
            have HA5 := Lib.hid (HQ2.out.step HCT.out HCW.out)
            have HGO := Lib.hid hcut.1.got
            have HR2 := Lib.hid hr2
            have HSZ := Lib.hid (show w.heap.size ≤ W5.heap.size from hcut.1.two.2.2.2.size)
            have HLG := Lib.hid (show G.length + (advL T1 L1 c).1.length ≤ 100000 by
              have h1 := HA5.out.len
              rw [List.length_append] at h1
              have := HL60.out
              omega)
            clear ho2 hcut hr2 HAD HV
            obtain ⟨E, hE⟩ : ∃ E, E = (advL T1 L1 c).1 := ⟨_, rfl⟩
            rw [← hE] at HLG HR2 HA5 ⊢
            clear hE
            go_wp2_with (at_builtin; refine wpList_append_all fOk rfl (.tmp 58) (.tmp 64) rfl w.heap.size u11 G rfl HGO.out W5.heap.size A2 E E.length c2 rfl rfl HR2.out HLG.out HSZ.out ?_; intro v6 w6 ho6 ht6 hv6; have HO6 := Lib.hid ho6; have HT6 := Lib.hid ht6; have HV6 := Lib.hid hv6; clear ho6 ht6 hv6)
            go_roundw
            case rel => exact ⟨k + 1, congrArg (Value.int .i64) HWK.out, HKL.out, Lib.hid ⟨F1, F2, _, _, _, HC5.out.app HO6.out HT6.out HV6.out, HA5.out⟩⟩
            case measure => exact measS HKL.out HWK.out
          · have hcd : decide (c ≤ tu) = false := by simpa using hct
            clear hct
            go_wp2
            go_roundw
            case rel => exact ⟨k + 1, congrArg (Value.int .i64) HWK.out, HKL.out, Lib.hid ⟨F1, F2, T1, L1, G, HQ1.out, HQ2.out⟩⟩
            case measure => exact measS HKL.out HWK.out
        · have hge : decide ((k : Int) < (cs.length : Int)) = false := by simp; omega
          have hke : k = cs.length := by omega
          subst hke
          have HAD := Lib.hid (adv_any q1.two.1 q2.ok tu HTU.out (by omega))
          have HQ1 := Lib.hid q1
          have HQ2 := Lib.hid q2
          have HLA := Lib.hid (q2.last HOK.out HTU.out)
          clear htw hL1 q1 q2 HQ HI0
          go_wp2_with fail
          refine (Hid.out HAD).mono ?_
          rintro e W5 hadv
          have HV := Lib.hid hadv
          obtain ⟨v2, rfl, ho2, -, -⟩ := hadv
          have hcut := HQ1.out.adv HV.out
          obtain ⟨A2, c2, rfl, hr2, -⟩ := ho2.reads
          have HC5 := Lib.hid hcut.1
          have HGO := Lib.hid hcut.1.got
          have HR2 := Lib.hid hr2
          have HSZ := Lib.hid (show w.heap.size ≤ W5.heap.size from hcut.1.two.2.2.2.size)
          have HGD : Hid (G ++ (advL T1 L1 tu).1 = D) := Lib.hid (HLA.out.1.trans HDD.out.symm)
          have HDL : Hid (D.length ≤ 60) := Lib.hid (by
            rw [HDD.out]
            unfold advL
            split
            · simp
            · exact Nat.le_trans (List.length_filter_le _ _) HL60.out)
          have HOK' := Lib.hid (HQ2.out.ok.adv HTU.out)
          have HOK2 : Hid (WOk T2 L2) := Lib.hid (by rw [HT2.out, HL2.out]; exact HOK.out.adv HTU.out)
          have HEQ := Lib.hid (fun h : 0 ≤ tu => show (advL T1 L1 tu).2.1 = T2 ∧ (advL T1 L1 tu).2.2 = L2 from by rw [HT2.out, HL2.out]; exact HLA.out.2 h)
          have HL1' : Hid ((advL T1 L1 tu).2.2.length ≤ 1000) := Lib.hid (by
            have h1 := HQ2.out.len1 HOK.out
            have h2 : (advL T1 L1 tu).2.2.length ≤ L1.length := by
              unfold advL
              split
              · simp
              · exact List.length_filter_le _ _
            have := HL60.out
            omega)
          clear ho2 hcut hr2 HAD HV HLA
          generalize (advL T1 L1 tu).2.1 = T' at *
          generalize (advL T1 L1 tu).2.2 = L' at *
          generalize (advL T1 L1 tu).1 = E at *
          have HLG := Lib.hid (show G.length + E.length ≤ 100000 by
            have h1 := congrArg List.length HGD.out
            rw [List.length_append] at h1
            have := HDL.out
            omega)
          go_wp2_with (at_builtin; refine wpList_append_all fOk rfl (.tmp 66) (.tmp 69) rfl w.heap.size u11 G rfl HGO.out W5.heap.size A2 E E.length c2 rfl rfl HR2.out HLG.out HSZ.out ?_; intro v6 w6 ho6 ht6 hv6; have HO6 := Lib.hid ho6; have HT6 := Lib.hid ht6; have HV6 := Lib.hid hv6; clear ht6 hv6; obtain ⟨A6, c6, rfl, hr6, -⟩ := ho6.reads; have HR6 := Lib.hid hr6; clear ho6 hr6)
          have HC6 := Lib.hid (HC5.out.app HO6.out HT6.out HV6.out)
          have HRS : Hid (Calls Try.prog 14 #[.slice A6 (G.length + E.length) c6, .slice Av D.length cv] w6 fun e w' => e = .returned (.bool true) ∧ Turns [] w6 w') := Lib.hid (by
            have hd : D.length ≤ 2000 := by have := HDL.out; omega
            obtain ⟨A', c', e', hr', -⟩ := HC6.out.all.reads
            cases e'
            have h := rsame_any A6 Av c6 cv (G ++ E) D w6 (by rw [HGD.out]; exact hd) hd HR6.out hr'
            rw [decide_eq_true HGD.out, List.length_append] at h
            exact h)
          clear HR6 HO6 HT6 HV6 HC5 HGO HR2 HLG
          go_wp2_with fail
          refine (Hid.out HRS).mono ?_
          rintro e w7 ⟨rfl, t7⟩
          have HC7 := Lib.hid (HC6.out.pre t7)
          clear t7 HRS
          by_cases ht0 : tu < 0
          · have hd0 : decide (tu < 0) = true := by simpa using ht0
            have HK := Lib.hid (known_any w7)
            clear ht0
            go_wp2_with fail
            refine (Hid.out HK).mono ?_
            rintro e w8 ⟨rfl, t8⟩
            have HT8 := Lib.hid t8
            clear t8
            go_wp2
            go_ret
            exact ⟨rfl, HC7.out.two.2.2.2.then HT8.out⟩
          · have hd0 : decide (tu < 0) = false := by simpa using ht0
            obtain ⟨q3, q4⟩ := HEQ.out (by omega)
            have HSA : Hid (Calls Try.prog 13 #[.pointer (some ⟨w.heap.size, 0, none⟩), .pointer (some ⟨b2, 0, none⟩)] w7 fun e w' => e = .returned (.bool true) ∧ Turns [] w7 w') := Lib.hid (by
              have h := same_any HC7.out.two.1 HC7.out.two.2.1 HOK'.out HOK2.out HL1'.out
              rw [decide_eq_true ⟨q3, q4⟩] at h
              exact h)
            clear ht0 q3 q4 HEQ
            go_wp2_with fail
            refine (Hid.out HSA).mono ?_
            rintro e w8 ⟨rfl, t8⟩
            have HT8 := Lib.hid (HC7.out.two.2.2.2.then t8)
            have HK := Lib.hid (known_any w8)
            clear t8 HSA
            go_wp2_with fail
            refine (Hid.out HK).mono ?_
            rintro e w9 ⟨rfl, t9⟩
            have HT9 := Lib.hid t9
            clear t9
            go_wp2
            go_ret
            exact ⟨rfl, HT8.out.then HT9.out⟩
end Go.Proofs.Ytaepgcicgmbbeaa
