/- The program's reach, walked. -/
import Derived.Test.YtaepgcicgmbbeaaWhReach
import Derived.Test.YtaepgcicgmbbeaaWhSort0
import Derived.Test.YtaepgcicgmbbeaaWhSet
namespace Go.Proofs.Ytaepgcicgmbbeaa
open Go.RowKit

theorem wrapS {i : Nat} (h : i < 100000) : wrap64 ((i : Int) + 1) = ((i + 1 : Nat) : Int) := by simp [wrap64]; omega
theorem measS {n j : Nat} (h : j < n) (e : wrap64 ((j : Int) + 1) = ((j + 1 : Nat) : Int)) : n - (intOf (.int .i64 (wrap64 ((j : Int) + 1)))).toNat < n - (intOf (.int .i64 (j : Int))).toNat := by
  rw [e]
  show n - ((j + 1 : Nat) : Int).toNat < n - (j : Int).toNat
  rw [Int.toNat_natCast, Int.toNat_natCast]
  omega
def ReachP (w : World) (l : List Fi) (e : Ending) (w' : World) : Prop :=
  ∃ v, e = .returned v ∧ fK.Own w.heap.size w' v l ∧ Turns [] w w'
set_option maxRecDepth 100000 in
set_option maxHeartbeats 8000000 in
theorem reach_laid {B : Nat} {w : World} {bw : Nat} {T : Int} {L : List Fi} {F : List Nat} {bs bp : Nat} {S : Sl} {P : Pc} (h : Laid B w bw T L F bs bp S P) (hbw : bw < w.heap.size) (hok : WOk T L) (tu : Int) (hT : T ≤ tu) (hw : tu ≤ 9223372036854775807) (hL : L.length ≤ 1000) :
    Calls Try.prog 27 #[.pointer (some ⟨bw, 0, none⟩), .int .i64 tu] w (ReachP w (dueL tu L)) := by
  have htw : -9223372036854775808 ≤ tu ∧ tu ≤ 9223372036854775807 := by have := hok.now; omega
  obtain ⟨W0, hW0⟩ : ∃ W0, W0 = w.alloc (.cells #[.int .i64 tu] 2) := ⟨_, rfl⟩
  have t0 : Turns [] w W0 := by rw [hW0]; exact Turns.alloc _ _
  have h0 : Laid B W0 bw T L F bs bp S P := h.turns t0 (by simp)
  have hb0 : W0.cell? ⟨w.heap.size, 0, none⟩ = some (.int .i64 tu) := by rw [hW0]; simp
  have hb1 : w.heap.size < W0.heap.size := by rw [hW0]; simp
  have HPO := Lib.hid (fun W => partOf_any tu htw W)
  have HPA := Lib.hid (parts_laid h0 (Nat.lt_of_lt_of_le hbw t0.size) hok (part tu) (by unfold part; omega) (by unfold part; omega) hL)
  have H0 := Lib.hid h0
  have HOK := Lib.hid hok
  have HL := Lib.hid hL
  have HT0 := Lib.hid t0
  clear h hok hL t0 h0 hT hw htw
  go_enter Try.func27, Try.ntmps27
  go_wp2_with fail
  rw [← hW0]
  clear hW0
  refine (HPO.out _).mono ?_
  rintro e w1 ⟨rfl, rfl⟩
  go_wp2_with fail
  refine (Hid.out HPA).mono ?_
  rintro e W1 ⟨vp, ps, rfl, a1, a2, a3, a4⟩
  have HA1 := Lib.hid a1
  have HA2 := Lib.hid a2
  have HA3 := Lib.hid a3
  have HA4 := Lib.hid a4
  obtain ⟨Ap, cp, rfl, hrd, -⟩ := a1.reads
  have HRD := Lib.hid hrd
  clear a1 a2 a3 a4 hrd
  go_wp2
  go_loopw [6, 17] (fun u v wr => ∃ j : Nat, v = .int .i64 (j : Int) ∧ j ≤ ps.length ∧ Hid (fK.Own W1.heap.size wr u (gath S tu (ps.take j)) ∧ Turns [] W1 wr)) (fun _ v _ => ps.length - (intOf v).toNat)
  case atStart => exact ⟨0, rfl, Nat.zero_le _, Lib.hid ⟨EK.Own.nil _ _ (Nat.zero_le _), Turns.refl _ _⟩⟩
  case round =>
    obtain ⟨j, rfl, hj, HQ⟩ := hrel
    by_cases hlt : j < ps.length
    · obtain ⟨p, hp⟩ : ∃ p, ps[j]? = some p := ⟨_, List.getElem?_eq_getElem hlt⟩
      have hpS := ((HA3.out p).1 (List.mem_of_getElem? hp)).1
      obtain ⟨q, hq⟩ := Option.isSome_iff_exists.1 hpS
      obtain ⟨v, l⟩ := q
      obtain ⟨g, cap, rfl, _, hg2, _, _, _, _, _, _, hcell, _⟩ := H0.out.form hq
      obtain ⟨b2, o2, hAp, hb2, hc2⟩ := HRD.out.at pOk (by omega)
      subst hAp
      have tq := HQ.out.2
      have t1 : Turns [] W0 wr := HA4.out.then tq
      have f1 := (tq.cell hb2 (by simp) _).trans (hc2 j p hp 0 _ rfl)
      have hlk := (H0.out.slots.elim fun n hs => (hs.turns t1 (by simp)).lookup keyL Try.underlying2 Try.underlying47 sread_inj (zeroS wr) (zd := .agg [.lit (.int .i64 0), .lit (.int .i64 0)]) (zp := []) rfl (x := p) (wfI (by
        have h1 := H0.out.some_of hq
        obtain ⟨x, hx, rfl⟩ := List.mem_map.1 h1
        exact part_wf (hpOf HOK.out x hx))))
      rw [hq] at hlk
      simp only [Option.map_some, Option.getD_some] at hlk
      have hbw0 := Nat.lt_of_lt_of_le hbw HT0.out.size
      have c1 := (t1.cell hbw0 (by simp) 1).trans H0.out.cells.2.1
      have f2 : (j : Int) < (ps.length : Int) := by omega
      have f3 : (0 : Int) ≤ (j : Int) := by omega
      have f1' : wr.cell? ⟨b2, o2 + j, none⟩ = some (.int .i64 p) := by simpa [pK] using f1
      have HCL := Lib.hid hcell
      have HG2 := Lib.hid hg2
      have HQQ := Lib.hid hq
      have HPP := Lib.hid hp
      have HJL := Lib.hid hlt
      have HC2 := Lib.hid hc2
      have HAT : S.at_ p = l := by unfold Sl.at_; rw [hq]
      have HATT := Lib.hid HAT
      clear f1 hpS hcell hg2 hq hp tq t1 hc2 HAT
      go_wp2
      have HWJ := Lib.hid (wrapS (i := j) (by have := parts_len H0.out HA2.out (fun p hp => ((HA3.out p).1 hp).1); have := HL.out; have := HJL.out; omega))
      have HU := Lib.hid hb0
      have HB1 := Lib.hid hb1
      have HA1S := Lib.hid HA4.out.size
      have HST := Lib.hid (show gath S tu (ps.take (j + 1)) = gath S tu (ps.take j) ++ l.filter (fun x => decide (x.2 ≤ tu)) by
        rw [List.take_add_one, HPP.out]
        show gath S tu (ps.take j ++ [p]) = _
        rw [gath_snoc, HATT.out])
      have HBD := Lib.hid (show ∀ i, (gath S tu (ps.take j) ++ (l.take i).filter (fun x => decide (x.2 ≤ tu))).length ≤ 2000 from fun i => by
        have h1 : (gath S tu (ps.take j)).length ≤ L.length := gath_len H0.out HOK.out.ids tu (HA2.out.sublist (List.take_sublist _ _))
        have h2 : ((l.take i).filter (fun x => decide (x.2 ≤ tu))).length ≤ l.length := Nat.le_trans (List.length_filter_le _ _) (by simp; omega)
        have h3 := H0.out.len_le HQQ.out
        have := HL.out
        rw [List.length_append]
        omega)
      clear hlk c1 f1' f2 f3 hb0 hb1 HPA HPO hb2
      rename World => wo
      go_loopw [6, 28] (fun u v wr => ∃ i : Nat, v = .int .i64 (i : Int) ∧ i ≤ l.length ∧ Hid (fK.Own W1.heap.size wr u (gath S tu (ps.take j) ++ (l.take i).filter (fun x => decide (x.2 ≤ tu))) ∧ Turns [] W1 wr)) (fun _ v _ => l.length - (intOf v).toNat)
      case atStart => exact ⟨0, rfl, Nat.zero_le _, by simpa using HQ⟩
      case round =>
        obtain ⟨i, rfl, hi, HR⟩ := hrel
        by_cases hil : i < l.length
        · obtain ⟨x, hx⟩ : ∃ x, l[i]? = some x := ⟨_, List.getElem?_eq_getElem hil⟩
          have t1 : Turns [] W0 wr := HA4.out.then HR.out.2
          have d0 := (t1.cell HG2.out (by simp) (i * 2)).trans (HCL.out i x hx).1
          have d1 := (t1.cell HG2.out (by simp) (i * 2 + 1)).trans (HCL.out i x hx).2
          have HDU := Lib.hid (fun C => due_any x tu w.heap.size (wr.alloc C) (((t1.then (Turns.alloc (F := []) wr C)).cell HB1.out (by simp) 0).trans HU.out) (Nat.lt_of_lt_of_le HB1.out (t1.then (Turns.alloc (F := []) wr C)).size))
          have f2 : (i : Int) < (l.length : Int) := by omega
          have f3 : (0 : Int) ≤ (i : Int) := by omega
          have HFX := Lib.hid (show (l.take (i + 1)) = l.take i ++ [x] by rw [List.take_add_one, hx]; rfl)
          have HIL := Lib.hid hil
          have HWI := Lib.hid (wrapS (i := i) (by have := H0.out.len_le HQQ.out; have := HL.out; omega))
          have hbd := HBD.out i
          clear t1 hx hil
          by_cases hdue : x.2 ≤ tu
          · have hdd : decide (x.2 ≤ tu) = true := by simpa using hdue
            have HLE := Lib.hid (show (gath S tu (ps.take j) ++ (l.take i).filter (fun x => decide (x.2 ≤ tu))).length + [x].length ≤ 100000 by simp only [List.length_singleton]; omega)
            have HOW := Lib.hid (fun C D E => show fK.Own W1.heap.size (((wr.alloc C).alloc D).alloc E) u6 (gath S tu (ps.take j) ++ (l.take i).filter (fun x => decide (x.2 ≤ tu))) from ((HR.out.1.alloc C).alloc D).alloc E)
            have HTW := Lib.hid (fun C D E => show Turns [] W1 (((wr.alloc C).alloc D).alloc E) from ((HR.out.2.then (Turns.alloc (F := []) wr C)).then (Turns.alloc (F := []) _ D)).then (Turns.alloc (F := []) _ E))
            have HBS := Lib.hid (fun C D E => (HTW.out C D E).size)
            have HRL := Lib.hid (fun C D => show fK.Reads (((wr.alloc C).alloc D).alloc (.cells #[.int .i64 x.1, .int .i64 x.2] 44)) (wr.heap.size + 1 + 1 + 1) (some ⟨wr.heap.size + 1 + 1, 0, none⟩) [x] from EK.Reads.lone fOk (W := (wr.alloc C).alloc D) x _ _ rfl (by simp))
            have HFI : Hid ((l.take (i + 1)).filter (fun x => decide (x.2 ≤ tu)) = (l.take i).filter (fun x => decide (x.2 ≤ tu)) ++ [x]) := Lib.hid (by rw [HFX.out, List.filter_append]; simp [hdue])
            obtain ⟨G0, hG0⟩ : ∃ G0, G0 = gath S tu (ps.take j) ++ (l.take i).filter (fun x => decide (x.2 ≤ tu)) := ⟨_, rfl⟩
            rw [← hG0] at HLE HOW
            have HGG := Lib.hid hG0
            rw [hdd] at HDU
            clear hdue hbd hG0
            go_wp2_with (first | (go_at_call 32; refine (HDU.out _).mono ?_; rintro e w2 ⟨rfl, rfl⟩) | (at_builtin; refine EK.wpList_append fOk rfl (.tmp 35) (.tmp 37) rfl W1.heap.size u6 G0 rfl (HOW.out _ _ _) (wr.heap.size + 1 + 1 + 1) (some ⟨wr.heap.size + 1 + 1, 0, none⟩) [x] 1 1 rfl rfl (HRL.out _ _) (by simp) HLE.out (HBS.out _ _ _) ?_; intro v2 w2 ho2 ht2 hv2; have HO2 := Lib.hid ho2; have HT2 := Lib.hid ht2; clear ho2 ht2 hv2))
            go_roundw
            case rel =>
              refine ⟨i + 1, congrArg (Value.int .i64) HWI.out, HIL.out, Lib.hid ⟨?_, (HTW.out _ _ _).trans HT2.out fun k hk => .inr (HR.out.1.foot k hk).1⟩⟩
              rw [HFI.out, ← List.append_assoc, ← HGG.out]
              exact HO2.out
            case measure => exact measS HIL.out HWI.out
          · have hdd : decide (x.2 ≤ tu) = false := by simpa using hdue
            rw [hdd] at HDU
            have HFI : Hid ((l.take (i + 1)).filter (fun x => decide (x.2 ≤ tu)) = (l.take i).filter (fun x => decide (x.2 ≤ tu))) := Lib.hid (by rw [HFX.out, List.filter_append]; simp [hdue])
            clear hdue hbd
            go_wp2_with (go_at_call 32; refine (HDU.out _).mono ?_; rintro e w2 ⟨rfl, rfl⟩)
            go_roundw
            case rel =>
              refine ⟨i + 1, congrArg (Value.int .i64) HWI.out, HIL.out, Lib.hid ⟨?_, (HR.out.2.then (Turns.alloc (F := []) wr _)).then (Turns.alloc (F := []) _ _)⟩⟩
              rw [HFI.out]
              exact (HR.out.1.alloc _).alloc _
            case measure => exact measS HIL.out HWI.out
        · have hge : decide ((i : Int) < (l.length : Int)) = false := by simp; omega
          have hie : i = l.length := by omega
          subst hie
          clear hil
          go_wp2
          go_roundw
          case rel =>
            refine ⟨j + 1, congrArg (Value.int .i64) HWJ.out, HJL.out, Lib.hid ⟨?_, HR.out.2⟩⟩
            rw [HST.out]
            have := HR.out.1
            rwa [List.take_length] at this
          case measure => exact measS HJL.out HWJ.out
    · have hge : decide ((j : Int) < (ps.length : Int)) = false := by simp; omega
      have hje : j = ps.length := by omega
      subst hje
      have HE : Hid (fK.Own W1.heap.size wr u6 (gath S tu ps) ∧ Turns [] W1 wr) := Lib.hid (by have := HQ.out; rwa [List.take_length] at this)
      by_cases h0 : gath S tu ps = []
      · have hform : u6 = .slice none 0 0 ∨ ∃ g cap, u6 = .slice (some ⟨g, 0, none⟩) 0 cap := by
          rcases HE.out.1.form with ⟨e, _⟩ | ⟨g, cap, e, _⟩
          · exact .inl e
          · rw [h0] at e
            exact .inr ⟨g, cap, e⟩
        have HD0 := Lib.hid (show dueL tu L = [] from by
          have := gath_due H0.out HOK.out tu HA3.out (l' := []) (by rw [h0]) List.Pairwise.nil
          exact this.symm)
        have hown : fK.Own W1.heap.size wr u6 [] := by have := HE.out.1; rwa [h0] at this
        have HWN := Lib.hid hown
        have HSN := Lib.hid (fun A cap => sort_none0 A cap (.func (.func 31) #[] #[]) wr)
        clear h0 hown
        rcases hform with rfl | ⟨g, cap, rfl⟩
        all_goals
          go_wp2_with fail
          refine (HSN.out _ _).mono ?_
          rintro e w2 ⟨rfl, rfl⟩
          go_wp2
          go_ret
          have hsz := Nat.le_trans HT0.out.size HA4.out.size
          exact ⟨_, rfl, by rw [HD0.out]; exact EK.Own.low HWN.out hsz, HT0.out.then (HA4.out.then HE.out.2)⟩
      · have HSO := Lib.hid (sort_any u6 (gath S tu ps) wr (by have := gath_len H0.out HOK.out.ids tu HA2.out; have := HL.out; omega) HE.out.1 (gath_ids H0.out HOK.out.ids tu HA2.out) h0)
        clear h0
        go_wp2_with fail
        refine (Hid.out HSO).mono ?_
        rintro e w2 ⟨rfl, l', b1, b2', b3, b4⟩
        have HB1' := Lib.hid b1
        have HB2' := Lib.hid b2'
        have HB3' := Lib.hid b3
        have HB4' := Lib.hid b4
        clear b1 b2' b3 b4
        go_wp2
        go_ret
        have e := gath_due H0.out HOK.out tu HA3.out HB1'.out HB2'.out
        subst e
        have hsz := Nat.le_trans HT0.out.size HA4.out.size
        exact ⟨_, rfl, EK.Own.low HB3'.out hsz, (HT0.out.then (HA4.out.then HE.out.2)).trans HB4'.out fun k hk => .inr (Nat.le_trans hsz (HE.out.1.foot k hk).1)⟩
set_option maxRecDepth 100000 in
set_option maxHeartbeats 2000000 in
theorem reach_nil {w : World} {bw : Nat} {T : Int} (h3 : w.heap[bw]? = some (.cells #[.int .i64 T, .map none, .map none] 50 (0, 0))) (hbw : bw < w.heap.size) (hn : -9223372036854775808 ≤ T ∧ T ≤ 9223372036854775807) (tu : Int) (hT : T ≤ tu) (hw : tu ≤ 9223372036854775807) :
    Calls Try.prog 27 #[.pointer (some ⟨bw, 0, none⟩), .int .i64 tu] w (ReachP w []) := by
  obtain ⟨W0, hW0⟩ : ∃ W0, W0 = w.alloc (.cells #[.int .i64 tu] 2) := ⟨_, rfl⟩
  have t0 : Turns [] w W0 := by rw [hW0]; exact Turns.alloc _ _
  have HPO := Lib.hid (fun W => partOf_any tu (by omega) W)
  have HPA := Lib.hid (parts_nil ((t0.block bw hbw (by simp)).trans h3) hn (part tu) (by unfold part; omega) (by unfold part; omega))
  have HSN := Lib.hid (fun W => sort_none0 none 0 (.func (.func 31) #[] #[]) W)
  have HT0 := Lib.hid t0
  clear t0 h3 hT hw hn
  go_enter Try.func27, Try.ntmps27
  go_wp2_with fail
  rw [← hW0]
  clear hW0
  refine (HPO.out _).mono ?_
  rintro e w1 ⟨rfl, rfl⟩
  go_wp2_with fail
  refine (Hid.out HPA).mono ?_
  rintro e W1 ⟨rfl, ht⟩
  have HTT := Lib.hid ht
  clear ht
  go_wp2
  refine wp_loop_rounds 1 ?_
  rw [rounds_succ]
  go_wp2_with fail
  refine (HSN.out _).mono ?_
  rintro e w2 ⟨rfl, rfl⟩
  go_wp2
  go_ret
  exact ⟨_, rfl, EK.Own.nil _ _ (Nat.zero_le _), HT0.out.then HTT.out⟩
theorem reach_any {B : Nat} {w : World} {bw : Nat} {T : Int} {L : List Fi} {F : List Nat} (h : WhAt B w bw T L F) (hok : WOk T L) (tu : Int) (hT : T ≤ tu) (hw : tu ≤ 9223372036854775807) (hL : L.length ≤ 1000) :
    Calls Try.prog 27 #[.pointer (some ⟨bw, 0, none⟩), .int .i64 tu] w (ReachP w (dueL tu L)) := by
  have hbw := h.cells.2.2
  rcases h.2.2 with ⟨h3, rfl⟩ | ⟨bs, bp, S, P, h3⟩
  · exact reach_nil h3 hbw hok.now tu hT hw
  · exact reach_laid h3 hbw hok tu hT hw hL
end Go.Proofs.Ytaepgcicgmbbeaa
