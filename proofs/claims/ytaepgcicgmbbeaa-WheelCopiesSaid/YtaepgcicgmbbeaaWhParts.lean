/- The program's parts. -/
import Derived.Test.YtaepgcicgmbbeaaWhGet
import Derived.Test.YtaepgcicgmbbeaaWhRange
namespace Go.Proofs.Ytaepgcicgmbbeaa
open Go.RowKit

/-- The parts of all slots up to a last one. -/
def PartsP (w : World) (S : Sl) (last : Int) (e : Ending) (w' : World) : Prop :=
  ∃ v ps, e = .returned v ∧ pK.Own w.heap.size w' v ps ∧ ps.Nodup ∧ (∀ p, p ∈ ps ↔ (S p).isSome = true ∧ p ≤ last) ∧ Turns [] w w'
theorem parts_len {B : Nat} {w : World} {bw : Nat} {T : Int} {L : List Fi} {F : List Nat} {bs bp : Nat} {S : Sl} {P : Pc} (h : Laid B w bw T L F bs bp S P) {ps : List Int} (hn : ps.Nodup) (hm : ∀ p ∈ ps, (S p).isSome = true) : ps.length ≤ L.length := by
  have := nodup_le hn (l' := L.map fun x => part x.2) fun p hp => by
    obtain ⟨q, hq⟩ := Option.isSome_iff_exists.1 (hm p hp)
    exact h.some_of (v := q.1) (l := q.2) hq
  rwa [List.length_map] at this
set_option maxRecDepth 100000 in
set_option maxHeartbeats 4000000 in
theorem partsA {B : Nat} {w : World} {bw : Nat} {T : Int} {L : List Fi} {F : List Nat} {bs bp : Nat} {S : Sl} {P : Pc} (h : Laid B w bw T L F bs bp S P) (hbw : bw < w.heap.size) (hT : -9223372036854775808 ≤ T ∧ T ≤ 9223372036854775807) (last : Int) (hl : part T ≤ last) (hl2 : last ≤ 144115188075855871) (hL : L.length ≤ 1000)
    {n : Nat} (hs : MapV 2 sread w bs (fun k => (S k).map (·.1)) n) (hge : (n : Int) ≤ last - part T) :
    Calls Try.prog 33 #[.pointer (some ⟨bw, 0, none⟩), .int .i64 last] w (PartsP w S last) := by
  have hpt : -144115188075855872 ≤ part T := by unfold part; omega
  have hsub : wrap64 (last - part T) = last - part T := by simp [wrap64]; omega
  have hd : decide ((n : Int) ≤ last - part T) = true := by simpa using hge
  obtain ⟨c0, c1, _, _⟩ := h.cells
  have HPO := Lib.hid (fun W => partOf_any T hT W)
  have hlen := fun ty => hs.len Try.underlying47 ty
  have HS := Lib.hid hs
  have H := Lib.hid h
  have HL := Lib.hid hL
  clear h hs hT hl hl2 hL hpt hge
  obtain ⟨f, hf⟩ : ∃ f : Int → Option Value, f = fun k => (S k).map (·.1) := ⟨_, rfl⟩
  have HF := Lib.hid (fun k => show (f k).isSome = (S k).isSome by rw [hf]; simp)
  rw [← hf] at HS
  have HPL := Lib.hid (fun (ps : List Int) (h1 : ps.Nodup) (h2 : ∀ p ∈ ps, (S p).isSome = true) => parts_len H.out h1 h2)
  clear hf
  go_enter Try.func33, Try.ntmps33
  go_wp2_with (first | (go_at_call 29; refine (HPO.out _).mono ?_; rintro e w' ⟨rfl, rfl⟩) | (at_range; refine wpList_range_v rfl _ 47 rfl 2 27 keyL Try.underlying47 sread bs n f rfl HS.out ?_; intro w0 hrg0 ht0 hs0))
  go_frame
  have HR0 := Lib.hid hrg0
  have HT0 := Lib.hid ht0
  have HS0 := Lib.hid hs0
  clear hrg0 ht0 hs0 hlen c0 c1 hsub hd
  go_loopw [5] (fun u wr => ∃ left cnt, RangeV 2 sread wr bs w.heap.size f left cnt ∧ Hid (∃ ps : List Int, pK.Own w.heap.size wr u ps ∧ ps.Nodup ∧ (∀ p, p ∈ ps ↔ (S p).isSome = true ∧ p ≤ last ∧ left p = false) ∧ Turns [] w wr)) (fun _ wr => wr.rangeLeft bs w.heap.size)
  case atStart => exact ⟨_, _, HR0.out, Lib.hid ⟨[], EK.Own.nil _ _ (Nat.zero_le _), List.nodup_nil, fun p => ⟨fun h => (by cases h), fun h => by have h2 := h.2.2; rw [HF.out, h.1] at h2; cases h2⟩, HT0.out⟩⟩
  case round =>
    obtain ⟨left, cnt, hrg, HQ⟩ := hrel
    have HRG := Lib.hid hrg
    clear hrg
    go_wp2_with (at_next; refine wpList_next_v rfl _ rfl 2 keyL Try.underlying2 sread sread_inj bs w.heap.size f left cnt rfl HRG.out ?_ ?_)
    · intro hl0
      have HL0 := Lib.hid hl0
      clear hl0
      go_wp2
      go_ret
      obtain ⟨ps, a1, a2, a3, a4⟩ := HQ.out
      exact ⟨_, ps, rfl, a1, a2, fun p => by rw [a3 p, HL0.out p]; simp, a4⟩
    · intro x v w1 cnt1 hwx hlx hfx hrg1 hlt hg1 hs1 hen
      have HR1 := Lib.hid hrg1
      have HG1 := Lib.hid hg1
      have HS1 := Lib.hid hs1
      have HLX := Lib.hid hlx
      have HFX := Lib.hid hfx
      have HLT := Lib.hid hlt
      clear hrg1 hg1 hs1 hlx hfx hlt hwx
      obtain ⟨ps, a1, a2, a3, a4⟩ := HQ.out
      have T1 : Turns [] w w1 := a4.trans HG1.out (fun i hi => .inr (by simp at hi; omega))
      have O1 : pK.Own w.heap.size w1 u5 ps := a1.turns HG1.out fun g hg hm => by
        simp at hm
        subst hm
        exact HRG.out.own_ne a1 (by unfold ownB; rw [hg]; simp)
      have hxS : (S x).isSome = true := by rw [← HF.out, HFX.out]; rfl
      by_cases hxl : x ≤ last
      · have hxp : x ∉ ps := fun hm => by have := ((a3 x).1 hm).2.2; rw [HLX.out] at this; cases this
        have hps : ps.length ≤ 1000 := Nat.le_trans (HPL.out ps a2 (fun p hp => ((a3 p).1 hp).1)) HL.out
        have HLE := Lib.hid (show ps.length + [x].length ≤ 100000 by simp; omega)
        have HOW := Lib.hid (fun C => show pK.Own w.heap.size (w1.alloc C) u5 ps from O1.alloc C)
        have HBS := Lib.hid (fun C => show w.heap.size ≤ (w1.alloc C).heap.size from Nat.le_trans T1.size (by simp))
        have HND := Lib.hid (And.intro a2 (And.intro a3 (And.intro T1 (And.intro O1 (And.intro hxp hxS)))))
        clear a1 a2 a3 a4 T1 O1 hxp hps HPL hxS
        go_wp2_with (at_builtin; refine EK.wpList_append pOk rfl (.tmp 35) (.tmp 37) rfl w.heap.size u5 ps rfl (HOW.out _) (w1.heap.size + 1) (some ⟨w1.heap.size, 0, none⟩) [x] 1 1 rfl rfl (EK.Reads.lone pOk (W := w1) x _ _ rfl rfl) (by simp) HLE.out (HBS.out _) ?_; intro v2 w2 ho2 ht2 hv2; have HO2 := Lib.hid ho2; have HT2 := Lib.hid ht2; clear ho2 ht2 hv2)
        go_roundw
        have hbsw : bs < w.heap.size := HS.out.lt
        obtain ⟨a2, a3, T1, O1, hxp, hxS⟩ := HND.out
        have hfo : ∀ i ∈ ownB u5, w.heap.size ≤ i := fun i hi => (O1.foot i hi).1
        have HR2 : RangeV 2 sread w2 bs w.heap.size f (fun y => left y && !decide (y = x)) cnt1 := (HR1.out.turns (Turns.alloc (F := []) w1 _) (by simp) (by simp)).turns HT2.out (fun hm => by have := hfo bs hm; omega) (HR1.out.own_ne O1)
        case rel =>
          refine ⟨_, cnt1, HR2, Lib.hid ⟨ps ++ [x], HO2.out, ?_, fun p => ?_, (T1.then (Turns.alloc (F := []) w1 _)).trans HT2.out fun i hi => .inr (hfo i hi)⟩⟩
          · rw [List.nodup_append]
            exact ⟨a2, by simp, fun a ha b hb e' => by simp at hb; subst hb; subst e'; exact hxp ha⟩
          · rw [List.mem_append, List.mem_singleton, a3 p]
            constructor
            · rintro (⟨h1, h2, h3⟩ | h1)
              · exact ⟨h1, h2, by simp [h3]⟩
              · subst h1
                exact ⟨hxS, hxl, by simp⟩
            · rintro ⟨h1, h2, h3⟩
              by_cases hpx : p = x
              · exact .inr hpx
              · simp [hpx] at h3
                exact .inl ⟨h1, h2, h3⟩
        case measure =>
          rw [(show RangeV 2 sread w2 bs w.heap.size f _ cnt1 from (HR1.out.turns (Turns.alloc (F := []) w1 _) (by simp) (by simp)).turns HT2.out (fun hm => by have := (HND.out.2.2.2.1.foot bs hm).1; have := HS.out.lt; omega) (HR1.out.own_ne HND.out.2.2.2.1)).left_eq, HRG.out.left_eq]
          exact HLT.out
      · have hxd : decide (x ≤ last) = false := by simpa using hxl
        have HND := Lib.hid (And.intro a2 (And.intro a3 (And.intro T1 O1)))
        clear a1 a2 a3 a4 T1 O1 HPL hxS
        go_wp2
        go_roundw
        case rel =>
          obtain ⟨a2, a3, T1, O1⟩ := HND.out
          refine ⟨_, cnt1, HR1.out, Lib.hid ⟨ps, O1, a2, fun p => ?_, T1⟩⟩
          rw [a3 p]
          constructor
          · rintro ⟨h1, h2, h3⟩
            exact ⟨h1, h2, by simp [h3]⟩
          · rintro ⟨h1, h2, h3⟩
            have hpx : p ≠ x := fun e => by subst e; omega
            simp [hpx] at h3
            exact ⟨h1, h2, h3⟩
        case measure =>
          rw [HR1.out.left_eq, HRG.out.left_eq]
          exact HLT.out
set_option maxRecDepth 100000 in
set_option maxHeartbeats 4000000 in
theorem partsB {B : Nat} {w : World} {bw : Nat} {T : Int} {L : List Fi} {F : List Nat} {bs bp : Nat} {S : Sl} {P : Pc} (h : Laid B w bw T L F bs bp S P) (hbw : bw < w.heap.size) (hT : -9223372036854775808 ≤ T ∧ T ≤ 9223372036854775807) (last : Int) (hl : part T ≤ last) (hl2 : last ≤ 144115188075855871) (hL : L.length ≤ 1000)
    (hlow : ∀ p, (S p).isSome = true → part T ≤ p) {n : Nat} (hs : MapV 2 sread w bs (fun k => (S k).map (·.1)) n) (hge : ¬ (n : Int) ≤ last - part T) :
    Calls Try.prog 33 #[.pointer (some ⟨bw, 0, none⟩), .int .i64 last] w (PartsP w S last) := by
  have hpt : -144115188075855872 ≤ part T := by unfold part; omega
  have hsub : wrap64 (last - part T) = last - part T := by simp [wrap64]; omega
  have hd : decide ((n : Int) ≤ last - part T) = false := by simpa using hge
  obtain ⟨c0, c1, _, _⟩ := h.cells
  have HPO := Lib.hid (fun W => partOf_any T hT W)
  have hlen := fun ty => hs.len Try.underlying47 ty
  have HS := Lib.hid hs
  have H := Lib.hid h
  have HL := Lib.hid hL
  have HLO := Lib.hid hlow
  have HL2 := Lib.hid hl2
  have HLL := Lib.hid hl
  have HPT := Lib.hid hpt
  have HPL := Lib.hid (fun (ps : List Int) (h1 : ps.Nodup) (h2 : ∀ p ∈ ps, (S p).isSome = true) => parts_len H.out h1 h2)
  clear h hs hT hl hl2 hL hpt hge hlow
  go_enter Try.func33, Try.ntmps33
  go_wp2_with (go_at_call 29; refine (HPO.out _).mono ?_; rintro e w' ⟨rfl, rfl⟩)
  clear hlen c0 hsub hd
  go_loopw [5, 8] (fun u v wr => ∃ j : Int, v = .int .i64 j ∧ Hid (part T ≤ j ∧ j ≤ last + 1) ∧ Hid (∃ ps : List Int, pK.Own w.heap.size wr u ps ∧ ps.Nodup ∧ (∀ p, p ∈ ps ↔ (S p).isSome = true ∧ p < j) ∧ Turns [] w wr)) (fun _ v _ => (last + 1 - intOf v).toNat)
  case atStart => exact ⟨_, rfl, Lib.hid ⟨by omega, by have := HLL.out; omega⟩, Lib.hid ⟨[], EK.Own.nil _ _ (Nat.zero_le _), List.nodup_nil, fun p => ⟨fun h => (by cases h), fun h => by have := HLO.out p h.1; omega⟩, Turns.refl _ _⟩⟩
  case round =>
    obtain ⟨j, rfl, HJ, HQ⟩ := hrel
    obtain ⟨ps, a1, a2, a3, a4⟩ := HQ.out
    by_cases hj : j ≤ last
    · have hwr : wrap64 (j + 1) = j + 1 := by have := HJ.out; have := HL2.out; have := HPT.out; simp [wrap64]; omega
      have hwj : (Lit.int .i64 j).wf = true := wfI (by have := HJ.out; have := HL2.out; have := HPT.out; omega)
      have hlk := (HS.out.turns a4 (by simp)).lookup keyL Try.underlying2 Try.underlying47 sread_inj (zeroS wr) (zd := .agg [.lit (.int .i64 0), .lit (.int .i64 0)]) (zp := []) rfl hwj
      have cb := (a4.cell hbw (by simp) 1).trans c1
      have hmeas : (last + 1 - (j + 1)).toNat < (last + 1 - j).toNat := by omega
      have HME := Lib.hid hmeas
      have HJ2 := Lib.hid (show part T ≤ j + 1 ∧ j + 1 ≤ last + 1 by have := HJ.out; omega)
      cases e : S j with
      | none =>
        rw [e] at hlk
        simp only [Option.map_none, Option.getD_none] at hlk
        have HND := Lib.hid (And.intro a1 (And.intro a2 (And.intro a3 a4)))
        have HE := Lib.hid e
        clear a1 a2 a3 a4 e HQ hmeas
        go_wp2
        go_roundw
        case rel =>
          refine ⟨j + 1, by first | rfl | rw [hwr], HJ2, Lib.hid ⟨ps, HND.out.1, HND.out.2.1, fun p => ?_, HND.out.2.2.2⟩⟩
          rw [HND.out.2.2.1 p]
          constructor
          · rintro ⟨h1, h2⟩
            exact ⟨h1, by omega⟩
          · rintro ⟨h1, h2⟩
            refine ⟨h1, ?_⟩
            have : p ≠ j := fun e => by subst e; rw [HE.out] at h1; cases h1
            omega
        case measure => simp [intOf, hwr]; have := HME.out; omega
      | some q =>
        obtain ⟨v, l⟩ := q
        obtain ⟨g, cap, rfl, _⟩ := H.out.form e
        have hne := (H.out.own _ _ _ e).2
        have hlp : 0 < l.length := List.length_pos_iff.2 hne
        have hlp2 : (0 : Int) < (l.length : Int) := by omega
        rw [e] at hlk
        simp only [Option.map_some, Option.getD_some] at hlk
        have hxp : j ∉ ps := fun hm => by have := ((a3 j).1 hm).2; omega
        have hps : ps.length ≤ 1000 := Nat.le_trans (HPL.out ps a2 (fun p hp => ((a3 p).1 hp).1)) HL.out
        have HLE := Lib.hid (show ps.length + [j].length ≤ 100000 by simp; omega)
        have HOW := Lib.hid (fun C => show pK.Own w.heap.size (wr.alloc C) u5 ps from a1.alloc C)
        have HBS := Lib.hid (fun C => show w.heap.size ≤ (wr.alloc C).heap.size from Nat.le_trans a4.size (by simp))
        have HND := Lib.hid (And.intro a2 (And.intro a3 (And.intro a4 (And.intro hxp (And.intro e a1)))))
        clear a1 a2 a3 a4 hxp hps e HQ hmeas hne hlp
        go_wp2_with (at_builtin; refine EK.wpList_append pOk rfl (.tmp 54) (.tmp 56) rfl w.heap.size u5 ps rfl (HOW.out _) (wr.heap.size + 1) (some ⟨wr.heap.size, 0, none⟩) [j] 1 1 rfl rfl (EK.Reads.lone pOk (W := wr) j _ _ rfl rfl) (by simp) HLE.out (HBS.out _) ?_; intro v2 w2 ho2 ht2 hv2; have HO2 := Lib.hid ho2; have HT2 := Lib.hid ht2; clear ho2 ht2 hv2)
        go_roundw
        case rel =>
          obtain ⟨a2, a3, a4, hxp, e, a1⟩ := HND.out
          refine ⟨j + 1, by first | rfl | rw [hwr], HJ2, Lib.hid ⟨ps ++ [j], HO2.out, ?_, fun p => ?_, (a4.then (Turns.alloc (F := []) wr _)).trans HT2.out fun i hi => .inr (a1.foot i hi).1⟩⟩
          · rw [List.nodup_append]
            exact ⟨a2, by simp, fun a ha b hb e' => by simp at hb; subst hb; subst e'; exact hxp ha⟩
          · rw [List.mem_append, List.mem_singleton, a3 p]
            constructor
            · rintro (⟨h1, h2⟩ | h1)
              · exact ⟨h1, by omega⟩
              · subst h1
                exact ⟨by rw [e]; rfl, by omega⟩
            · rintro ⟨h1, h2⟩
              by_cases hpx : p = j
              · exact .inr hpx
              · exact .inl ⟨h1, by omega⟩
        case measure => simp [intOf, hwr]; have := HME.out; omega
    · have hj2 : decide (j ≤ last) = false := by simpa using hj
      have HND := Lib.hid (And.intro a1 (And.intro a2 (And.intro a3 a4)))
      have HJL := Lib.hid hj
      clear a1 a2 a3 a4 HQ hj
      go_wp2
      go_ret
      obtain ⟨a1, a2, a3, a4⟩ := HND.out
      refine ⟨_, ps, rfl, a1, a2, fun p => ?_, a4⟩
      rw [a3 p]
      have := HJ.out
      have := HJL.out
      constructor
      · rintro ⟨h1, h2⟩; exact ⟨h1, by omega⟩
      · rintro ⟨h1, h2⟩; exact ⟨h1, by omega⟩
set_option maxRecDepth 100000 in
set_option maxHeartbeats 2000000 in
theorem parts_nil {w : World} {bw : Nat} {T : Int} (h3 : w.heap[bw]? = some (.cells #[.int .i64 T, .map none, .map none] 50 (0, 0))) (hT : -9223372036854775808 ≤ T ∧ T ≤ 9223372036854775807) (last : Int) (hl : part T ≤ last) (hl2 : last ≤ 144115188075855871) :
    Calls Try.prog 33 #[.pointer (some ⟨bw, 0, none⟩), .int .i64 last] w fun e w' => e = .returned (.slice none 0 0) ∧ Turns [] w w' := by
  have hpt : -144115188075855872 ≤ part T := by unfold part; omega
  have hsub : wrap64 (last - part T) = last - part T := by simp [wrap64]; omega
  have hd : decide ((0 : Int) ≤ last - part T) = true := by simp; omega
  have c0 : w.cell? ⟨bw, 0, none⟩ = some (.int .i64 T) := by simp [World.cell?, h3]
  have c1 : w.cell? ⟨bw, 1, none⟩ = some (.map none) := by simp [World.cell?, h3]
  have HPO := Lib.hid (fun W => partOf_any T hT W)
  have HT := Lib.hid (fun o => Turns.alloc (F := []) w o)
  have hlen := fun ty => Maps.len_nil (P := Try.prog) (w := w) Try.underlying47 ty
  have hrg := run_range_nilMap (P := Try.prog) w 47 2 27 Try.underlying47
  have hnx : ∀ ty, (Instr.next (.pointer (some ⟨w.heap.size, 0, none⟩)) false ty).run Try.prog (w.alloc (.mapIter none 0 #[] 0)) = _ := fun ty => run_next_nilMap w ty 0 0 #[]
  clear h3 hT hl2 hpt
  go_enter Try.func33, Try.ntmps33
  go_wp2_with (go_at_call 29; refine (HPO.out _).mono ?_; rintro e w' ⟨rfl, rfl⟩)
  refine wp_loop_rounds 1 ?_
  rw [rounds_succ]
  go_wp2
  go_ret
  exact ⟨rfl, HT.out _⟩
/-- parts, of any wheel. -/
theorem parts_laid {B : Nat} {w : World} {bw : Nat} {T : Int} {L : List Fi} {F : List Nat} {bs bp : Nat} {S : Sl} {P : Pc} (h : Laid B w bw T L F bs bp S P) (hbw : bw < w.heap.size) (hok : WOk T L) (last : Int) (hl : part T ≤ last) (hl2 : last ≤ 144115188075855871) (hL : L.length ≤ 1000) :
    Calls Try.prog 33 #[.pointer (some ⟨bw, 0, none⟩), .int .i64 last] w (PartsP w S last) := by
  obtain ⟨n, hs⟩ := h.slots
  by_cases hge : (n : Int) ≤ last - part T
  · exact partsA h hbw hok.now last hl hl2 hL hs hge
  · refine partsB h hbw hok.now last hl hl2 hL (fun p hp => ?_) hs hge
    obtain ⟨q, hq⟩ := Option.isSome_iff_exists.1 hp
    have := h.some_of (v := q.1) (l := q.2) hq
    obtain ⟨x, hx, rfl⟩ := List.mem_map.1 this
    have := hok.low x hx
    unfold part
    omega
end Go.Proofs.Ytaepgcicgmbbeaa
