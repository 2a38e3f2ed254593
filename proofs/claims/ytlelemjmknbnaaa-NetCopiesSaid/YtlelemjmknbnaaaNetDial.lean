/- The program's New and Dial. -/
import Derived.Test.YtlelemjmknbnaaaNetLook
import Derived.Deep.RegionLaw
namespace Go.Proofs.Ytlelemjmknbnaaa
open Go.RowKit

theorem clone_str (s : ByteArray) (w : World) (hs : s.size ≤ 1000000) :
    Calls Try.prog 43 #[.string s] w fun e w' => e = .returned (.string s) ∧ Below w.heap.size w w' := by
  have HC := Lib.hid (Try.stringslite_Clone s w (by omega))
  go_enter Try.func43, Try.ntmps43
  go_wp2_with fail
  refine (Hid.out HC).mono ?_
  rintro e w1 ⟨rfl, hb⟩
  go_wp2
  go_ret
  exact ⟨rfl, hb⟩
theorem keys_empty : Keys (.map []) [] := ⟨fun _ => rfl, fun _ => rfl, rfl⟩
set_option maxRecDepth 100000 in
set_option maxHeartbeats 2000000 in
theorem new_any (B : Nat) (most : Int) (w : World) (hB : B ≤ w.heap.size) :
    Calls Try.prog 6 #[.int .i64 most] w fun e w' => e = .returned (.pointer (some ⟨w.heap.size + 1, 0, none⟩)) ∧ NetAt B w' (w.heap.size + 1) w.heap.size (max most 0) 0 [] ∧ Turns [] w w' := by
  have hmm := @run_makeMap Try.prog
  have HT := Lib.hid (fun o => (Turns.alloc (F := []) w (.map #[] 0)).trans (Turns.alloc (F := []) _ o) (by simp))
  have HN : Hid (NetAt B ((w.alloc (.map #[] 0)).alloc (.cells #[.int .i64 (max most 0), .int .i64 0, .map (some w.heap.size)] 47)) (w.heap.size + 1) w.heap.size (max most 0) 0 []) := Lib.hid (by
    have h1 := World.ownsMap_made w Try.prog 3 pelem
    refine ⟨?_, ⟨0, .map [], h1.alloc _, by simp, keys_empty⟩, fun x hx => (by cases hx), ⟨by omega, hB, fun x hx => (by cases hx)⟩, ?_, fun x hx => (by cases hx), List.Pairwise.nil⟩
    · have := heap_alloc_new (w.alloc (.map #[] 0)) (.cells #[.int .i64 (max most 0), .int .i64 0, .map (some w.heap.size)] 47)
      simpa using this
    · simp [footL])
  by_cases hm : 0 ≤ most
  · have hx : max most 0 = most := by omega
    rw [hx] at HN ⊢
    go_enter Try.func6, Try.ntmps6
    go_wp2
    go_ret
    exact ⟨rfl, HN.out, HT.out _⟩
  · have hx : max most 0 = 0 := by omega
    rw [hx] at HN ⊢
    go_enter Try.func6, Try.ntmps6
    go_wp2
    go_ret
    exact ⟨rfl, HN.out, HT.out _⟩
theorem Turns.drew {F : List Nat} {w w' : World} (h : Turns F w w') : Turns F w w'.drew := ⟨h.os, h.tape, h.output, h.size, h.block⟩
theorem Turns.drewN {F : List Nat} {w w' : World} (h : Turns F w w') (n : Nat) : Turns F w (w'.drewN n) := ⟨h.os, h.tape, h.output, h.size, h.block⟩
theorem wf_nat {n : Nat} (h : n ≤ 9223372036854775807) : (Lit.int .i64 (n : Int)).wf = true := WalkArith.wf_i64 (by omega)
def newC (N : Nat) (host : List UInt8) (b : Nat) : NE := ({ id := N, host := host, st := 1, inn := [], out := [] }, { b := b, va := .slice none 0 0, vs := .slice none 0 0 })
theorem getE_snoc {L : List NE} {y : NE} (hn : ∀ x ∈ L, x.1.id ≠ y.1.id) (k : Int) : getE (L ++ [y]) k = if k = (y.1.id : Int) then some y else getE L k := by
  unfold getE
  rw [List.find?_append]
  by_cases hk : k = (y.1.id : Int)
  · subst hk
    have h0 : L.find? (fun x => decide ((x.1.id : Int) = (y.1.id : Int))) = none := by
      rw [List.find?_eq_none]
      intro x hx
      have := hn x hx
      simp
      omega
    rw [h0, if_pos rfl]
    simp
  · rw [if_neg hk]
    have h1 : ([y] : List NE).find? (fun x => decide ((x.1.id : Int) = k)) = none := by
      rw [List.find?_eq_none]
      intro x hx
      rw [List.mem_singleton] at hx
      subst hx
      simp
      exact fun e => hk e.symm
    rw [h1, Option.or_none]
theorem Keys.snoc {D : DataW Unit} {L : List NE} {y : NE} (h : Keys D L) (ht : Maps.Tidy D) (hn : ∀ x ∈ L, x.1.id ≠ y.1.id) (hw : (Lit.int .i64 (y.1.id : Int)).wf = true) : Keys (D.put (.int .i64 (y.1.id : Int)) (.lit (.int .i64 (y.2.b : Int)))) (L ++ [y]) := by
  have hkl : WideAt.IsKeyLit (Lit.int .i64 (y.1.id : Int)) := by trivial
  have hno : getE L (y.1.id : Int) = none := by
    unfold getE
    rw [List.find?_eq_none]
    intro x hx
    have := hn x hx
    simp
    omega
  refine ⟨fun k => ?_, fun k => ?_, ?_⟩
  · rw [getE_snoc hn]
    by_cases hk : k = (y.1.id : Int)
    · subst hk
      rw [Maps.has_put_same ht.isMap hkl, if_pos rfl]
      rfl
    · rw [Maps.has_put_other (fun e => hk (by cases e; rfl)), h.has k, if_neg hk]
  · rw [getE_snoc hn]
    by_cases hk : k = (y.1.id : Int)
    · subst hk
      rw [Maps.atKey_put_same ht.isMap hkl, if_pos rfl]
    · rw [Maps.atKey_put_other (fun e => hk (by cases e; rfl)), h.at_ k, if_neg hk]
  · rw [Maps.size_put ht, h.has, hno, h.size]
    simp
theorem NetAt.dialled {B : Nat} {w w4 : World} {bn bm n nb : Nat} {most : Int} {N : Nat} {L : List NE} {D : DataW Unit} (h : NetAt B w bn bm most (N : Int) L) (hN : N + 1 ≤ 9223372036854775807) (ho : w.ownsMap Try.prog 3 pelem bm n D) (hn : (n : Int) ≤ (N : Int)) (hk : Keys D L) (host : List UInt8)
    (ht : Turns [bn, bm] w w4) (hh : w4.heap[bn]? = some (.cells #[.int .i64 most, .int .i64 ((N : Int) + 1), .map (some bm)] 47 (0, 0)))
    (hm : w4.ownsMap Try.prog 3 pelem bm (n + 1) (D.put (.int .i64 ((N : Int) + 1)) (.lit (.int .i64 (nb : Int))))) (hc : w4.heap[nb]? = some (.cells #[.string ⟨host.toArray⟩, .int .i64 1, .slice none 0 0, .slice none 0 0] 60 (0, 0))) (hnb : w.heap.size ≤ nb) :
    NetAt B w4 bn bm most ((N : Int) + 1) (L ++ [newC (N + 1) host nb]) := by
  have hlt := h.lt
  have hne : ∀ x ∈ L, x.1.id ≠ (newC (N + 1) host nb).1.id := fun x hx e => by
    have := (h.ids x hx).2
    rw [e] at this
    have e2 : ((newC (N + 1) host nb).1.id : Int) = (N : Int) + 1 := by simp [newC]
    omega
  have hap := h.apart
  have hmem : ∀ y ∈ L ++ [newC (N + 1) host nb], y ∈ L ∨ y = newC (N + 1) host nb := fun y hy => by
    rcases List.mem_append.1 hy with h1 | h1
    · exact .inl h1
    · exact .inr (List.mem_singleton.1 h1)
  have hfl : footL (L ++ [newC (N + 1) host nb]) = footL L ++ [nb] := by simp [footL, newC, Pl.foot, ownB, Value.ownBlock]
  have hkk := hk.snoc (y := newC (N + 1) host nb) (ho.tidy keyed) hne (wf_nat hN)
  have e3 : ((newC (N + 1) host nb).1.id : Int) = (N : Int) + 1 := by simp [newC]
  rw [e3] at hkk
  simp only [List.nodup_cons, List.mem_cons, not_or] at hap
  refine ⟨hh, ⟨n + 1, _, hm, by omega, hkk⟩, fun y hy => ?_, ⟨h.low.1, h.low.2.1, fun y hy => ?_⟩, ?_, fun y hy => ?_, ?_⟩
  · rcases hmem y hy with hy | rfl
    · obtain ⟨c1, c2, c3⟩ := h.conns y hy
      have hf : ∀ i ∈ y.2.foot, i ∉ [bn, bm] := fun i hi hb => by
        have hfi := mem_footL.2 ⟨y, hy, hi⟩
        rcases List.mem_cons.1 hb with rfl | hb
        · exact hap.1.2 hfi
        · rw [List.mem_singleton] at hb
          subst hb
          exact hap.2.1 hfi
      exact ⟨(ht.block _ (lt_of_block c1) (hf _ (Pl.mem_foot.2 (.inl rfl)))).trans c1, c2.turns ht fun g hg => hf g (Pl.mem_foot.2 (.inr (.inl (ownB_mem hg)))), c3.turns ht fun g hg => hf g (Pl.mem_foot.2 (.inr (.inr (ownB_mem hg))))⟩
    · exact ⟨hc, World.ownsRow_nil _ _ _ _, World.ownsRow_nil _ _ _ _⟩
  · rcases hmem y hy with hy | rfl
    · exact h.low.2.2 y hy
    · have := (hlt bn (by simp)).1
      have := (hlt bn (by simp)).2
      show B ≤ nb
      omega
  · rw [hfl]
    have hnew : ∀ i ∈ bn :: bm :: footL L, i ≠ nb := fun i hi e => by have := (hlt i hi).2; omega
    have hcc : bn :: bm :: (footL L ++ [nb]) = (bn :: bm :: footL L) ++ [nb] := rfl
    rw [hcc, List.nodup_append]
    refine ⟨h.apart, by simp, fun i hi j hj => ?_⟩
    rw [List.mem_singleton] at hj
    rw [hj]
    exact hnew i hi
  · rcases hmem y hy with hy | rfl
    · have := h.ids y hy
      omega
    · show 1 ≤ N + 1 ∧ ((N + 1 : Nat) : Int) ≤ (N : Int) + 1
      omega
  · rw [List.pairwise_append]
    refine ⟨h.rise, by simp, fun y hy z hz => ?_⟩
    rw [List.mem_singleton] at hz
    subst hz
    have := (h.ids y hy).2
    show y.1.id < N + 1
    omega
theorem dial_end {B : Nat} {w W1 w2 w4 : World} {bn bm n : Nat} {most : Int} {N : Nat} {L : List NE} {D : DataW Unit} (h : NetAt B w bn bm most (N : Int) L) (hN : N + 1 ≤ 9223372036854775807) (ho : w.ownsMap Try.prog 3 pelem bm n D) (hn : (n : Int) ≤ (N : Int)) (hk : Keys D L) (host : ByteArray)
    (h1 : Turns [bn] w W1) (hd : W1.heap[bn]? = some (.cells #[.int .i64 most, .int .i64 ((N : Int) + 1), .map (some bm)] 47 (0, 0))) (h2 : Below W1.drew.heap.size W1.drew w2)
    (hm : w4.ownsMap Try.prog 3 pelem bm (n + 1) (D.put (.int .i64 ((N : Int) + 1)) (.lit (.int .i64 (w2.heap.size : Int))))) (h4 : (w2.alloc (.cells #[.string host, .int .i64 1, .slice none 0 0, .slice none 0 0] 60)).mapTurned w4 bm) :
    w.heap.size ≤ w2.heap.size ∧ NetAt B w4 bn bm most ((N : Int) + 1) (L ++ [newC (N + 1) host.data.toList w2.heap.size]) ∧ Turns [bn, bm] w w4 ∧ w4.cell? ⟨bn, 1, none⟩ = some (.int .i64 ((N : Int) + 1)) := by
  have hlt := h.lt
  have hbl : bn < W1.heap.size := lt_of_block hd
  have t2 : Turns [] W1 w2 := (Turns.refl [] W1).drew.trans (Turns.of_below h2 (Nat.le_refl _)) (by simp)
  have t3 : Turns [] W1 (w2.alloc (.cells #[.string host, .int .i64 1, .slice none 0 0, .slice none 0 0] 60)) := t2.trans (Turns.alloc (F := []) _ _) (by simp)
  have t4 : Turns [bm] (w2.alloc (.cells #[.string host, .int .i64 1, .slice none 0 0, .slice none 0 0] 60)) w4 := Turns.of_grown h4.grown
  have hs1 := h1.size
  have hs2 := t2.size
  have hsz : w.heap.size ≤ w2.heap.size := Nat.le_trans hs1 hs2
  have hne : bn ≠ bm := fun e => by
    have := h.apart
    rw [e] at this
    simp at this
  have tt : Turns [bn, bm] w w4 := (h1.mono (by simp)).trans (t3.mono (G := [bn, bm]) (by simp) |>.trans (t4.mono (G := [bn, bm]) (by simp)) (fun i hi => .inl hi)) (fun i hi => .inl hi)
  have hh : w4.heap[bn]? = some (.cells #[.int .i64 most, .int .i64 ((N : Int) + 1), .map (some bm)] 47 (0, 0)) := by
    rw [t4.block bn (Nat.lt_of_lt_of_le hbl t3.size) (by simpa using hne), t3.block bn hbl (by simp)]
    exact hd
  have hbm : bm < w.heap.size := (hlt bm (by simp)).2
  have hc : w4.heap[w2.heap.size]? = some (.cells #[.string ⟨host.data.toList.toArray⟩, .int .i64 1, .slice none 0 0, .slice none 0 0] 60 (0, 0)) := by
    rw [t4.block w2.heap.size (by simp) (by simp; omega), heap_alloc_new, Lib.mk_data]
  exact ⟨hsz, h.dialled hN ho hn hk host.data.toList tt hh hm hc hsz, tt, by simp [World.cell?, hh]⟩
set_option maxRecDepth 100000 in
set_option maxHeartbeats 4000000 in
theorem dial_ok {B : Nat} {w : World} {bn bm : Nat} {most : Int} {N : Nat} {L : List NE} (h : NetAt B w bn bm most (N : Int) L) (host : ByteArray) (hh : host.size ≤ 1000000) (hN : N ≤ 1000000000) (hl : (L.length : Int) < most) :
    Calls Try.prog 14 #[.pointer (some ⟨bn, 0, none⟩), .string host] w fun e w' => e = .returned (.tuple #[.int .i64 ((N : Int) + 1), .int .i64 0]) ∧ (∃ nb, w.heap.size ≤ nb ∧ NetAt B w' bn bm most ((N : Int) + 1) (L ++ [newC (N + 1) host.data.toList nb])) ∧ Turns [bn, bm] w w' := by
  have c0 := h.c0
  have c1 := h.c1
  have c2 := h.c2
  have f1 := h.free 1
  obtain ⟨n, D, ho, hn, hk⟩ := h.hmap
  have hlen : ∀ ty q, (Builtin.len_ #[45] ty #[.map (some bm)]).run Try.prog (w.drewN q) = .ok (.int .i64 (L.length : Int)) (w.drewN q) := fun ty q => by
    have hq : (w.drewN q).ownsMap Try.prog 3 pelem bm n D := ho
    rw [hq.len Try.underlying45 ty, hk.size]
  have hlen0 : ∀ ty, (Builtin.len_ #[45] ty #[.map (some bm)]).run Try.prog w = .ok (.int .i64 (L.length : Int)) w := fun ty => by
    rw [ho.len Try.underlying45 ty, hk.size]
  have hlt : decide (most ≤ (L.length : Int)) = false := by simp; omega
  have hN0 : (0 : Int) ≤ (N : Int) := by omega
  have hN1 : (N : Int) ≤ 1000000000 := by omega
  have HNL := Lib.hid (show N + 1 ≤ 9223372036854775807 by omega)
  have H := Lib.hid h
  have HO := Lib.hid ho
  have HK := Lib.hid hk
  have HNN := Lib.hid hn
  clear h ho hk hn
  go_enter Try.func14, Try.ntmps14
  go_wp2
  go_quiet (fail)
  go_wp2
  obtain ⟨W1, hW1⟩ : ∃ W1, W1 = (w.drewN nq).setCell ⟨bn, 1, none⟩ (.int .i64 ((N : Int) + 1)) := ⟨_, rfl⟩
  have HT1 := Lib.hid (show Turns [bn] w W1 from by rw [hW1]; exact ((Turns.refl [bn] w).drewN nq).trans (Turns.setCell _ _ _ (List.mem_singleton.2 rfl)) (fun i hi => .inl hi))
  have hd1 : W1.heap[bn]? = some (.cells #[.int .i64 most, .int .i64 ((N : Int) + 1), .map (some bm)] 47 (0, 0)) := by
    rw [hW1]
    have := heap_cell (w := w.drewN nq) (j := 1) (.int .i64 ((N : Int) + 1)) H.out.head
    simpa using this
  have hbb : bm ∉ [bn] := fun hm => by
    rw [List.mem_singleton] at hm
    have := H.out.apart
    rw [hm] at this
    simp at this
  have HM1 := Lib.hid (show W1.ownsMap Try.prog 3 pelem bm n D from ownsMap_turns HO.out HT1.out hbb)
  have d1 : W1.cell? ⟨bn, 1, none⟩ = some (.int .i64 ((N : Int) + 1)) := by simp [World.cell?, hd1]
  have d2 : W1.cell? ⟨bn, 2, none⟩ = some (.map (some bm)) := by simp [World.cell?, hd1]
  have hbl : bn < W1.heap.size := lt_of_block hd1
  have HBL := Lib.hid hbl
  have HBM := Lib.hid hbb
  have HD1 := Lib.hid hd1
  have HND := Lib.hid (show n < maxLen by unfold maxLen; have := HNN.out; omega)
  have HWF := Lib.hid (show (Lit.int .i64 ((N : Int) + 1)).wf = true from wf_nat (n := N + 1) (by omega))
  have HCL := Lib.hid (fun W => clone_str host W hh)
  have HMK : Hid (∀ w2, Below W1.drew.heap.size W1.drew w2 → ∃ w4, (Instr.mapUpdate 45 (.map (some bm)) (.int .i64 ((N : Int) + 1)) (.pointer (some ⟨w2.heap.size, 0, none⟩))).run Try.prog (w2.alloc (.cells #[.string host, .int .i64 1, .slice none 0 0, .slice none 0 0] 60)) = .ok () w4 ∧ w4.ownsMap Try.prog 3 pelem bm (n + 1) (D.put (.int .i64 ((N : Int) + 1)) (.lit (.int .i64 (w2.heap.size : Int)))) ∧ (w2.alloc (.cells #[.string host, .int .i64 1, .slice none 0 0, .slice none 0 0] 60)).mapTurned w4 bm) := Lib.hid (fun w2 hb2 => by
    have hm := ownsMap_turns HM1.out (((Turns.refl [] W1).drew.trans (Turns.of_below hb2 (Nat.le_refl _)) (by simp)).trans (Turns.alloc (F := []) w2 (.cells #[.string host, .int .i64 1, .slice none 0 0, .slice none 0 0] 60)) (by simp)) (by simp)
    exact hm.store keyed Try.underlying45 HND.out (Go.Maps.keyOf_int_mk Try.underlying3 HWF.out : Go.keyOf Try.prog 3 (.int .i64 ((N : Int) + 1)) = some (.int .i64 ((N : Int) + 1))) (val := .pointer (some ⟨w2.heap.size, 0, none⟩)) (d := .lit (.int .i64 (w2.heap.size : Int))) (ps := []) rfl)
  have HCK : Hid (∀ w2, Below W1.drew.heap.size W1.drew w2 → (w2.cell? ⟨bn, 1, none⟩ = some (.int .i64 ((N : Int) + 1)) ∧ w2.cell? ⟨bn, 2, none⟩ = some (.map (some bm))) ∧ ((w2.alloc (.cells #[.string host, .int .i64 1, .slice none 0 0, .slice none 0 0] 60)).cell? ⟨bn, 1, none⟩ = some (.int .i64 ((N : Int) + 1)) ∧ (w2.alloc (.cells #[.string host, .int .i64 1, .slice none 0 0, .slice none 0 0] 60)).cell? ⟨bn, 2, none⟩ = some (.map (some bm)))) := Lib.hid (fun w2 hb2 => by
    have e1 := (hb2.cell (p := ⟨bn, 1, none⟩) HBL.out).trans d1
    have e2 := (hb2.cell (p := ⟨bn, 2, none⟩) HBL.out).trans d2
    have hlt : bn < w2.heap.size := Nat.lt_of_lt_of_le HBL.out hb2.size
    exact ⟨⟨e1, e2⟩, (World.cell?_alloc_lt _ _ _ hlt).trans e1, (World.cell?_alloc_lt _ _ _ hlt).trans e2⟩)
  rw [← hW1]
  clear hW1 hd1 hbb hbl c0 c1 c2 f1 hlen hlen0 hlt hl hN hN1 hh hN0
  go_region_law (go_simp; go_at_call 43; refine (HCL.out _).mono ?_; rintro e w2 ⟨rfl, hb2⟩; have HB2 := Lib.hid hb2; have n1 := (HCK.out _ hb2).1.1; have n2 := (HCK.out _ hb2).1.2; have n3 := (HCK.out _ hb2).2.1; have n4 := (HCK.out _ hb2).2.2; obtain ⟨w4, hrun4, hm4, ht4⟩ := HMK.out _ hb2; have HM4 := Lib.hid hm4; have HT4 := Lib.hid ht4; clear hb2 hm4 ht4)
  all_goals
    have HE := Lib.hid (dial_end H.out HNL.out HO.out HNN.out HK.out host HT1.out HD1.out HB2.out HM4.out HT4.out)
    have e1 := HE.out.2.2.2
    clear hrun4 n1 n2 n3 n4 HCK HMK
    go_wp2
    go_ret2
    exact ⟨rfl, ⟨_, HE.out.1, HE.out.2.1⟩, HE.out.2.2.1⟩
end Go.Proofs.Ytlelemjmknbnaaa
