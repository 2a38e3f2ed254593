/- The program's Put. -/
import Derived.Test.YtcjmieofmogeiaaSrPutP
namespace Go.Proofs.Ytcjmieofmogeiaa
open Go.RowKit
variable {hd : Hd}

/-- Going over what is stale. -/
structure StJ [hd : Hd] (B : Nat) (w : World) (p b most : Nat) (F : List Nat) (P' : PM) (m : Nat) (U : ByteArray → Option Value) (left : ByteArray → Bool) (os : List Sn) (o : Value) (W : World) : Prop where
  out : nK.Own w.heap.size W o os
  sm : Sm B W p b most (dieM (fun x => (U x).isSome && !left x) P') m
  tt : Turns F w W
theorem dieM_none (U : ByteArray → Option Value) (P' : PM) : dieM (fun x => (U x).isSome && !(U x).isSome) P' = P' := funext fun x => by
  show (if ((U x).isSome && !(U x).isSome) = true then _ else P' x) = P' x
  rw [Bool.and_not_self, if_neg (by simp)]
section
variable {B : Nat} {w W W' : World} {p b bu most n m : Nat} {F : List Nat} {P P' : PM} {L : List One} {owner : Int} {U : ByteArray → Option Value} {left : ByteArray → Bool} {os : List Sn} {o : Value}
theorem StJ.next (h : StJ B w p b most F P' m U left os o W) (ht : Turns [] W W') : StJ B w p b most F P' m U left os o W' :=
  ⟨h.out.turns ht (by simp), h.sm.pre ht, h.tt.trans ht (by simp)⟩
theorem StJ.nextR {rr : Nat} (h : StJ B w p b most F P' m U left os o W) (ht : Turns [rr] W W') (hr : w.heap.size ≤ rr) (hp : rr ≠ p) (hi : ∀ i, MapP.In b (dieM (fun x => (U x).isSome && !left x) P') i → rr ≠ i) (ho : rr ∉ ownB o) : StJ B w p b most F P' m U left os o W' :=
  ⟨h.out.turns ht fun g hg hm => by
    rw [List.mem_singleton] at hm
    subst hm
    exact ho (by unfold ownB; rw [hg]; simp), h.sm.turns ht (by simpa using Ne.symm hp) (fun i hm hin => by rw [List.mem_singleton] at hm; exact hi i hin hm.symm), h.tt.trans ht fun i hm => .inr (by rw [List.mem_singleton] at hm; rw [hm]; exact hr)⟩
theorem StJ.step (h : StJ B w p b most F P' m U left os o W) (hB : B ≤ w.heap.size) {x : ByteArray} (hl : left x = true) {v : Value} (hu : U x = some v) {g : Nat} {l : Lst} (hp : P' x = some (g, l)) (hg : g ∈ F ∨ w.heap.size ≤ g) :
    StJ B w p b most F P' m U (fun y => left y && !decide (y = x)) os o (W.setCell ⟨g, 4, none⟩ (.bool false)) := by
  have hd : dieM (fun x => (U x).isSome && !left x) P' x = some (g, l) := by
    unfold dieM
    rw [if_neg (by simp [hl]), hp]
  have hblk := (h.sm.map.blk x _ hd).1
  have htu : Turns [g] W (W.setCell ⟨g, 4, none⟩ (.bool false)) := Turns.setCell _ _ _ (by simp)
  have hset := heap_setCell_same W g 4 _ _ (.bool false) hblk
  have hS : Sm B W p b most (updM (dieM (fun x => (U x).isSome && !left x) P') x (g, l)) m := by rw [updM_same hd]; exact h.sm
  have hW := hS.wrote (l' := ⟨l.s, false, l.own⟩) htu hset (h.sm.nm x _ hd).1
  refine ⟨h.out.turns htu fun i hi hm => ?_, ?_, h.tt.trans htu fun i hi => by rw [List.mem_singleton] at hi; rw [hi]; exact hg⟩
  · rw [List.mem_singleton] at hm
    subst hm
    exact (own_not_in h.sm (h.out.low hB) i (by unfold ownB; rw [hi]; simp)).2 (.inr ⟨x, _, hd, rfl⟩)
  · have e : updM (dieM (fun x => (U x).isSome && !left x) P') x (g, ⟨l.s, false, l.own⟩) = dieM (fun y => (U y).isSome && !(left y && !decide (y = x))) P' := funext fun y => by
      by_cases hy : y = x
      · subst hy
        rw [updM_here]
        unfold dieM
        rw [if_pos (by simp [hu]), hp]
        rfl
      · rw [updM_ne hy]
        unfold dieM
        simp [hy]
    rw [← e]
    exact hW
end
/-- What Put answers, and leaves. -/
def SrPut [hd : Hd] (B : Nat) (w : World) (p b : Nat) (F : List Nat) (most : Nat) (r : List Sn × List One) (e : Ending) (w' : World) : Prop :=
  ∃ o F' P', e = .returned o ∧ nK.Own w.heap.size w' o r.1 ∧ Sr B w' p b F' most P' r.2 ∧ Turns F w w' ∧ (∀ i ∈ F', i ∈ F ∨ w.heap.size ≤ i) ∧ ∀ i ∈ ownB o, i ∉ F'
theorem srPut_fin {B : Nat} {w W : World} {p b most : Nat} {F : List Nat} {P P' : PM} {L L' : List One} {os : List Sn} {o : Value} {owner : Int} {l : List Smp} (h : Sr B w p b F most P L) (hB : B ≤ w.heap.size) (ht : Tel P' L') (same : ∀ x, amongB l x = false → P' x = P x) (blk : ∀ x q, P' x = some q → MapP.In b P q.1 ∨ w.heap.size ≤ q.1)
    (hj : StJ B w p b most F P' L'.length (fun x => if amongB l x = true then none else mineM owner (P x)) (fun _ => false) os o W) : SrPut B w p b F most (os, L'.map (staleB owner l)) (.returned o) W := by
  have e : (fun x => (if amongB l x = true then none else mineM owner (P x)).isSome && !false) = fun x => (if amongB l x = true then none else mineM owner (P x)).isSome := funext fun x => by simp
  have hsm := hj.sm
  rw [e] at hsm
  have hT := tel_die ht fun x => (if amongB l x = true then none else mineM owner (P x)).isSome
  rw [stale_eq ht same] at hT
  have hblk : ∀ x q, dieM (fun x => (if amongB l x = true then none else mineM owner (P x)).isSome) P' x = some q → MapP.In b P q.1 ∨ w.heap.size ≤ q.1 := fun x q hq => by
    obtain ⟨l', hl'⟩ := dieM_some hq
    exact blk x (q.1, l') hl'
  generalize dieM (fun x => (if amongB l x = true then none else mineM owner (P x)).isSome) P' = P2 at hsm hT hblk
  have hown := own_not_in hsm (hj.out.low hB)
  refine ⟨o, F ++ (L'.map (staleB owner l)).filterMap (fun y => (P2 y.name).map (·.1)), P2, rfl, hj.out, ⟨by rw [List.length_map]; exact hsm, hT, fun i hi => ?_, fun i hi => ?_⟩, hj.tt, fun i hi => ?_, fun i hi hm => ?_⟩
  · rcases hi with rfl | rfl | ⟨x, q, hq, rfl⟩
    · exact List.mem_append_left _ (h.cov _ (.inl rfl))
    · exact List.mem_append_left _ (h.cov _ (.inr (.inl rfl)))
    · obtain ⟨y, hy, e1, _⟩ := hT.all x q hq
      exact List.mem_append_right _ (List.mem_filterMap.2 ⟨y, hy, by rw [e1, hq]; rfl⟩)
  · rcases List.mem_append.1 hi with h1 | h1
    · have := h.foot i h1
      have := hj.tt.size
      omega
    · obtain ⟨y, hy, e1⟩ := List.mem_filterMap.1 h1
      cases hp : P2 y.name with
      | none => rw [hp] at e1; cases e1
      | some q =>
        rw [hp] at e1
        cases e1
        exact ⟨(hsm.map.blk _ _ hp).2.2, lt_of_block (hsm.map.blk _ _ hp).1⟩
  · rcases List.mem_append.1 hi with h1 | h1
    · exact .inl h1
    · obtain ⟨y, hy, e1⟩ := List.mem_filterMap.1 h1
      cases hp : P2 y.name with
      | none => rw [hp] at e1; cases e1
      | some q =>
        rw [hp] at e1
        cases e1
        exact (hblk _ _ hp).imp (fun h2 => h.cov _ (.inr h2)) id
  · rcases List.mem_append.1 hm with h1 | h1
    · have := (h.foot i h1).2
      have := (hj.out.foot i hi).1
      omega
    · obtain ⟨y, hy, e1⟩ := List.mem_filterMap.1 h1
      cases hp : P2 y.name with
      | none => rw [hp] at e1; cases e1
      | some q =>
        rw [hp] at e1
        cases e1
        exact (hown _ hi).2 (.inr ⟨_, _, hp, rfl⟩)
theorem putQ_keeps {B : Nat} {w w' : World} {p b most n : Nat} {P : PM} {owner : Int} {x : Smp} {e : Ending} (h : PutQ B w p b most P n owner x e w') {i : Nat} (hi : i < w.heap.size) (hn : ¬ MapP.In b P i) : w'.heap[i]? = w.heap[i]? := by
  rcases h with ⟨_, _, ht⟩ | ⟨_, g, l, was, _, _, ht⟩
  · exact ht.block i hi (by simp)
  · refine ht.block i hi fun hm => ?_
    rcases List.mem_cons.1 hm with rfl | hm
    · exact hn (.inl rfl)
    · rw [List.mem_singleton] at hm
      subst hm
      rcases was with h' | ⟨_, h', _⟩
      · exact hn (.inr ⟨_, _, h', rfl⟩)
      · omega
/-- One more sample. -/
theorem PutJ.round {B : Nat} {w W W' : World} {p b bu most : Nat} {F : List Nat} {P P' : PM} {owner : Int} {la : List Smp} {r : List Sn × List One} {o : Value} {x : Smp} {e : Ending} (h : PutJ B w p b bu most F P owner la la r o W P') (hF : ∀ i, MapP.In b P i → i ∈ F)
    (hq : PutQ B W p b most P' r.2.length owner x e W') : e = .returned (oneP most owner x r.2).1.val' ∧ ∃ P2, PutJ B w p b bu most F P owner la (la ++ [x]) (r.1, (oneP most owner x r.2).2) o W' P2 := by
  obtain ⟨he, P2, G, h2⟩ := one_of h.sm h.tel hq
  exact ⟨he, P2, h.one hF h2⟩
set_option maxRecDepth 100000 in
set_option maxHeartbeats 4000000 in
theorem putSt_any {B : Nat} {w : World} {p b most : Nat} {F : List Nat} {P : PM} {L : List One} {l : List Smp} {A : Option Addr} {c : Nat} (h : Sr B w p b F most P L) (hB : B ≤ w.heap.size) (hL : L.length + l.length ≤ 90000) (hc : l.length ≤ c) (hr : sK.Reads w w.heap.size A l) (hA : l = [] ∨ ∀ a, A = some a → a.block ∉ F) (owner : Int) (hx : ∀ x ∈ l, NmOk x.name) :
    Calls Try.prog 29 #[ptr p, .int .i64 owner, .slice A l.length c] w (SrPut B w p b F most (putP most owner l L)) := by
  have H := Lib.hid h
  have HB := Lib.hid hB
  have HL := Lib.hid hL
  have HX := Lib.hid hx
  have HF : Hid (∀ i, MapP.In b P i → i ∈ F) := Lib.hid fun i hi => h.cov i (.inr hi)
  have HR := Lib.hid (fun (X : World) (ht : Turns F w X) => show sK.Reads X w.heap.size A l from by
    rcases hA with h | h
    · exact .inl h
    · exact hr.turns (Nat.le_refl _) ht h)
  have HLO := Lib.hid (liveOf_any h.sm (by omega) owner)
  have f5 : (l.length : Int) ≤ 90000 := by omega
  have f6 : l.length ≤ c := hc
  clear h hB hL hr hA hx
  go_enter Try.func29, Try.ntmps29
  go_wp2_with fail
  refine HLO.out.mono ?_
  rintro e w1 ⟨rfl, hu, ht1⟩
  have HJ0 : Hid (PutJ B w p b w.heap.size most F P owner [] [] ([], L) (.slice none 0 0) w1 P) := Lib.hid (PutJ.start H.out HB.out ht1 (Nat.le_refl _) hu)
  clear hu ht1 HLO
  obtain ⟨bu, hbu⟩ : ∃ bu, bu = w.heap.size := ⟨_, rfl⟩
  rw [← hbu] at HJ0 ⊢
  clear hbu
  go_upto_block 0 with fail
  go_cut [8] from 18 to 34 (fun o wx => ∃ P', Hid (PutJ B w p b bu most F P owner l l (putsP most owner l L) o wx P'))
  case first =>
    go_wp2_with fail
    go_loopw [8, 20] (fun o i wr => ∃ (k : Nat) (P' : PM), i = .int .i64 (k : Int) ∧ k ≤ l.length ∧ Hid (PutJ B w p b bu most F P owner (l.take k) (l.take k) (putsP most owner (l.take k) L) o wr P')) (fun _ i _ => l.length - (intOf i).toNat)
    case atStart => exact ⟨0, P, rfl, Nat.zero_le _, by rw [List.take_zero]; exact HJ0⟩
    case round =>
      obtain ⟨k, P', rfl, hk, HW⟩ := hrel
      by_cases hlt : k < l.length
      · obtain ⟨x, hx⟩ : ∃ x, l[k]? = some x := ⟨_, List.getElem?_eq_getElem hlt⟩
        obtain ⟨g, off, hA, hb, hcl⟩ := (HR.out wr HW.out.tt).at sOk (by omega)
        have hc1 := hcl k x hx
        have d0 := hc1 0 _ rfl
        have d1 := hc1 1 _ rfl
        have d2 := hc1 2 _ rfl
        have d3 := hc1 3 _ rfl
        simp only [sK, Nat.add_zero, ← Nat.add_assoc] at d0 d1 d2 d3
        have hl1 := putsP_len most owner (l.take k) L
        rw [List.length_take] at hl1
        have hl2 := HL.out
        have HNX := Lib.hid (HX.out x (List.mem_of_getElem? hx))
        have HTK := Lib.hid (putsP_take most owner hx L)
        have htk : l.take k ++ [x] = l.take (k + 1) := by rw [List.take_add_one, hx]; rfl
        have HTKL := Lib.hid htk
        have HBX := Lib.hid (Bx.made wr x)
        generalize hr0 : putsP most owner (l.take k) L = r0 at HTK HW hl1
        have HLE := Lib.hid (show r0.1.length + 1 ≤ 100000 ∧ r0.2.length ≤ 100000 by omega)
        have f7 : (k : Int) < (l.length : Int) := by omega
        have f8 : (0 : Int) ≤ (k : Int) := by omega
        clear hcl hc1 hl1 hl2 hx htk hr0
        subst hA
        go_upto_region 8 with fail
        obtain ⟨W0, hW0⟩ : ∃ W0, wr.alloc (.cells #[.string x.name, .int .i64 x.val, .int .i64 x.tm, .bool x.cnt] 52) = W0 := ⟨_, rfl⟩
        rw [hW0] at HBX ⊢
        have hJ1 := HW.out.next HBX.out.turns
        have q0 := HBX.out.c0
        have q1 := HBX.out.c1
        have q2 := HBX.out.c2
        have q3 := HBX.out.c3
        have HONE := Lib.hid (put1_any hJ1.sm HLE.out.2 (by have := hJ1.new; have := hJ1.tt.size; omega) owner x HNX.out)
        have HN := Lib.hid (fun (e : Ending) (X : World) (hq : PutQ B W0 p b most P' r0.2.length owner x e X) => hJ1.round HF.out hq)
        have HKB : Hid (∀ e X, PutQ B W0 p b most P' r0.2.length owner x e X → X.heap[wr.heap.size]? = W0.heap[wr.heap.size]?) := Lib.hid fun e X hq => putQ_keeps hq (by have := lt_of_block HBX.out.blk; omega) fun hi => by have := HW.out.sm.in_lt hi; omega
        have HNO : Hid (wr.heap.size ∉ ownB u8) := Lib.hid fun hi => by have := (HW.out.out.foot _ hi).2; omega
        unfold Smp.val' at HONE
        generalize oneP most owner x r0.2 = q at HTK HN
        clear hW0 hJ1 d0 d1 d2 d3
        go_wp2_with fail
        refine HONE.out.mono ?_
        rintro e w2 hq
        have hbx2 := (HKB.out _ _ hq).trans HBX.out.blk
        obtain ⟨rfl, P2, hj2⟩ := HN.out _ _ hq
        have HJ2 := Lib.hid hj2
        have HBX2 := Lib.hid hbx2
        have HOW := Lib.hid (fun C => (hj2.next (Turns.alloc (F := []) w2 C)).out)
        have HBS := Lib.hid (fun C => show w.heap.size ≤ (w2.alloc C).heap.size from Nat.le_trans hj2.tt.size (by simp))
        have HLE2 := Lib.hid (show r0.1.length + [q.1].length ≤ 100000 by have := HLE.out; simp; omega)
        unfold Sn.val'
        clear hq hj2 hbx2 q0 q1 q2 q3
        go_upto_region 9 with (at_builtin; refine EK.wpList_append nOk rfl (.tmp 24) (.tmp 29) rfl w.heap.size u8 r0.1 rfl (HOW.out _) (w2.heap.size + 1) (some ⟨w2.heap.size, 0, none⟩) [q.1] 1 1 rfl rfl (EK.Reads.lone nOk (W := w2) q.1 _ _ rfl rfl) (by simp) HLE2.out (HBS.out _) ?_; intro v2 w3 ho2 ht2 hf2; have HA2 := Lib.hid ((HJ2.out.next (Turns.alloc (F := []) w2 _)).app ho2 ht2); have HBX3 := Lib.hid ((ht2.block wr.heap.size (by have := lt_of_block HBX2.out; simp; omega) HNO.out).trans ((Below.heap_alloc w2 _ wr.heap.size (lt_of_block HBX2.out)).trans HBX2.out)); clear ho2 ht2 hf2)
        have q0 : w3.cell? ⟨wr.heap.size, 0, none⟩ = some (.string x.name) := by simp [World.cell?, HBX3.out]
        obtain ⟨w4, hrun, hj4⟩ := HA2.out.del HNX.out 0
        have HJ4 : Hid (PutJ B w p b bu most F P owner (l.take (k + 1)) (l.take (k + 1)) (putsP most owner (l.take (k + 1)) L) v2 w4 P2) := Lib.hid (by rw [HTK.out, ← HTKL.out]; exact hj4)
        clear hj4
        go_wp2
        go_roundw
        case rel => exact ⟨k + 1, P2, by go_num, by omega, HJ4⟩
        case measure => simp [intOf] <;> omega
      · obtain rfl : k = l.length := by omega
        have f7 : ¬ (l.length : Int) < (l.length : Int) := by omega
        rw [List.take_length] at HW
        go_wp2_with fail
        go_meet
        exact ⟨P', HW⟩
  case rest =>
  obtain ⟨P', HJ⟩ := hcut
  obtain ⟨n0, hn0⟩ := HJ.out.un
  have HN0 := Lib.hid hn0
  clear hn0
  have HIN : Hid (∀ i, i < w.heap.size → i ≠ wc.heap.size) := Lib.hid fun i hi => by have := HJ.out.tt.size; omega
  have HTL := Lib.hid HJ.out.tel
  have HSA := Lib.hid HJ.out.same
  have HBK := Lib.hid HJ.out.blk
  have HNW := Lib.hid HJ.out.new
  have HSZ := Lib.hid HJ.out.tt.size
  have HST : Hid (StJ B w p b most F P' (putsP most owner l L).2.length (fun x => if amongB l x = true then none else mineM owner (P x)) (fun x => ((fun x => if amongB l x = true then none else mineM owner (P x)) x).isSome) (putsP most owner l L).1 u8 wc) := Lib.hid ⟨HJ.out.out, by
    rw [dieM_none]
    exact HJ.out.sm, HJ.out.tt⟩
  have HFN : Hid (∀ W o, StJ B w p b most F P' (putsP most owner l L).2.length (fun x => if amongB l x = true then none else mineM owner (P x)) (fun _ => false) (putsP most owner l L).1 o W → SrPut B w p b F most (putP most owner l L) (.returned o) W) := Lib.hid fun W o hj => srPut_fin H.out HB.out HTL.out HSA.out HBK.out hj
  clear HJ
  generalize (putsP most owner l L).1 = os at HST HFN
  generalize (putsP most owner l L).2 = L2 at HST HFN HTL
  have HU : Hid (∀ x v, (if amongB l x = true then none else mineM owner (P x)) = some v → ∃ g l', P' x = some (g, l') ∧ v = .pointer (some ⟨g, 0, none⟩) ∧ (g ∈ F ∨ w.heap.size ≤ g)) := Lib.hid fun x v hv => by
    cases ha : amongB l x with
    | true => rw [ha, if_pos rfl] at hv; cases hv
    | false =>
      rw [ha, if_neg (by simp)] at hv
      rw [HSA.out x ha]
      cases hp : P x with
      | none => rw [hp] at hv; cases hv
      | some q =>
        rw [hp] at hv
        obtain ⟨g, l'⟩ := q
        by_cases hh : l'.live = true ∧ l'.own = owner
        · rw [mine_yes hh.1 hh.2] at hv
          cases hv
          exact ⟨g, l', rfl, rfl, .inl (HF.out _ (.inr ⟨x, _, hp, rfl⟩))⟩
        · rw [mine_no hh] at hv
          cases hv
  generalize hUU : (fun x => if amongB l x = true then none else mineM owner (P x)) = U at HST HFN HN0
  have HU2 : Hid (∀ x v, U x = some v → ∃ g l', P' x = some (g, l') ∧ v = .pointer (some ⟨g, 0, none⟩) ∧ (g ∈ F ∨ w.heap.size ≤ g)) := Lib.hid fun x v hv => HU.out x v (by rw [← hUU] at hv; exact hv)
  clear HU hUU
  go_wp2_with (at_range; refine wpList_range_g nameKD rfl _ 64 rfl 91 sm_keyed Try.underlying64 pread bu n0 _ rfl HN0.out ?_; intro w0 hrg0 ht0 hs0)
  go_frame
  have HST0 := Lib.hid (HST.out.next ht0)
  have HR0 := Lib.hid hrg0
  clear hrg0 ht0 hs0 HST HN0
  go_loopw [] (fun wr => ∃ left cnt, RangeG nameKD pread wr bu wc.heap.size U left cnt ∧ Hid (StJ B w p b most F P' L2.length U left os u8 wr)) (fun wr => wr.rangeLeft bu wc.heap.size)
  case atStart => exact ⟨_, _, HR0.out, HST0⟩
  case round =>
    obtain ⟨left, cnt, hrg, HQ⟩ := hrel
    have HRG := Lib.hid hrg
    clear hrg
    go_wp2_with (at_next; refine wpList_next_g nameKD rfl _ rfl sm_keyed pread pread_inj bu wc.heap.size _ left cnt rfl HRG.out ?_ ?_)
    · intro hl0
      have hl1 : left = fun _ => false := funext hl0
      subst hl1
      have HFIN := Lib.hid (HFN.out _ _ HQ.out)
      go_wp2
      go_ret
      exact HFIN.out
    · intro x v w1 cnt1 hwx hlx hq hrg1 hlt hg1 hs1 hen
      obtain ⟨g, l', hp, rfl, hgF⟩ := HU2.out x v hq
      have hrp : wc.heap.size ≠ p := by have := HQ.out.sm.head; exact (HRG.out.not_cells this).2
      have hst1 := HQ.out.nextR hg1 HSZ.out hrp (fun i hi => by
        rcases hi with rfl | ⟨z, q, hq, rfl⟩
        · exact Ne.symm (HIN.out _ HNW.out.2.1)
        · exact (HRG.out.not_cells (HQ.out.sm.map.blk z q hq).1).2) (fun hi => by
        obtain ⟨cur, hc⟩ := own_cells HQ.out.out _ hi
        exact (HRG.out.not_cells hc).2 rfl)
      have hd : dieM (fun x => (U x).isSome && !left x) P' x = some (g, l') := by
        unfold dieM
        rw [if_neg (by simp [hlx]), hp]
      have hblk := (hst1.sm.map.blk x _ hd).1
      obtain ⟨-, -, -, -, k4, -, kf⟩ := last_cells hblk
      have hnc := hrg1.not_cells hblk
      have HST2 := Lib.hid (hst1.step HNW.out.2.2 hlx hq hp hgF)
      have hrg2 := hrg1.turns (Turns.setCell w1 ⟨g, 4, none⟩ (.bool false) (List.mem_singleton.2 rfl)) (by simpa using hnc.1) (by simpa using hnc.2)
      have HR2 := Lib.hid hrg2
      have HRL := Lib.hid (show (w1.setCell ⟨g, 4, none⟩ (.bool false)).rangeLeft bu wc.heap.size < wr.rangeLeft bu wc.heap.size by rw [HR2.out.left_eq, HRG.out.left_eq]; exact hlt)
      clear hrg1 hlt hg1 hs1 hst1 hd hblk hnc hrg2 hlx hq hp hgF hrp hwx
      go_wp2_with fail
      go_roundw
      case rel => exact ⟨_, cnt1, HR2.out, HST2⟩
      case measure => exact HRL.out
end Go.Proofs.Ytcjmieofmogeiaa
