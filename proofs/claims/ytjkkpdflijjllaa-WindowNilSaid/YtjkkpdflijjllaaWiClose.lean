/- The program's closeTo: what closes, by rising numbers. -/
import Derived.Test.YtjkkpdflijjllaaWiOpen
namespace Go.Proofs.Ytjkkpdflijjllaa
open Go.RowKit Go.Maps Go.Sort Go.Shelf

/-- How many stand up to a number. -/
def upW (last : Int) : List Wn → Nat
  | [] => 0
  | x :: l => if x.num ≤ last then upW last l + 1 else 0
theorem upW_le (last : Int) : ∀ l : List Wn, upW last l ≤ l.length
  | [] => Nat.le_refl _
  | x :: l => by
    have := upW_le last l
    unfold upW
    split
    · simp; omega
    · exact Nat.zero_le _
theorem upW_lt {last : Int} : ∀ {l : List Wn} {k : Nat} {x : Wn}, k < upW last l → l[k]? = some x → x.num ≤ last
  | [], k, x, h, _ => by simp [upW] at h
  | y :: l, k, x, h, hx => by
    unfold upW at h
    split at h
    · rename_i hc
      cases k with
      | zero => simp at hx; rw [← hx]; exact hc
      | succ k =>
        simp at hx
        exact upW_lt (by omega) hx
    · omega
theorem upW_at {last : Int} : ∀ {l : List Wn} {x : Wn}, l[upW last l]? = some x → ¬ x.num ≤ last
  | [], x, h => by simp at h
  | y :: l, x, h => by
    unfold upW at h
    split at h
    · rename_i hc
      simp at h
      exact upW_at h
    · rename_i hc
      simp at h
      rw [← h]
      exact hc
theorem upW_more {last : Int} {l : List Wn} {k : Nat} {x : Wn} (hk : k ≤ upW last l) (hx : l[k]? = some x) (h : x.num ≤ last) : k + 1 ≤ upW last l := by
  rcases Nat.lt_or_ge k (upW last l) with h1 | h1
  · exact h1
  · have e : k = upW last l := by omega
    rw [e] at hx
    exact absurd h (upW_at hx)
theorem upW_end {last : Int} {l : List Wn} {k : Nat} {x : Wn} (hk : k ≤ upW last l) (hx : l[k]? = some x) (h : ¬ x.num ≤ last) : k = upW last l := by
  rcases Nat.lt_or_ge k (upW last l) with h1 | h1
  · exact absurd (upW_lt h1 hx) h
  · omega
/-- What one holds the other holds. -/
def SubP (P' P : PW) : Prop := ∀ n q, P' n = some q → P n = some q
section
variable {B : Nat} {w : World} {p b : Nat} {P : PW} {S : Ws}
theorem WiA.drop (h : WiA B w p b P S) {x : Wn} {L : List Wn} (hL : S.L = x :: L) (hs : SmallL S.L) (ty : TypeId) :
    ∃ w', (Builtin.delete_ #[tO, 2] ty #[.map (some b), .int .i64 x.num]).run Try.prog w = .ok (.tuple #[]) w' ∧ WiA B w' p b (fun z => if z = x.num then none else P z) { S with L := L } ∧ Turns [b] w w' := by
  have hxm : x ∈ S.L := by rw [hL]; simp
  obtain ⟨g, f, hg, _⟩ := h.tel.mem x hxm
  obtain ⟨w', hrun, hm, ht⟩ := h.map.drop num_keyed undO (num_ok (hs.num x hxm)) ty
  have hsrt := hs.srt
  rw [hL] at hsrt
  have hc := List.pairwise_cons.1 hsrt
  refine ⟨w', hrun, ⟨h.head.turns ht (by simpa using h.ne), ?_, ⟨fun y hy => ?_, fun z q hz => ?_⟩, h.low, h.ne, fun z q hz => ?_, h.len⟩, ht⟩
  · have e : (if (P x.num).isSome then S.L.length - 1 else S.L.length) = L.length := by rw [hg, hL]; simp
    rw [e] at hm
    exact hm
  · obtain ⟨g2, f2, h2, h3⟩ := h.tel.mem y (by rw [hL]; simp [hy])
    have := hc.1 y hy
    exact ⟨g2, f2, by rw [if_neg (by omega)]; exact h2, h3⟩
  · by_cases hzx : z = x.num
    · rw [if_pos hzx] at hz; cases hz
    · rw [if_neg hzx] at hz
      obtain ⟨y, hy, e⟩ := h.tel.all z q hz
      rw [hL] at hy
      rcases List.mem_cons.1 hy with rfl | hy
      · exact absurd e.symm hzx
      · exact ⟨y, hy, e⟩
  · by_cases hzx : z = x.num
    · rw [if_pos hzx] at hz; cases hz
    · rw [if_neg hzx] at hz
      exact h.apart z q hz
theorem SmallL.dropped {L : List Wn} (h : SmallL L) (k : Nat) : SmallL (L.drop k) :=
  ⟨h.srt.sublist (List.drop_sublist _ _), fun x hx => h.num x (List.mem_of_mem_drop hx), fun x hx => h.cr x (List.mem_of_mem_drop hx), by have := h.len; simp; omega⟩
set_option maxRecDepth 100000 in
set_option maxHeartbeats 4000000 in
theorem closeTo_any (h : WiA B w p b P S) (hs : SmallL S.L) (hB : B ≤ w.heap.size) (last : Int) :
    Calls Try.prog 35 #[ptrV p, .int .i64 last] w fun e w' => ∃ o H P', e = .returned o ∧ WnL w' H o (S.L.take (upW last S.L)) ∧ WiA B w' p b P' { S with L := S.L.drop (upW last S.L), floor := max S.floor last } ∧ SubP P' P ∧ Turns [p, b] w w' ∧ ∀ i ∈ H, w.heap.size ≤ i ∧ i < w'.heap.size := by
  have H := Lib.hid h
  have HS := Lib.hid hs
  obtain ⟨-, -, -, -, -, -, -, c7, -⟩ := h.head.cells
  have HR := Lib.hid (risingI_any h hs.srt (by have := hs.len; omega))
  have HPB : Hid (p < w.heap.size ∧ b < w.heap.size) := Lib.hid ⟨h.head.lt, h.map.map.lt⟩
  clear h hs
  have HEND : Hid (∀ (wr : World) (k : Nat) (Pk : PW) (v : Value) (G : List Nat) (R : List Rw), k = upW last S.L → Hid (WiA B wr p b Pk { S with L := S.L.drop k }) → Hid (SubP Pk P) → Hid (LisJ w v G R (S.L.take k) wr) → Hid (Turns [p, b] w wr) → ∀ fl : Int, fl = max S.floor last →
      ∃ o H P', Ending.returned v = .returned o ∧ WnL (wr.setCell ⟨p, 3, none⟩ (.int .i64 fl)) H o (S.L.take (upW last S.L)) ∧ WiA B (wr.setCell ⟨p, 3, none⟩ (.int .i64 fl)) p b P' { S with L := S.L.drop (upW last S.L), floor := max S.floor last } ∧ SubP P' P ∧ Turns [p, b] w (wr.setCell ⟨p, 3, none⟩ (.int .i64 fl)) ∧ ∀ i ∈ H, w.heap.size ≤ i ∧ i < (wr.setCell ⟨p, 3, none⟩ (.int .i64 fl)).heap.size) := Lib.hid fun wr k Pk v G R hk hw hP hJ ht fl hfl => by
    subst hk hfl
    obtain ⟨h1, h2⟩ := hw.out.put (S' := { S with L := S.L.drop (upW last S.L), floor := max S.floor last }) 3 (.int .i64 (max S.floor last)) rfl rfl rfl
    have hj := (hJ.out.low h2 (by have := HPB.out; simp; omega)).fin
    exact ⟨v, _, Pk, rfl, hj.1, h1, hP.out, ht.out.trans h2 (by simp), fun i hi => hj.2 i hi⟩
  go_enter Try.func35, Try.ntmps35
  go_wp2_with fail
  refine HR.out.mono ?_
  rintro e w1 ⟨⟨kv, rfl, hkv⟩, ht1⟩
  obtain ⟨KA, kc, rfl, hkeys⟩ := i64K_cells hkv
  have HKY := Lib.hid hkeys
  have HT1 := Lib.hid ht1
  have hln : (S.L.map Wn.num).length = S.L.length := by simp
  rw [hln]
  clear hkv hkeys ht1 hln c7 HR
  go_wp2_with fail
  go_loopw [5, 14] (fun s i wr => ∃ (k : Nat) (v : Value) (G : List Nat) (R : List Rw) (Pk : PW), v = s ∧ k ≤ S.L.length ∧ i = .int .i64 k ∧ Hid (k ≤ upW last S.L) ∧ Hid (WiA B wr p b Pk { S with L := S.L.drop k }) ∧ Hid (SubP Pk P) ∧ Hid (LisJ w v G R (S.L.take k) wr) ∧ Hid (Turns [p, b] w wr) ∧ Hid (∀ i, w.heap.size ≤ i → i < w1.heap.size → i ∉ ownB v ∧ wr.heap[i]? = w1.heap[i]?) ∧ Hid (w1.heap.size ≤ wr.heap.size)) (fun _ i _ => S.L.length - (intOf i).toNat)
  case atStart => exact ⟨0, _, _, _, P, rfl, Nat.zero_le _, rfl, Lib.hid (Nat.zero_le _), Lib.hid (H.out.pre HT1.out), Lib.hid (fun _ _ h => h), Lib.hid (LisJ.start w w1), Lib.hid (HT1.out.mono (by simp)), Lib.hid (fun i h1 h2 => ⟨by simp [ownB, Value.ownBlock], rfl⟩), Lib.hid (Nat.le_refl _)⟩
  case round =>
    obtain ⟨k, v, G, R, Pk, rfl, hk, rfl, HU, HW, HP, HJ, HT, HK, HSZ⟩ := hrel
    have hl9 : (S.L.length : Int) ≤ 50000 := by have := HS.out.len; omega
    obtain ⟨-, -, -, q3, -, -, -, q7, qf⟩ := HW.out.head.cells
    have q3 : wr.cell? ⟨p, 3, none⟩ = some (.int .i64 S.floor) := q3
    by_cases hlt : k < S.L.length
    · obtain ⟨x, hx⟩ : ∃ x, S.L[k]? = some x := ⟨_, List.getElem?_eq_getElem hlt⟩
      have hxm := List.mem_of_getElem? hx
      obtain ⟨kb, rfl, hk1, hk2, hkc⟩ := HKY.out k x.num (by simp [hx])
      have hc1 : wr.cell? ⟨kb, k, none⟩ = some (.int .i64 x.num) := by
        rw [World.cell?_of_block (a := ⟨kb, k, none⟩) (HK.out kb hk1 hk2).2, hkc]
      have hlt' : (k : Int) < (S.L.length : Int) := by omega
      have hk0 : (0 : Int) ≤ (k : Int) := by omega
      have HX := Lib.hid hx
      by_cases hle : x.num ≤ last
      · have hd : decide (last < x.num) = false := by simp; omega
        have HLE := Lib.hid hle
        have hdr : S.L.drop k = x :: S.L.drop (k + 1) := by
          obtain ⟨h1, h2⟩ := List.getElem?_eq_some_iff.1 hx
          rw [← h2]
          exact List.drop_eq_getElem_cons h1
        have HDR := Lib.hid hdr
        obtain ⟨g, f, hpg, htc⟩ := HW.out.tel.mem x (show x ∈ S.L.drop k by rw [hdr]; simp)
        have HTE := Lib.hid (tell_any HW.out (HS.out.num x hxm) hpg htc (HS.out.cr x hxm))
        clear hxm hx hk1 hk2 hkc hpg htc hle hdr q3
        go_wp2_with fail
        refine HTE.out.mono ?_
        rintro e w3 ⟨cv, rfl, hcv, ht3⟩
        obtain ⟨A, c, rfl, -, -, -⟩ := hcv.readsG
        have HCV := Lib.hid hcv
        have HT3 := Lib.hid ht3
        have HO3 : Hid (∀ C, wK.Own w.heap.size (w3.alloc (.cells C 42)) v R ∧ w.heap.size ≤ (w3.alloc (.cells C 42)).heap.size) := Lib.hid fun C => by
          have h1 := ht3.then (Turns.alloc (F := []) w3 (.cells C 42))
          exact ⟨HJ.out.own.turns h1 (by simp), Nat.le_trans HT.out.size h1.size⟩
        have HLN : Hid (R.length + [(⟨x.num, A, x.cr.length, c⟩ : Rw)].length ≤ 100000) := Lib.hid (by have h1 := HJ.out.rds.1; have := HS.out.len; rw [List.length_take] at h1; simp; omega)
        have HFIN : Hid (∀ (w5 : World) (C : Array Value) (v5 : Value), Hid (wK.Own w.heap.size w5 v5 (R ++ [⟨x.num, A, x.cr.length, c⟩])) → Hid (Turns (ownB v) (w3.alloc (.cells C 42)) w5) → Hid (∀ i ∈ ownB v5, i ∈ ownB v ∨ i = (w3.alloc (.cells C 42)).heap.size) →
            LisJ w v5 (ownB (.slice A x.cr.length c) ++ G) (R ++ [⟨x.num, A, x.cr.length, c⟩]) (S.L.take (k + 1)) w5 ∧ Turns [p, b] w w5 ∧ (∀ i, w.heap.size ≤ i → i < w1.heap.size → i ∉ ownB v5 ∧ w5.heap[i]? = w1.heap[i]?) ∧ w1.heap.size ≤ w5.heap.size ∧ WiA B w5 p b Pk { S with L := S.L.drop k }) := Lib.hid fun w5 C v5 ho ht hf => by
          have e : S.L.take (k + 1) = S.L.take k ++ [x] := by rw [List.take_add_one, HX.out]; rfl
          have h34 : Turns [] w3 (w3.alloc (.cells C 42)) := Turns.alloc _ _
          have h4 := HT3.out.then h34
          have := h4.size
          have := ht.out.size
          have := HSZ.out
          rw [e]
          refine ⟨HJ.out.app HT.out.size HCV.out HT3.out h34 ho.out ht.out hf.out, (HT.out.trans h4 (by simp)).trans ht.out fun i hi => .inr (HJ.out.own.foot i hi).1, fun i h1 h2 => ⟨fun hm => ?_, ?_⟩, by omega, (HW.out.pre h4).turns ht.out fun i hi hin => ?_⟩
          · rcases hf.out i hm with h5 | h5
            · exact (HK.out i h1 h2).1 h5
            · omega
          · rw [ht.out.block i (by omega) (HK.out i h1 h2).1, h4.block i (by omega) (by simp), (HK.out i h1 h2).2]
          · have h6 := (HJ.out.own.foot i hi).1
            have h7 := H.out.lt i (by
              rcases hin with e | e | ⟨z, q, hq, e⟩
              · exact .inl e
              · exact .inr (.inl e)
              · exact .inr (.inr ⟨z, q, HP.out z q hq, e⟩))
            omega
        clear hcv ht3 HTE hc1
        go_upto_region 7 with (at_builtin; refine EK.wpList_append (K := wK) wOk rfl (.tmp 21) (.tmp 25) rfl w.heap.size v R rfl (HO3.out _).1 (w3.heap.size + 1) (some ⟨w3.heap.size, 0, none⟩) [⟨x.num, A, x.cr.length, c⟩] 1 1 rfl rfl (EK.Reads.lone wOk (W := w3) (⟨x.num, A, x.cr.length, c⟩ : Rw) _ _ rfl rfl) (by simp) HLN.out (HO3.out _).2 ?_; intro v5 w5 ho5 ht5 hf5; have HO5 := Lib.hid ho5; have HT5 := Lib.hid ht5; have HF5 := Lib.hid hf5; clear ho5 ht5 hf5)
        obtain ⟨e1, e2, e3, e4, e5⟩ := HFIN.out w5 _ v5 HO5 HT5 HF5
        obtain ⟨-, -, -, -, -, -, -, r7, -⟩ := e5.head.cells
        obtain ⟨w6, hdel, h6, ht6⟩ := e5.drop HDR.out (HS.out.dropped k) 0
        have hb := HPB.out.2
        have HR : Hid (LisJ w v5 (ownB (.slice A x.cr.length c) ++ G) (R ++ [⟨x.num, A, x.cr.length, c⟩]) (S.L.take (k + 1)) w6 ∧ Turns [p, b] w w6 ∧ (∀ i, w.heap.size ≤ i → i < w1.heap.size → i ∉ ownB v5 ∧ w6.heap[i]? = w1.heap[i]?) ∧ w1.heap.size ≤ w6.heap.size ∧ WiA B w6 p b (fun z => if z = x.num then none else Pk z) { S with L := S.L.drop (k + 1) } ∧ SubP (fun n => if n = x.num then none else Pk n) P) :=
          Lib.hid ⟨e1.low ht6 (by simp; omega), e2.trans ht6 (by simp), fun i h1 h2 => ⟨(e3 i h1 h2).1, by rw [ht6.block i (by omega) (by simp; omega), (e3 i h1 h2).2]⟩, Nat.le_trans e4 ht6.size, h6, fun n q hq => by
            simp only at hq
            by_cases hn : n = x.num
            · rw [if_pos hn] at hq; cases hq
            · rw [if_neg hn] at hq; exact HP.out n q hq⟩
        clear e1 e2 e3 e4 e5 h6 ht6 HO5 HT5 HF5 HFIN HO3 q7 qf
        go_wp2_with fail
        go_roundw
        case rel => exact ⟨k + 1, _, _, _, _, rfl, by omega, by go_num, Lib.hid (upW_more HU.out HX.out HLE.out), Lib.hid HR.out.2.2.2.2.1, Lib.hid HR.out.2.2.2.2.2, Lib.hid HR.out.1, Lib.hid HR.out.2.1, Lib.hid HR.out.2.2.1, Lib.hid HR.out.2.2.2.1⟩
        case measure => simp [intOf] <;> omega
      · have hd : decide (last < x.num) = true := by simp; omega
        have HKU : Hid (k = upW last S.L) := Lib.hid (upW_end HU.out hx hle)
        clear hxm hx hk1 hk2 hkc hle q7
        go_wp2_with fail
        all_goals
          go_ret
          obtain ⟨o, H2, P2, he, hq1, hq2⟩ := HEND.out _ _ _ _ _ _ HKU.out HW HP HJ HT _ rfl
          exact ⟨o, by rw [← he]; rfl, H2, hq1, P2, hq2⟩
    · have HKU : Hid (k = upW last S.L) := Lib.hid (by
        have h1 := upW_le last S.L
        have := HU.out
        omega)
      have hge : decide ((k : Int) < (S.L.length : Int)) = false := by simp; omega
      have hge2 : ¬ (k : Int) < (S.L.length : Int) := by omega
      clear q7
      go_wp2_with fail
      all_goals
        go_ret
        obtain ⟨o, H2, P2, he, hq1, hq2⟩ := HEND.out _ _ _ _ _ _ HKU.out HW HP HJ HT _ rfl
        exact ⟨o, by rw [← he]; rfl, H2, hq1, P2, hq2⟩
end
end Go.Proofs.Ytjkkpdflijjllaa
