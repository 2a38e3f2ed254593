/- The document's Put. -/
import Derived.Test.YtcjmieofmogeiaaStAny
namespace Go.Proofs.Ytcjmieofmogeiaa
open Go.RowKit

/-- How far the first loop has come: what it answers so far and the store's list. -/
structure PutI (B : Nat) (w : World) (rv : Nat) (v : Value) (most : Nat) (r : List Sn × List One) (o : Value) (W : World) : Prop where
  out : nK.Own w.heap.size W o r.1
  old : ∃ v', RefS B W rv v' most r.2 ∧ (∀ i ∈ ownB v', i ∈ ownB v ∨ w.heap.size ≤ i) ∧ ∀ i ∈ ownB o, i ∉ ownB v'
  tt : Turns (rv :: ownB v) w W
  low : rv < w.heap.size
section
variable {B : Nat} {w : World} {rv : Nat} {v : Value} {most : Nat} {L : List One} {r : List Sn × List One} {o : Value} {W W' : World}
theorem PutI.start (h : RefS B w rv v most L) : PutI B w rv v most ([], L) (.slice none 0 0) w :=
  ⟨World.ownsRow_nil _ _ _ _, ⟨v, h, fun i hi => .inl hi, fun i hi => by simp [ownB, Value.ownBlock] at hi⟩, Turns.refl _ _, h.lt⟩
theorem PutI.rvo (h : PutI B w rv v most r o W) : rv ∉ ownB o := fun hm => by have := (h.out.foot rv hm).1; have := h.low; omega
theorem PutI.next (h : PutI B w rv v most r o W) (ht : Turns [] W W') : PutI B w rv v most r o W' := by
  obtain ⟨v', h1, h2, h3⟩ := h.old
  exact ⟨h.out.turns ht (by simp), ⟨v', h1.pre ht, h2, h3⟩, h.tt.trans ht (by simp), h.low⟩
theorem PutI.one {v' : Value} {q : Sn × List One} {e : Ending} (h : PutI B w rv v most r o W) (h2 : ∀ i ∈ ownB v', i ∈ ownB v ∨ w.heap.size ≤ i) (h3 : ∀ i ∈ ownB o, i ∉ ownB v') (hq : OneR B W rv v' most q e W') : PutI B w rv v most (r.1, q.2) o W' := by
  obtain ⟨_, v1, hS, hT, hF⟩ := hq
  have hr := h.rvo
  refine ⟨h.out.turns hT (fun g hg => ?_), ⟨v1, hS, fun i hi => ?_, fun i hi hm => ?_⟩, h.tt.trans hT (fun i hi => ?_), h.low⟩
  · have hm : g ∈ ownB o := by unfold ownB; rw [hg]; simp
    rw [List.mem_cons]
    rintro (rfl | h4)
    · exact hr hm
    · exact h3 g hm h4
  · rcases hF i hi with h4 | h4
    · exact h2 i h4
    · exact .inr (Nat.le_trans h.tt.size h4)
  · rcases hF i hm with h4 | h4
    · exact h3 i hi h4
    · have := (h.out.foot i hi).2; omega
  · rw [List.mem_cons] at hi
    rcases hi with rfl | h4
    · exact .inl (List.mem_cons_self ..)
    · exact (h2 i h4).imp (List.mem_cons_of_mem _) id
theorem PutI.app {o' : Value} {l2 : List Sn} (h : PutI B w rv v most r o W) (ho : nK.Own w.heap.size W' o' (r.1 ++ l2)) (ht : Turns (ownB o) W W') (hf : ∀ i ∈ ownB o', i ∈ ownB o ∨ i = W.heap.size) : PutI B w rv v most (r.1 ++ l2, r.2) o' W' := by
  obtain ⟨v', h1, h2, h3⟩ := h.old
  refine ⟨ho, ⟨v', h1.turns ht h.rvo (fun i hi hm => h3 i hm hi), h2, fun i hi hm => ?_⟩, h.tt.trans ht (fun i hi => .inr (h.out.foot i hi).1), h.low⟩
  rcases hf i hi with h4 | h4
  · exact h3 i h4 hm
  · have := (h1.own.foot i hm).2; omega
theorem putsP_take (most : Nat) (owner : Int) {l : List Smp} {k : Nat} {x : Smp} (hx : l[k]? = some x) (L : List One) : putsP most owner (l.take (k + 1)) L = ((putsP most owner (l.take k) L).1 ++ [(oneP most owner x (putsP most owner (l.take k) L).2).1], (oneP most owner x (putsP most owner (l.take k) L).2).2) := by
  rw [List.take_add_one, hx]
  exact putsP_snoc most owner x _ L
theorem putsP_len (most : Nat) (owner : Int) : ∀ (l : List Smp) (L : List One), (putsP most owner l L).1.length = l.length ∧ (putsP most owner l L).2.length ≤ L.length + l.length
  | [], L => ⟨rfl, Nat.le_refl _⟩
  | x :: l, L => by
    have h1 := oneP_len most owner x L
    have h2 := putsP_len most owner l (oneP most owner x L).2
    simp only [putsP, List.length_cons]
    omega
end
end Go.Proofs.Ytcjmieofmogeiaa

namespace Go.Proofs.Ytcjmieofmogeiaa
open Go.RowKit

/-- The store's list when k of its series have been looked at. -/
def stL (owner : Int) (l : List Smp) (k : Nat) (L : List One) : List One := (L.take k).map (staleB owner l) ++ L.drop k
section
variable {B : Nat} {w : World} {rv : Nat} {v : Value} {most : Nat} {L : List One} {r : List Sn × List One} {o : Value} {W W' : World} {owner : Int} {l : List Smp}
theorem stL_zero : stL owner l 0 L = L := rfl
theorem stL_all : stL owner l L.length L = L.map (staleB owner l) := by simp [stL]
theorem stL_len (k : Nat) : (stL owner l k L).length = L.length := by
  simp only [stL, List.length_append, List.length_map, List.length_take, List.length_drop]
  omega
theorem stL_at {k : Nat} {y : One} (h : L[k]? = some y) : (stL owner l k L)[k]? = some y := by
  have hk := (List.getElem?_eq_some_iff.1 h).1
  unfold stL
  rw [List.getElem?_append_right (by simp; omega)]
  simp only [List.length_map, List.length_take, List.getElem?_drop]
  rw [show k + (k - min k L.length) = k by omega]
  exact h
theorem stL_next {k : Nat} {y : One} (h : L[k]? = some y) : stL owner l (k + 1) L = (stL owner l k L).set k (staleB owner l y) := by
  have hk := (List.getElem?_eq_some_iff.1 h).1
  have h2 : L[k] = y := (List.getElem?_eq_some_iff.1 h).2
  unfold stL
  rw [List.take_add_one, h, List.drop_eq_getElem_cons hk, h2, List.set_append_right _ _ (by simp; omega)]
  simp [show k - min k L.length = 0 by omega]
theorem stL_keep {k : Nat} {y : One} (h : L[k]? = some y) (he : staleB owner l y = y) : stL owner l (k + 1) L = stL owner l k L := by
  rw [stL_next h, he]
  have e := stL_at (owner := owner) (l := l) h
  obtain ⟨hk, e⟩ := List.getElem?_eq_some_iff.1 e
  rw [← e]
  exact List.set_getElem_self hk
theorem amongB_next {k : Nat} {x : Smp} (h : l[k]? = some x) (n : ByteArray) : amongB (l.take (k + 1)) n = (amongB (l.take k) n || eqN x.name n) := by
  unfold amongB
  rw [List.take_add_one, h]
  simp
/-- A series goes stale. -/
theorem RefS.live (h : RefS B W rv v most L) {g k c : Nat} {y : One} (hv : v = .slice (some ⟨g, 0, none⟩) L.length c) (hy : L[k]? = some y) : RefS B (W.setCell ⟨g, k * 7 + 1 + 4, none⟩ (.bool false)) rv v most (L.set k ⟨y.name, ⟨y.l.s, false, y.l.own⟩⟩) := by
  have ht := Turns.setCell (F := [g]) W ⟨g, k * 7 + 1 + 4, none⟩ (.bool false) (by simp)
  have hg : rv ∉ [g] := fun hm => h.ne (by rw [hv]; simpa [ownB, Value.ownBlock] using hm)
  refine ⟨(ht.block rv h.lt hg).trans h.head, ?_, h.low, h.ne⟩
  have h3 := h.own
  rw [hv] at h3 ⊢
  unfold EK.Own at h3 ⊢
  rw [List.length_set, flatO_live L k y false hy]
  exact own_cell h3 _ _
theorem PutI.live {v' : Value} {g k c : Nat} {y : One} (h : PutI B w rv v most r o W) (hS : RefS B W rv v' most r.2) (h2 : ∀ i ∈ ownB v', i ∈ ownB v ∨ w.heap.size ≤ i) (h3 : ∀ i ∈ ownB o, i ∉ ownB v') (hv : v' = .slice (some ⟨g, 0, none⟩) r.2.length c) (hy : r.2[k]? = some y) :
    PutI B w rv v most (r.1, r.2.set k ⟨y.name, ⟨y.l.s, false, y.l.own⟩⟩) o (W.setCell ⟨g, k * 7 + 1 + 4, none⟩ (.bool false)) := by
  have ht := Turns.setCell (F := [g]) W ⟨g, k * 7 + 1 + 4, none⟩ (.bool false) (by simp)
  have hg : g ∈ ownB v' := by rw [hv]; simp [ownB, Value.ownBlock]
  refine ⟨h.out.turns ht (fun i hi hm => ?_), ⟨v', hS.live hv hy, h2, h3⟩, h.tt.trans ht (fun i hi => ?_), h.low⟩
  · rw [List.mem_singleton] at hm
    subst hm
    exact h3 i (by unfold ownB; rw [hi]; simp) hg
  · rw [List.mem_singleton] at hi
    subst hi
    exact (h2 i hg).imp (List.mem_cons_of_mem _) id
end
end Go.Proofs.Ytcjmieofmogeiaa

namespace Go.Proofs.Ytcjmieofmogeiaa
open Go.RowKit

def PutR (B : Nat) (w : World) (rv : Nat) (v : Value) (most : Nat) (r : List Sn × List One) (e : Ending) (w' : World) : Prop :=
  ∃ o, e = .returned o ∧ PutI B w rv v most r o w'
section
variable {B : Nat} {w : World} {rv : Nat} {v : Value} {most : Nat} {L : List One} {l : List Smp} {A : Option Addr} {c : Nat}
set_option maxRecDepth 100000 in
set_option maxHeartbeats 16000000 in
theorem rput_any (h : RefS B w rv v most L) (hB : B ≤ w.heap.size) (hL : L.length + l.length ≤ 90000) (hc : l.length ≤ c) (hr : sK.Reads w w.heap.size A l) (hA : l = [] ∨ ∀ a, A = some a → a.block ∉ rv :: ownB v) (owner : Int) :
    Calls Try.prog 36 #[.pointer (some ⟨rv, 0, none⟩), .int .i64 owner, .slice A l.length c] w (PutR B w rv v most (putP most owner l L)) := by
  have H := Lib.hid h
  have HB := Lib.hid hB
  have HL := Lib.hid hL
  have HR := Lib.hid (fun (X : World) (ht : Turns (rv :: ownB v) w X) => show sK.Reads X w.heap.size A l from by
    rcases hA with h | h
    · exact .inl h
    · exact hr.turns (Nat.le_refl _) ht h)
  have HS := Lib.hid (PutI.start h)
  have f5 : (l.length : Int) ≤ 90000 := by omega
  have f6 : l.length ≤ c := hc
  clear h hB hL hr hA
  go_enter Try.func36, Try.ntmps36
  go_upto_block 0 with fail
  go_cut [7, 8] from 12 to 27 (fun o i wx => i = .int .i64 (l.length : Int) ∧ Hid (PutI B w rv v most (putsP most owner l L) o wx))
  case first =>
    go_wp2_with fail
    go_loopw [7, 8] (fun o i wr => ∃ k : Nat, i = .int .i64 (k : Int) ∧ k ≤ l.length ∧ Hid (PutI B w rv v most (putsP most owner (l.take k) L) o wr)) (fun _ i _ => l.length - (intOf i).toNat)
    case atStart => exact ⟨0, rfl, Nat.zero_le _, by rw [List.take_zero]; exact HS⟩
    case round =>
      obtain ⟨k, rfl, hk, HW⟩ := hrel
      by_cases hlt : k < l.length
      · obtain ⟨x, hx⟩ : ∃ x, l[k]? = some x := ⟨_, List.getElem?_eq_getElem hlt⟩
        obtain ⟨b, off, hA, hb, hcl⟩ := (HR.out wr HW.out.tt).at sOk (by omega)
        have hc1 := hcl k x hx
        have d0 := hc1 0 _ rfl
        have d1 := hc1 1 _ rfl
        have d2 := hc1 2 _ rfl
        have d3 := hc1 3 _ rfl
        simp only [sK, Nat.add_zero, ← Nat.add_assoc] at d0 d1 d2 d3
        obtain ⟨v', hS, h2, h3⟩ := HW.out.old
        have hl1 := putsP_len most owner (l.take k) L
        rw [List.length_take] at hl1
        have hl2 := HL.out
        have HONE := Lib.hid (rone_any hS (Nat.le_trans HB.out HW.out.tt.size) (by omega) owner x)
        have HTK := Lib.hid (putsP_take most owner hx L)
        have HN := Lib.hid (fun (q : Sn × List One) (e : Ending) (X : World) (hq : OneR B wr rv v' most q e X) => HW.out.one h2 h3 hq)
        have HLE := Lib.hid (show (putsP most owner (l.take k) L).1.length + [(oneP most owner x (putsP most owner (l.take k) L).2).1].length ≤ 100000 by rw [hl1.1]; simp; omega)
        generalize putsP most owner (l.take k) L = r0 at HTK HONE HN HLE HW hl1
        generalize oneP most owner x r0.2 = q at HTK HONE HN HLE
        unfold Smp.val' at HONE
        have f7 : (k : Int) < (l.length : Int) := by omega
        have f8 : (0 : Int) ≤ (k : Int) := by omega
        clear hcl hc1 hS h2 h3 hl1 hl2 hx
        subst hA
        go_wp2_with fail
        refine HONE.out.mono ?_
        rintro e w1 hq
        have HQ1 := Lib.hid (HN.out _ _ _ hq)
        obtain ⟨rfl, -⟩ := hq
        have HOW := Lib.hid (fun C => (HQ1.out.next (Turns.alloc (F := []) w1 C)).out)
        have HBS := Lib.hid (fun C => show w.heap.size ≤ (w1.alloc C).heap.size from Nat.le_trans HQ1.out.tt.size (by simp))
        unfold Sn.val'
        go_wp2_with (at_builtin; refine EK.wpList_append nOk rfl (.tmp 18) (.tmp 26) rfl w.heap.size u7 r0.1 rfl (HOW.out _) (w1.heap.size + 1) (some ⟨w1.heap.size, 0, none⟩) [q.1] 1 1 rfl rfl (EK.Reads.lone nOk (W := w1) q.1 _ _ rfl rfl) (by simp) HLE.out (HBS.out _) ?_; intro v2 w2 ho2 ht2 hf2; have HA2 := Lib.hid ((HQ1.out.next (Turns.alloc (F := []) w1 _)).app ho2 ht2 hf2); clear ho2 ht2 hf2)
        go_roundw
        case rel => exact ⟨k + 1, by go_num, by omega, by rw [HTK.out]; exact HA2⟩
        case measure => simp [intOf] <;> omega
      · obtain rfl : k = l.length := by omega
        have f7 : ¬ (l.length : Int) < (l.length : Int) := by omega
        rw [List.take_length] at HW
        go_wp2_with fail
        go_meet
        exact ⟨rfl, HW⟩
  case rest =>
  obtain ⟨rfl, HW0⟩ := hcut
  have HP : Hid (putP most owner l L = ((putsP most owner l L).1, (putsP most owner l L).2.map (staleB owner l))) := Lib.hid rfl
  have HPL := Lib.hid (putsP_len most owner l L)
  generalize putsP most owner l L = p at HW0 HP HPL
  have f12 : (p.2.length : Int) ≤ 90000 := by have := HPL.out.2; have := HL.out; omega
  go_upto_block 2 with fail
  go_cut [9, 10, 11] from 28 to 82 (fun i a j wx => Hid (PutI B w rv v most (p.1, p.2.map (staleB owner l)) u7 wx))
  case first =>
    go_wp2_with fail
    go_loopw [9, 10, 11] (fun i a j wr => ∃ k : Nat, i = .int .i64 (k : Int) ∧ k ≤ p.2.length ∧ Hid (PutI B w rv v most (p.1, stL owner l k p.2) u7 wr)) (fun i _ _ _ => p.2.length - (intOf i).toNat)
    case atStart => exact ⟨0, rfl, Nat.zero_le _, by rw [stL_zero]; exact HW0⟩
    case round =>
      obtain ⟨k, rfl, hk, HW⟩ := hrel
      generalize wr = W2 at HW ⊢
      obtain ⟨v', hS, h2, h3⟩ := HW.out.old
      by_cases hlt : k < p.2.length
      · obtain ⟨y, hy⟩ : ∃ y, p.2[k]? = some y := ⟨_, List.getElem?_eq_getElem hlt⟩
        obtain ⟨g, c', hv', hg1, hg2, hg3, hcl⟩ := hS.at_ (stL_at hy)
        rw [stL_len] at hv'
        have HV := Lib.hid hv'
        have HY := Lib.hid hy
        have HX := Lib.hid (fun (X : World) (ht : Turns [] W2 X) => by
          have hS' := hS.pre ht
          obtain ⟨g', c'', hv'', _, _, _, hcl'⟩ := hS'.at_ (stL_at (owner := owner) (l := l) hy)
          rw [hv', stL_len] at hv''
          cases hv''
          have d0 := hcl' 0 _ rfl
          have d6 := hcl' 6 _ rfl
          have d5 := hcl' 5 _ rfl
          simp only [Nat.add_zero] at d0 d5 d6
          exact (⟨by rw [← hv']; exact hS'.cells.1, d0, d6, (by
            have ho := hS'.own
            rw [hv'] at ho
            unfold EK.Own at ho
            rw [stL_len] at ho
            exact own_frozen ho _), d5⟩ : X.cell? ⟨rv, 0, none⟩ = some (.slice (some ⟨g, 0, none⟩) p.2.length c') ∧ X.cell? ⟨g, k * 7, none⟩ = some (.string y.name) ∧ X.cell? ⟨g, k * 7 + 1 + 5, none⟩ = some (.int .i64 y.l.own) ∧ X.frozen? ⟨g, k * 7 + 1 + 4, none⟩ = false ∧ X.cell? ⟨g, k * 7 + 1 + 4, none⟩ = some (.bool y.l.live)))
        clear hv' hcl hg1 hg2 hg3
        have f7 : (k : Int) < (p.2.length : Int) := by omega
        have f8 : (0 : Int) ≤ (k : Int) := by omega
        obtain ⟨e0, e1, e2, e3, e4⟩ := HX.out W2 (Turns.refl _ _)
        go_upto_block 4 with fail
        go_cut [10, 11] from 37 to 59 (fun a j wx => a = .bool (amongB l y.name) ∧ Hid (Turns [] W2 wx))
        case first =>
          clear e0 e1 e2 e3 e4 h2 h3 hS
          go_wp2_with fail
          go_loopw [10, 11] (fun a j wq => ∃ m : Nat, j = .int .i64 (m : Int) ∧ m ≤ l.length ∧ a = .bool (amongB (l.take m) y.name) ∧ Hid (Turns [] W2 wq)) (fun _ j _ => l.length - (intOf j).toNat)
          case atStart => exact ⟨0, rfl, Nat.zero_le _, rfl, Lib.hid (Turns.refl _ _)⟩
          case round =>
            obtain ⟨m, rfl, hm, rfl, HT⟩ := hrel
            obtain ⟨e0, e1, e2, e3, e4⟩ := HX.out wr HT.out
            have HTD := Lib.hid (fun n : Nat => HT.out.drewN0 n)
            by_cases hlm : m < l.length
            · obtain ⟨x, hx⟩ : ∃ x, l[m]? = some x := ⟨_, List.getElem?_eq_getElem hlm⟩
              obtain ⟨b, off, hA, hb, hcx⟩ := ((HR.out W2 HW.out.tt).turns (by have := HW.out.tt.size; omega) HT.out (fun a ha => by simp)).at sOk (by omega)
              have d0 := hcx m x hx 0 _ rfl
              simp only [sK, Nat.add_zero] at d0
              have HAM := Lib.hid (amongB_next hx y.name)
              have f9 : (m : Int) < (l.length : Int) := by omega
              have f10 : (0 : Int) ≤ (m : Int) := by omega
              clear hcx hx
              subst hA
              cases ha : amongB (l.take m) y.name with
              | true =>
                go_wp2_with fail
                go_quiet (fail)
                go_wp2
                go_roundw
                case rel => exact ⟨m + 1, by go_num, by omega, by rw [HAM.out, ha]; rfl, Lib.hid (HTD.out _)⟩
                case measure => simp [intOf] <;> omega
              | false =>
                cases he : eqN x.name y.name with
                | true =>
                  have HE := Lib.hid he
                  unfold eqN at he
                  go_wp2_with fail
                  go_quiet (fail)
                  go_wp2
                  go_roundw
                  case rel => exact ⟨m + 1, by go_num, by omega, by rw [HAM.out, ha, HE.out]; rfl, Lib.hid (HTD.out _)⟩
                  case measure => simp [intOf] <;> omega
                | false =>
                  have HE := Lib.hid he
                  unfold eqN at he
                  go_wp2_with fail
                  go_quiet (fail)
                  go_wp2
                  go_roundw
                  case rel => exact ⟨m + 1, by go_num, by omega, by rw [HAM.out, ha, HE.out]; rfl, Lib.hid (HTD.out _)⟩
                  case measure => simp [intOf] <;> omega
            · obtain rfl : m = l.length := by omega
              have f9 : ¬ (l.length : Int) < (l.length : Int) := by omega
              rw [List.take_length]
              go_wp2_with fail
              go_meet
              exact ⟨rfl, HT⟩
        case rest =>
        obtain ⟨rfl, HT⟩ := hcut
        obtain ⟨e0, e1, e2, e3, e4⟩ := HX.out wc HT.out
        have HW3 := Lib.hid (HW.out.next HT.out)
        have HK : Hid (staleB owner l y = y → PutI B w rv v most (p.1, stL owner l (k + 1) p.2) u7 wc) := Lib.hid (fun e => by rw [stL_keep HY.out e]; exact HW3.out)
        have HS3 := Lib.hid (hS.pre HT.out)
        by_cases hown : y.l.own = owner
        · have f11 : decide (y.l.own = owner) = true := by simpa using hown
          cases ha : amongB l y.name with
          | true =>
            have HN := Lib.hid (HK.out (by unfold staleB; rw [if_neg (by rw [ha]; simp)]))
            clear hS h2 h3
            go_wp2_with fail
            go_roundw
            case rel => exact ⟨k + 1, by go_num, by omega, HN⟩
            case measure => simp [intOf] <;> omega
          | false =>
            have HN : Hid (PutI B w rv v most (p.1, stL owner l (k + 1) p.2) u7 (wc.setCell ⟨g, k * 7 + 1 + 4, none⟩ (.bool false))) := Lib.hid (by
              rw [stL_next HY.out, show staleB owner l y = ⟨y.name, ⟨y.l.s, false, y.l.own⟩⟩ by unfold staleB; rw [if_pos ⟨hown, ha⟩]]
              exact HW3.out.live HS3.out h2 h3 (by simp only [stL_len]; exact HV.out) (stL_at HY.out))
            clear hS h2 h3
            go_wp2_with fail
            go_roundw
            case rel => exact ⟨k + 1, by go_num, by omega, HN⟩
            case measure => simp [intOf] <;> omega
        · have f11 : decide (y.l.own = owner) = false := by simpa using hown
          have HN := Lib.hid (HK.out (by unfold staleB; rw [if_neg (by simp [hown])]))
          clear hS h2 h3
          go_wp2_with fail
          go_roundw
          case rel => exact ⟨k + 1, by go_num, by omega, HN⟩
          case measure => simp [intOf] <;> omega
      · have f7 : ¬ (k : Int) < (p.2.length : Int) := by omega
        obtain rfl : k = p.2.length := by omega
        obtain ⟨A', c', hv', _, hlc, _⟩ := hS.form
        rw [stL_len] at hv'
        have e0 := hS.cells.1
        rw [hv'] at e0
        rw [stL_all] at HW
        clear hS h2 h3 hv'
        go_wp2_with fail
        go_meet
        exact HW
  case rest =>
  go_wp2
  go_ret
  rw [HP.out]
  exact ⟨_, rfl, hcut.out⟩
end
end Go.Proofs.Ytcjmieofmogeiaa
