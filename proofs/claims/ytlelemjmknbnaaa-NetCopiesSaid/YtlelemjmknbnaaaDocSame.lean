/- The document's Same, at any two nets. -/
import Derived.Test.YtlelemjmknbnaaaDocDial
import Derived.Test.YtlelemjmknbnaaaDocIO
import Derived.Test.YtlelemjmknbnaaaNetTwo
namespace Go.Proofs.Ytlelemjmknbnaaa
open Go.RowKit

set_option maxRecDepth 100000 in
set_option maxHeartbeats 4000000 in
theorem rcopy_any {B : Nat} {w : World} {rn : Nat} {v : Value} {most : Int} {N : Nat} {rs : List Rc} (h : RefAt B w rn v most N rs) (hl : rs.length ≤ 1000) :
    Calls Try.prog 10 #[.pointer (some ⟨rn, 0, none⟩)] w fun e w' => (∃ rn2 v2, e = .returned (.pointer (some ⟨rn2, 0, none⟩)) ∧ RefAt w.heap.size w' rn2 v2 most N rs) ∧ Turns [] w w' := by
  obtain ⟨e0, e1, e2, hf⟩ := h.cells
  obtain ⟨A, c, hv, hrd, _⟩ := h.own.reads
  have H := Lib.hid h
  have HL := Lib.hid hl
  obtain ⟨NN, hNN⟩ : ∃ NN, NN = rs.length := ⟨_, rfl⟩
  rw [← hNN] at hv
  rw [hv] at e0
  have HV := Lib.hid hv
  have HNN := Lib.hid hNN
  have HRD : Hid (∀ W, Turns [] w W → rcK.Reads W w.heap.size A rs ∧ w.heap.size ≤ W.heap.size) := Lib.hid (fun W ht => ⟨hrd.turns (Nat.le_refl _) ht (by simp), ht.size⟩)
  have HC : Hid (∀ W, Turns [] w W → W.cell? ⟨rn, 0, none⟩ = some (.slice A NN c) ∧ W.cell? ⟨rn, 1, none⟩ = some (.int .i64 most) ∧ W.cell? ⟨rn, 2, none⟩ = some (.int .i64 (N : Int))) := Lib.hid (fun W ht => by
    obtain ⟨g0, g1, g2, _⟩ := (h.kept ht (by simp) (by simp)).cells
    rw [hv] at g0
    exact ⟨g0, g1, g2⟩)
  have HL1 := Lib.hid (show ([] : List Rc).length + rs.length ≤ 100000 by simp; omega)
  clear h hf hv hrd hNN hl
  go_enter Try.func10, Try.ntmps10
  go_upto_region 1 with fail
  go_region_law (refine EK.step_append_all rcOk (by rfl) (.const (.slice none 0 0)) (.tmp 6) (by rfl) w.heap.size (.slice none 0 0) [] (by rfl) (World.ownsRow_nil _ _ _ _) w.heap.size A rs NN c HNN.out.symm (by kernel_rfl) (HRD.out _ (by first | exact Turns.refl _ _ | exact (Turns.refl _ _).drew)).1 HL1.out (HRD.out _ (by first | exact Turns.refl _ _ | exact (Turns.refl _ _).drew)).2 ?_; intro v2 w2 hown2 ht2 hf2; have HT2 := Lib.hid (show Turns [] w w2 from Turns.trans (by first | exact Turns.refl _ _ | exact (Turns.refl _ _).drew) (ht2.mono (G := []) (by simp [ownB, Value.ownBlock])) (by simp)); have HO2 := Lib.hid hown2; have HG2 := Lib.hid (show ∀ i ∈ ownB v2, w.heap.size ≤ i from fun i hi => by rcases hf2 i hi with h1 | h1; (simp [ownB, Value.ownBlock] at h1); (rw [h1]; first | exact Nat.le_refl _ | simp)); obtain ⟨m0, m1, m2⟩ := HC.out w2 HT2.out; obtain ⟨A3, c3, rfl, _⟩ := hown2.reads; obtain ⟨M, hM⟩ : ∃ M, M = ([] ++ rs).length := ⟨_, rfl⟩; rw [← hM] at HG2 HO2 ⊢; clear hown2 ht2 hf2 hM)
  all_goals
    have HE := Lib.hid (show RefAt w.heap.size (w2.alloc (.cells #[.slice A3 M c3, .int .i64 most, .int .i64 (N : Int)] 50)) w2.heap.size (.slice A3 M c3) most N rs from
      ⟨heap_alloc_new _ _, HO2.out.alloc _, HT2.out.size, fun hm => Nat.lt_irrefl _ (HO2.out.foot _ hm).2, H.out.ids, H.out.rise, H.out.ats⟩)
    clear e0 e1 e2 m0 m1 m2
    go_wp2
    all_goals
      go_ret
      exact ⟨⟨_, _, rfl, HE.out⟩, HT2.out.trans (Turns.alloc (F := []) _ _) (by simp)⟩
end Go.Proofs.Ytlelemjmknbnaaa

namespace Go.Proofs.Ytlelemjmknbnaaa
open Go.RowKit

/-- How two texts compare, in every form that the walk meets. -/
theorem cmp_ne {a b : List UInt8} (h : a ≠ b) : ((⟨a.toArray⟩ : ByteArray).toList != (⟨b.toArray⟩ : ByteArray).toList) = true ∧ (a != b) = true ∧ (a == b) = false := by
  refine ⟨?_, ?_, ?_⟩
  · rw [bne_iff_ne, Lib.toList_data, Lib.toList_data]; exact h
  · rw [bne_iff_ne]; exact h
  · rw [beq_eq_false_iff_ne]; exact h
theorem cmp_eq {a b : List UInt8} (h : a = b) : ((⟨a.toArray⟩ : ByteArray).toList != (⟨b.toArray⟩ : ByteArray).toList) = false ∧ (a != b) = false ∧ (a == b) = true := by
  subst h
  exact ⟨bne_self_eq_false _, bne_self_eq_false _, beq_self_eq_true _⟩
theorem take_toC {rs rs2 : List Rc} {i : Nat} {r r2 : Rc} (h : rs[i]? = some r) (h2 : rs2[i]? = some r2) (ht : (rs.take i).map toC = (rs2.take i).map toC) (he : toC r = toC r2) : (rs.take (i + 1)).map toC = (rs2.take (i + 1)).map toC := by
  rw [List.take_add_one, List.take_add_one, h, h2, List.map_append, List.map_append, ht]
  simp [he]
theorem at_toC {rs rs2 : List Rc} {i : Nat} {r r2 : Rc} (h : rs[i]? = some r) (h2 : rs2[i]? = some r2) (he : toC r ≠ toC r2) : rs.map toC ≠ rs2.map toC := fun h3 => by
  have h4 := congrArg (·[i]?) h3
  simp only [List.getElem?_map, h, h2, Option.map_some, Option.some.injEq] at h4
  exact he h4

set_option maxRecDepth 100000 in
set_option maxHeartbeats 4000000 in
theorem rsame_any {B B2 : Nat} {w : World} {rn rn2 : Nat} {v v2 : Value} {most : Int} {N N2 : Nat} {rs rs2 : List Rc} (h : RefAt B w rn v most N rs) (h2 : RefAt B2 w rn2 v2 most N2 rs2) (hl : rs.length ≤ 1000) (hb : ∀ r ∈ rs, r.inn.length ≤ 1000000) (hb2 : ∀ r ∈ rs2, r.inn.length ≤ 1000000) :
    Calls Try.prog 12 #[.pointer (some ⟨rn, 0, none⟩), .pointer (some ⟨rn2, 0, none⟩)] w fun e w' => (∃ b, e = .returned (.bool b) ∧ (b = true ↔ N = N2 ∧ rs.map toC = rs2.map toC)) ∧ Turns [] w w' := by
  have H := Lib.hid h
  have H2 := Lib.hid h2
  have HB := Lib.hid hb
  have HB2 := Lib.hid hb2
  obtain ⟨A, c, hv, -⟩ := h.form
  obtain ⟨A2, c2, hv2, -⟩ := h2.form
  subst hv hv2
  obtain ⟨d0, d1, d2, -⟩ := h.cells
  obtain ⟨t0, t1, t2, -⟩ := h2.cells
  have HCS : Hid (∀ W, Turns [] w W → W.cell? ⟨rn, 0, none⟩ = some (.slice A rs.length c) ∧ W.cell? ⟨rn2, 0, none⟩ = some (.slice A2 rs2.length c2)) := Lib.hid (fun W hW => ⟨((H.out.kept hW (by simp) (by simp)).cells).1, ((H2.out.kept hW (by simp) (by simp)).cells).1⟩)
  have hmm : ((most : Int) != most) = false := bne_self_eq_false _
  obtain ⟨NN, hNN⟩ : ∃ NN, NN = rs.length := ⟨_, rfl⟩
  obtain ⟨NN2, hNN2⟩ : ∃ NN2, NN2 = rs2.length := ⟨_, rfl⟩
  rw [← hNN] at d0 HCS
  rw [← hNN2] at t0 HCS
  have HNN := Lib.hid hNN
  have HNN2 := Lib.hid hNN2
  have hl' : (NN : Int) ≤ 1000 := by omega
  clear h h2 hb hb2 hNN hNN2 hl
  by_cases hN : N = N2
  · subst hN
    have hnn : ((N : Int) != (N : Int)) = false := bne_self_eq_false _
    by_cases hlen : NN = NN2
    · subst hlen
      have hll : ((NN : Int) != (NN : Int)) = false := bne_self_eq_false _
      go_enter Try.func12, Try.ntmps12
      go_wp2_with fail
      go_quiet (fail)
      obtain ⟨w1, hw1⟩ : ∃ w1, w.drewN nq = w1 := ⟨_, rfl⟩
      have HT1 := Lib.hid (show Turns [] w w1 by rw [← hw1]; exact (Turns.refl [] w).drewN nq)
      rw [hw1]
      clear hw1 d0 d1 d2 t0 t1 t2 hmm hnn hll
      go_wp2_with fail
      go_loopw [5] (fun iv wr => ∃ i : Nat, i ≤ NN ∧ iv = .int .i64 i ∧ Hid ((rs.take i).map toC = (rs2.take i).map toC) ∧ Hid (Turns [] w wr)) (fun iv _ => NN - (intOf iv).toNat)
      case atStart => exact ⟨0, Nat.zero_le _, rfl, Lib.hid rfl, HT1⟩
      case round =>
        clear HT1
        obtain ⟨i, hi, rfl, HE, HT⟩ := hrel
        obtain ⟨d0, t0⟩ := HCS.out wr HT.out
        by_cases hlt : i < NN
        · have hlt' : (i : Int) < (NN : Int) := by omega
          have hi0 : (0 : Int) ≤ (i : Int) := by omega
          obtain ⟨r, hr⟩ : ∃ r, rs[i]? = some r := ⟨_, List.getElem?_eq_getElem (by have := HNN.out; omega)⟩
          obtain ⟨r2, hr2⟩ : ∃ r2, rs2[i]? = some r2 := ⟨_, List.getElem?_eq_getElem (by have := HNN2.out; omega)⟩
          obtain ⟨A', c', e', hf⟩ := (H.out.kept HT.out (by simp) (by simp)).form
          obtain ⟨e1, -, e2⟩ := Value.slice.inj e'
          subst e1 e2
          obtain ⟨A2', c2', e2', hf2⟩ := (H2.out.kept HT.out (by simp) (by simp)).form
          obtain ⟨e1, -, e2⟩ := Value.slice.inj e2'
          subst e1 e2
          obtain ⟨g, e1, _, _, _, ⟨x0, x1, x2, x3, x4, x5⟩, _⟩ := hf i r hr
          subst e1
          obtain ⟨g2, e1, _, _, _, ⟨y0, y1, y2, y3, y4, y5⟩, _⟩ := hf2 i r2 hr2
          subst e1
          have ha : r.at_ ≤ r.inn.length := H.out.ats r (List.mem_of_getElem? hr)
          have ha2 : r2.at_ ≤ r2.inn.length := H2.out.ats r2 (List.mem_of_getElem? hr2)
          have HR := Lib.hid hr
          have HR2 := Lib.hid hr2
          clear hf hf2 e' e2' hr hr2
          have HAL : Hid (∀ W, Turns [] wr W → W.cell? ⟨rn, 0, none⟩ = some (.slice (some ⟨g, 0, none⟩) NN c) ∧ W.cell? ⟨rn2, 0, none⟩ = some (.slice (some ⟨g2, 0, none⟩) NN c2) ∧ W.cell? ⟨g, i * 6, none⟩ = some (.int .i64 (r.id : Int)) ∧ W.cell? ⟨g, i * 6 + 1, none⟩ = some (.string ⟨r.host.toArray⟩) ∧ W.cell? ⟨g, i * 6 + 2, none⟩ = some (.int .i64 r.st) ∧ W.cell? ⟨g, i * 6 + 3, none⟩ = some (.string ⟨r.inn.toArray⟩) ∧ W.cell? ⟨g, i * 6 + 4, none⟩ = some (.int .i64 (r.at_ : Int)) ∧ W.cell? ⟨g, i * 6 + 5, none⟩ = some (.string ⟨r.out.toArray⟩) ∧ W.cell? ⟨g2, i * 6, none⟩ = some (.int .i64 (r2.id : Int)) ∧ W.cell? ⟨g2, i * 6 + 1, none⟩ = some (.string ⟨r2.host.toArray⟩) ∧ W.cell? ⟨g2, i * 6 + 2, none⟩ = some (.int .i64 r2.st) ∧ W.cell? ⟨g2, i * 6 + 3, none⟩ = some (.string ⟨r2.inn.toArray⟩) ∧ W.cell? ⟨g2, i * 6 + 4, none⟩ = some (.int .i64 (r2.at_ : Int)) ∧ W.cell? ⟨g2, i * 6 + 5, none⟩ = some (.string ⟨r2.out.toArray⟩)) := Lib.hid (fun W hW => by
            have up : ∀ (a : Addr) (u : Value), wr.cell? a = some u → W.cell? a = some u := fun a u hu => (World.cell?_of_block (hW.block a.block (World.block_lt_of_cell? _ _ hu) (by simp))).trans hu
            exact ⟨up _ _ d0, up _ _ t0, up _ _ x0, up _ _ x1, up _ _ x2, up _ _ x3, up _ _ x4, up _ _ x5, up _ _ y0, up _ _ y1, up _ _ y2, up _ _ y3, up _ _ y4, up _ _ y5⟩)
          have T2 := fun C => Turns.alloc (F := []) wr C
          have T3 := fun C D => (T2 C).trans (Turns.alloc (F := []) (wr.alloc C) D) (by simp)
          have ad0 := fun C => (HAL.out _ (T2 C)).1
          have bd0 := fun C D => (HAL.out _ (T3 C D)).1
          have at0 := fun C => (HAL.out _ (T2 C)).2.1
          have bt0 := fun C D => (HAL.out _ (T3 C D)).2.1
          have ax0 := fun C => (HAL.out _ (T2 C)).2.2.1
          have bx0 := fun C D => (HAL.out _ (T3 C D)).2.2.1
          have ax1 := fun C => (HAL.out _ (T2 C)).2.2.2.1
          have bx1 := fun C D => (HAL.out _ (T3 C D)).2.2.2.1
          have ax2 := fun C => (HAL.out _ (T2 C)).2.2.2.2.1
          have bx2 := fun C D => (HAL.out _ (T3 C D)).2.2.2.2.1
          have ax3 := fun C => (HAL.out _ (T2 C)).2.2.2.2.2.1
          have bx3 := fun C D => (HAL.out _ (T3 C D)).2.2.2.2.2.1
          have ax4 := fun C => (HAL.out _ (T2 C)).2.2.2.2.2.2.1
          have bx4 := fun C D => (HAL.out _ (T3 C D)).2.2.2.2.2.2.1
          have ax5 := fun C => (HAL.out _ (T2 C)).2.2.2.2.2.2.2.1
          have bx5 := fun C D => (HAL.out _ (T3 C D)).2.2.2.2.2.2.2.1
          have ay0 := fun C => (HAL.out _ (T2 C)).2.2.2.2.2.2.2.2.1
          have by0 := fun C D => (HAL.out _ (T3 C D)).2.2.2.2.2.2.2.2.1
          have ay1 := fun C => (HAL.out _ (T2 C)).2.2.2.2.2.2.2.2.2.1
          have by1 := fun C D => (HAL.out _ (T3 C D)).2.2.2.2.2.2.2.2.2.1
          have ay2 := fun C => (HAL.out _ (T2 C)).2.2.2.2.2.2.2.2.2.2.1
          have by2 := fun C D => (HAL.out _ (T3 C D)).2.2.2.2.2.2.2.2.2.2.1
          have ay3 := fun C => (HAL.out _ (T2 C)).2.2.2.2.2.2.2.2.2.2.2.1
          have by3 := fun C D => (HAL.out _ (T3 C D)).2.2.2.2.2.2.2.2.2.2.2.1
          have ay4 := fun C => (HAL.out _ (T2 C)).2.2.2.2.2.2.2.2.2.2.2.2.1
          have by4 := fun C D => (HAL.out _ (T3 C D)).2.2.2.2.2.2.2.2.2.2.2.2.1
          have ay5 := fun C => (HAL.out _ (T2 C)).2.2.2.2.2.2.2.2.2.2.2.2.2
          have by5 := fun C D => (HAL.out _ (T3 C D)).2.2.2.2.2.2.2.2.2.2.2.2.2
          have HN2 : ∀ C D : Obj, ((wr.alloc C).alloc D).heap[wr.heap.size + 1]? = some D := fun C D => by
            have := heap_alloc_new (wr.alloc C) D
            rwa [World.size_alloc] at this
          have HO2 : ∀ C D : Obj, ((wr.alloc C).alloc D).heap[wr.heap.size]? = some C := fun C D => ((Turns.alloc (F := []) (wr.alloc C) D).block wr.heap.size (by simp) (by simp)).trans (heap_alloc_new wr C)
          have HTX := fun C D => HT.out.trans (T3 C D) (by simp)
          clear T2 T3
          go_upto_region 6 with fail
          go_cut [6, 7] from 50 to 63 (fun v6 v7 wx => ∃ p q : Nat, v6 = .pointer (some ⟨p, 0, none⟩) ∧ v7 = .pointer (some ⟨q, 0, none⟩) ∧ Hid (wx.heap[p]? = some (.cells #[.int .i64 (r.id : Int), .string ⟨r.host.toArray⟩, .int .i64 r.st, .string ⟨r.inn.toArray⟩, .int .i64 (r.at_ : Int), .string ⟨r.out.toArray⟩] 67 (0, 0))) ∧ Hid (wx.heap[q]? = some (.cells #[.int .i64 (r2.id : Int), .string ⟨r2.host.toArray⟩, .int .i64 r2.st, .string ⟨r2.inn.toArray⟩, .int .i64 (r2.at_ : Int), .string ⟨r2.out.toArray⟩] 67 (0, 0))) ∧ Hid (Turns [] w wx))
          case first =>
            go_region
            all_goals
              go_wp2
              go_meet
              exact ⟨_, _, rfl, rfl, Lib.hid (by first | exact HN2 _ _ | exact HO2 _ _), Lib.hid (by first | exact HN2 _ _ | exact HO2 _ _), Lib.hid (by first | exact HTX _ _ | exact (HTX _ _).drew | exact (HTX _ _).drewN _)⟩
          case rest =>
            obtain ⟨p, q, rfl, rfl, hp, hq, HTx⟩ := hcut
            have hpo := hp.out
            have hqo := hq.out
            have z0 : wc.cell? ⟨p, 0, none⟩ = some (.int .i64 (r.id : Int)) := by simp [World.cell?, hpo]
            have z1 : wc.cell? ⟨p, 1, none⟩ = some (.string ⟨r.host.toArray⟩) := by simp [World.cell?, hpo]
            have z2 : wc.cell? ⟨p, 2, none⟩ = some (.int .i64 r.st) := by simp [World.cell?, hpo]
            have z3 : wc.cell? ⟨p, 3, none⟩ = some (.string ⟨r.inn.toArray⟩) := by simp [World.cell?, hpo]
            have z4 : wc.cell? ⟨p, 4, none⟩ = some (.int .i64 (r.at_ : Int)) := by simp [World.cell?, hpo]
            have z5 : wc.cell? ⟨p, 5, none⟩ = some (.string ⟨r.out.toArray⟩) := by simp [World.cell?, hpo]
            have u0 : wc.cell? ⟨q, 0, none⟩ = some (.int .i64 (r2.id : Int)) := by simp [World.cell?, hqo]
            have u1 : wc.cell? ⟨q, 1, none⟩ = some (.string ⟨r2.host.toArray⟩) := by simp [World.cell?, hqo]
            have u2 : wc.cell? ⟨q, 2, none⟩ = some (.int .i64 r2.st) := by simp [World.cell?, hqo]
            have u3 : wc.cell? ⟨q, 3, none⟩ = some (.string ⟨r2.inn.toArray⟩) := by simp [World.cell?, hqo]
            have u4 : wc.cell? ⟨q, 4, none⟩ = some (.int .i64 (r2.at_ : Int)) := by simp [World.cell?, hqo]
            have u5 : wc.cell? ⟨q, 5, none⟩ = some (.string ⟨r2.out.toArray⟩) := by simp [World.cell?, hqo]
            have ha' : (r.at_ : Int) ≤ ((⟨r.inn.toArray⟩ : ByteArray).size : Int) := by
              show (r.at_ : Int) ≤ (r.inn.length : Int)
              omega
            have ha2' : (r2.at_ : Int) ≤ ((⟨r2.inn.toArray⟩ : ByteArray).size : Int) := by
              show (r2.at_ : Int) ≤ (r2.inn.length : Int)
              omega
            have hx1 := extract_drop r.inn r.at_
            have hx2 := extract_drop r2.inn r2.at_
            clear hpo hqo ad0 at0 ax0 ax1 ax2 ax3 ax4 ax5 ay0 ay1 ay2 ay3 ay4 ay5 bd0 bt0 bx0 bx1 bx2 bx3 bx4 bx5 by0 by1 by2 by3 by4 by5 x0 x1 x2 x3 x4 x5 y0 y1 y2 y3 y4 y5 HN2 HO2 HTX
            by_cases k0 : ¬ r.id = r2.id
            · have fk0 : ((r.id : Int) != (r2.id : Int)) = true := by rw [bne_iff_ne]; omega
              have HX := Lib.hid (at_toC HR.out HR2.out (fun he => k0 (congrArg Cn.id he)))
              clear k0
              go_wp2_with fail
              go_quiet (fail)
              go_wp2
              go_ret
              exact ⟨⟨false, rfl, by simp [HX.out]⟩, HTx.out.trans ((Turns.refl [] wc).drewN nq) (by simp)⟩
            replace k0 := Classical.not_not.1 k0
            have fk0 : ((r.id : Int) != (r2.id : Int)) = false := by rw [bne_eq_false_iff_eq]; omega
            by_cases k1 : ¬ r.host = r2.host
            · obtain ⟨fk1, gk1, hk1⟩ := cmp_ne k1
              have HX := Lib.hid (at_toC HR.out HR2.out (fun he => k1 (congrArg Cn.host he)))
              clear k1
              go_wp2_with fail
              go_quiet (fail)
              go_wp2
              go_ret
              exact ⟨⟨false, rfl, by simp [HX.out]⟩, HTx.out.trans ((Turns.refl [] wc).drewN nq) (by simp)⟩
            replace k1 := Classical.not_not.1 k1
            obtain ⟨fk1, gk1, hk1⟩ := cmp_eq k1
            by_cases k2 : ¬ r.st = r2.st
            · have fk2 : (r.st != r2.st) = true := by rw [bne_iff_ne]; exact k2
              have HX := Lib.hid (at_toC HR.out HR2.out (fun he => k2 (congrArg Cn.st he)))
              clear k2
              go_wp2_with fail
              go_quiet (fail)
              go_wp2
              go_ret
              exact ⟨⟨false, rfl, by simp [HX.out]⟩, HTx.out.trans ((Turns.refl [] wc).drewN nq) (by simp)⟩
            replace k2 := Classical.not_not.1 k2
            have fk2 : (r.st != r2.st) = false := by rw [bne_eq_false_iff_eq]; exact k2
            by_cases k3 : ¬ r.out = r2.out
            · obtain ⟨fk3, gk3, hk3⟩ := cmp_ne k3
              have HX := Lib.hid (at_toC HR.out HR2.out (fun he => k3 (congrArg Cn.out he)))
              clear k3
              go_wp2_with fail
              go_quiet (fail)
              go_wp2
              go_ret
              exact ⟨⟨false, rfl, by simp [HX.out]⟩, HTx.out.trans ((Turns.refl [] wc).drewN nq) (by simp)⟩
            replace k3 := Classical.not_not.1 k3
            obtain ⟨fk3, gk3, hk3⟩ := cmp_eq k3
            by_cases k4 : ¬ r.inn.drop r.at_ = r2.inn.drop r2.at_
            · obtain ⟨fk4, gk4, hk4⟩ := cmp_ne k4
              have HX := Lib.hid (at_toC HR.out HR2.out (fun he => k4 (congrArg Cn.inn he)))
              clear k4
              go_wp2_with fail
              go_quiet (fail)
              go_wp2
              go_ret
              exact ⟨⟨false, rfl, by simp [HX.out]⟩, HTx.out.trans ((Turns.refl [] wc).drewN nq) (by simp)⟩
            replace k4 := Classical.not_not.1 k4
            obtain ⟨fk4, gk4, hk4⟩ := cmp_eq k4
            have HEN := Lib.hid (take_toC HR.out HR2.out HE.out (by unfold toC; rw [k0, k1, k2, k3, k4]))
            clear k0 k1 k2 k3 k4
            go_wp2_with fail
            go_quiet (fail)
            have HTn := Lib.hid (HTx.out.trans ((Turns.refl [] wc).drewN nq) (by simp))
            go_wp2
            go_roundw
            case rel => exact ⟨i + 1, by omega, by go_num, HEN, HTn⟩
            case measure => simp [intOf] <;> omega
        · obtain rfl : i = NN := by omega
          go_wp2
          go_ret
          exact ⟨⟨true, rfl, by
            have := HE.out
            rw [show i = rs.length from HNN.out, List.take_length] at this
            rw [show rs.length = rs2.length from by rw [← HNN.out, ← HNN2.out], List.take_length] at this
            simp [this]⟩, HT.out⟩
    · have hll : ((NN : Int) != (NN2 : Int)) = true := by rw [bne_iff_ne]; omega
      have HX := Lib.hid (show rs.map toC ≠ rs2.map toC from fun he => hlen (by have := congrArg List.length he; simp at this; rw [HNN.out, HNN2.out, this]))
      go_enter Try.func12, Try.ntmps12
      go_wp2_with fail
      go_quiet (fail)
      go_wp2
      go_ret
      exact ⟨⟨false, rfl, by simp [HX.out]⟩, (Turns.refl [] w).drewN nq⟩
  · have hnn : ((N : Int) != (N2 : Int)) = true := by rw [bne_iff_ne]; omega
    have HX := Lib.hid hN
    go_enter Try.func12, Try.ntmps12
    go_wp2_with fail
    go_quiet (fail)
    go_wp2
    go_ret
    exact ⟨⟨false, rfl, by simp [HX.out]⟩, (Turns.refl [] w).drewN nq⟩
end Go.Proofs.Ytlelemjmknbnaaa
