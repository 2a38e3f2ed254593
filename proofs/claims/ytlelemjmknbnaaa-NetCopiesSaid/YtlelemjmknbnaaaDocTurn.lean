/- What turns one of the document's net. -/
import Derived.Test.YtlelemjmknbnaaaDocRead
import Derived.Test.YtlelemjmknbnaaaNetDial
namespace Go.Proofs.Ytlelemjmknbnaaa
open Go.RowKit

theorem flat_set : ∀ {R1 R2 : List Rc} {r r' : Rc} {i : Nat} {u : Value}, i < 6 → encR r' = (encR r).set i u → rcK.flat (R1 ++ r' :: R2) = (rcK.flat (R1 ++ r :: R2)).set (R1.length * 6 + i) u
  | [], R2, r, r', i, u, hi, he => by
    show encR r' ++ rcK.flat R2 = (encR r ++ rcK.flat R2).set (0 * 6 + i) u
    rw [he, Nat.zero_mul, Nat.zero_add, List.set_append_left _ _ (by simp [encR]; omega)]
  | x :: R1, R2, r, r', i, u, hi, he => by
    show encR x ++ rcK.flat (R1 ++ r' :: R2) = (encR x ++ rcK.flat (R1 ++ r :: R2)).set ((R1.length + 1) * 6 + i) u
    rw [flat_set hi he, List.set_append_right _ _ (by simp [encR]; omega)]
    congr 2
    simp [encR]
    omega
/-- One field of one turns. -/
theorem RefAt.put {B : Nat} {w : World} {rn g n c : Nat} {most : Int} {N : Nat} {R1 R2 : List Rc} {r r' : Rc} (h : RefAt B w rn (.slice (some ⟨g, 0, none⟩) n c) most N (R1 ++ r :: R2)) {i : Nat} {u : Value} (hi : i < 6) (he : encR r' = (encR r).set i u) (hid : r'.id = r.id) (hat : r'.at_ ≤ r'.inn.length) :
    RefAt B (w.setCell ⟨g, R1.length * 6 + i, none⟩ u) rn (.slice (some ⟨g, 0, none⟩) n c) most N (R1 ++ r' :: R2) ∧ Turns [g] w (w.setCell ⟨g, R1.length * 6 + i, none⟩ u) := by
  have ht : Turns [g] w (w.setCell ⟨g, R1.length * 6 + i, none⟩ u) := Turns.setCell _ _ _ (List.mem_singleton.2 rfl)
  have hg : rn ≠ g := fun e => h.off (by simp [ownB, Value.ownBlock, e])
  have hn : n = (R1 ++ r :: R2).length := by
    rcases h.own.form with ⟨e, _⟩ | ⟨_, _, e, _⟩
    · cases e
    · cases e; rfl
  subst hn
  have hlen : (R1 ++ r :: R2).length = (R1 ++ r' :: R2).length := by simp
  refine ⟨⟨(ht.block rn (lt_of_block h.head) (by simpa using hg)).trans h.head, ?_, h.low, h.off, fun x hx => ?_, ?_, fun x hx => ?_⟩, ht⟩
  · have h1 := (World.ownsRow.stored h.own (R1.length * 6 + i) u).1
    unfold EK.Own
    rw [flat_set hi he, ← hlen]
    exact h1
  · rcases List.mem_append.1 hx with h1 | h1
    · exact h.ids x (List.mem_append.2 (.inl h1))
    · rcases List.mem_cons.1 h1 with rfl | h2
      · rw [hid]; exact h.ids r (by simp)
      · exact h.ids x (List.mem_append.2 (.inr (List.mem_cons.2 (.inr h2))))
  · have hr := h.rise
    rw [List.pairwise_append, List.pairwise_cons] at hr ⊢
    refine ⟨hr.1, ⟨fun y hy => by rw [hid]; exact hr.2.1.1 y hy, hr.2.1.2⟩, fun y hy z hz => ?_⟩
    rcases List.mem_cons.1 hz with rfl | hz
    · rw [hid]; exact hr.2.2 y hy r (List.mem_cons_self ..)
    · exact hr.2.2 y hy z (List.mem_cons.2 (.inr hz))
  · rcases List.mem_append.1 hx with h1 | h1
    · exact h.ats x (List.mem_append.2 (.inl h1))
    · rcases List.mem_cons.1 h1 with rfl | h2
      · exact hat
      · exact h.ats x (List.mem_append.2 (.inr (List.mem_cons.2 (.inr h2))))
theorem getR_self {R1 R2 : List Rc} {r : Rc} (hr : (R1 ++ r :: R2).Pairwise fun x y => x.id < y.id) : getR (R1 ++ r :: R2) (r.id : Int) = some r := getR_at hr (i := R1.length) (by simp) rfl
theorem getR_split {rs : List Rc} {k : Int} {r : Rc} (h : getR rs k = some r) : ∃ R1 R2, rs = R1 ++ r :: R2 ∧ (r.id : Int) = k := by
  unfold getR at h
  have h1 := List.find?_some h
  obtain ⟨R1, R2, e⟩ := List.append_of_mem (List.mem_of_find?_eq_some h)
  exact ⟨R1, R2, e, by simpa using h1⟩
/-- The place of one that is there. -/
theorem of_at {B : Nat} {w : World} {rn : Nat} {v : Value} {most : Int} {N : Nat} {R1 R2 : List Rc} {r : Rc} (h : RefAt B w rn v most N (R1 ++ r :: R2)) (hl : (R1 ++ r :: R2).length ≤ 1000) :
    Calls Try.prog 48 #[.pointer (some ⟨rn, 0, none⟩), .int .i64 (r.id : Int)] w fun e w' => e = .returned (.int .i64 (R1.length : Int)) ∧ w = w' := by
  refine (of_any h hl (r.id : Int)).mono ?_
  rintro e w' ⟨⟨i, s, hi, hs, rfl⟩ | ⟨hno, _⟩, rfl⟩
  · refine ⟨?_, rfl⟩
    have hr := h.rise
    have e1 : s = r := rise_inj hr (List.mem_of_getElem? hi) (by simp) (by omega)
    subst e1
    have e2 : i = R1.length := by
      rw [List.pairwise_append, List.pairwise_cons] at hr
      rcases Nat.lt_trichotomy i R1.length with h1 | h1 | h1
      · rw [List.getElem?_append_left h1] at hi
        have := hr.2.2 s (List.mem_of_getElem? hi) s (List.mem_cons_self ..)
        omega
      · exact h1
      · obtain ⟨j, rfl⟩ : ∃ j, i = R1.length + (j + 1) := ⟨i - R1.length - 1, by omega⟩
        rw [List.getElem?_append_right (by omega), show R1.length + (j + 1) - R1.length = j + 1 by omega, List.getElem?_cons_succ] at hi
        have := hr.2.1.1 s (List.mem_of_getElem? hi)
        omega
    rw [e2]
  · exact absurd rfl (hno r (by simp))
def DTurn (B : Nat) (w : World) (rn : Nat) (v : Value) (most : Int) (N : Nat) (R1 R2 : List Rc) (r r' : Rc) (e : Ending) (w' : World) : Prop :=
  e = .returned (.int .i64 0) ∧ RefAt B w' rn v most N (R1 ++ r' :: R2) ∧ Turns (ownB v) w w'
set_option maxRecDepth 100000 in
set_option maxHeartbeats 2000000 in
theorem rturn_no {B : Nat} {w : World} {rn : Nat} {v : Value} {most : Int} {N : Nat} {rs : List Rc} (h : RefAt B w rn v most N rs) (hl : rs.length ≤ 1000) (k s t : Int) (hz : codeR (getR rs k) s ≠ 0) :
    Calls Try.prog 47 #[.pointer (some ⟨rn, 0, none⟩), .int .i64 k, .int .i64 s, .int .i64 t] w fun e w' => e = .returned (.int .i64 (codeR (getR rs k) s)) ∧ w = w' := by
  have HM := Lib.hid (must_any h hl k s)
  generalize codeR (getR rs k) s = c at HM hz ⊢
  have hc : (c == 0) = false := beq_eq_false_iff_ne.2 hz
  clear h hz
  go_enter Try.func47, Try.ntmps47
  go_wp2_with fail
  refine HM.out.mono ?_
  rintro e w1 ⟨rfl, rfl⟩
  go_wp2
  go_ret
  exact ⟨rfl, rfl⟩
set_option maxRecDepth 100000 in
set_option maxHeartbeats 2000000 in
theorem rturn_ok {B : Nat} {w : World} {rn : Nat} {v : Value} {most : Int} {N : Nat} {R1 R2 : List Rc} {r : Rc} (h : RefAt B w rn v most N (R1 ++ r :: R2)) (hl : (R1 ++ r :: R2).length ≤ 1000) (t : Int) :
    Calls Try.prog 47 #[.pointer (some ⟨rn, 0, none⟩), .int .i64 (r.id : Int), .int .i64 r.st, .int .i64 t] w (DTurn B w rn v most N R1 R2 r { r with st := t }) := by
  have hm := must_any h hl (r.id : Int) r.st
  rw [getR_self h.rise, show codeR (some r) r.st = 0 from if_pos rfl] at hm
  have HM := Lib.hid hm
  have HOF : Hid (∀ W, Turns [] w W → Calls Try.prog 48 #[.pointer (some ⟨rn, 0, none⟩), .int .i64 (r.id : Int)] W fun e w' => e = .returned (.int .i64 (R1.length : Int)) ∧ W = w') := Lib.hid (fun W ht => of_at (h.kept ht (by simp) (by simp)) hl)
  obtain ⟨c0, _, _, _⟩ := h.cells
  obtain ⟨A, c, rfl, hc⟩ := h.form
  obtain ⟨g, rfl, _, _, hg, ⟨_, _, hc2, _⟩, hf⟩ := hc R1.length r (by simp)
  have hf2 := hf (R1.length * 6 + 2)
  have hlt : (R1.length : Int) < ((R1 ++ r :: R2).length : Int) := by simp; omega
  have hi0 : (0 : Int) ≤ (R1.length : Int) := by omega
  have HP : Hid (∀ W, Turns [] w W → RefAt B (W.setCell ⟨g, R1.length * 6 + 2, none⟩ (.int .i64 t)) rn (.slice (some ⟨g, 0, none⟩) (R1 ++ r :: R2).length c) most N (R1 ++ { r with st := t } :: R2) ∧ Turns [g] w (W.setCell ⟨g, R1.length * 6 + 2, none⟩ (.int .i64 t))) := Lib.hid (fun W ht => by
    have := (h.kept ht (by simp) (by simp)).put (i := 2) (u := .int .i64 t) (r' := { r with st := t }) (by omega) rfl rfl (h.ats r (by simp))
    exact ⟨this.1, (ht.mono (G := [g]) (by simp)).trans this.2 (fun i hi => .inl hi)⟩)
  generalize (R1 ++ r :: R2).length = NN at c0 hlt HP ⊢
  generalize r.st = ss at hc2 HM ⊢
  clear h hc hf hm
  go_enter Try.func47, Try.ntmps47
  go_wp2_with fail
  refine HM.out.mono ?_
  rintro e w1 ⟨rfl, rfl⟩
  go_wp2_with fail
  go_region_law (go_simp; go_at_call 48; refine (HOF.out _ (by first | exact Turns.refl _ _ | exact (Turns.refl _ _).drew | exact (Turns.refl _ _).drewN _)).mono ?_; rintro e w2 ⟨rfl, rfl⟩)
  all_goals
    have HT := Lib.hid (HP.out w.drew (Turns.refl _ _).drew)
    go_wp2
    go_ret
    exact ⟨rfl, HT.out.1, by rw [show ownB (.slice (some ⟨g, 0, none⟩) NN c) = [g] by simp [ownB, Value.ownBlock]]; exact HT.out.2⟩
set_option maxRecDepth 100000 in
set_option maxHeartbeats 1000000 in
theorem raccept_ok {B : Nat} {w : World} {rn : Nat} {v : Value} {most : Int} {N : Nat} {R1 R2 : List Rc} {r : Rc} (h : RefAt B w rn v most N (R1 ++ r :: R2)) (hl : (R1 ++ r :: R2).length ≤ 1000) (hz : r.st = 1) :
    Calls Try.prog 20 #[.pointer (some ⟨rn, 0, none⟩), .int .i64 (r.id : Int)] w (DTurn B w rn v most N R1 R2 r { r with st := 2 }) := by
  have hc := rturn_ok h hl 2
  rw [hz] at hc
  have HC := Lib.hid hc
  clear h hc hz
  go_enter Try.func20, Try.ntmps20
  go_wp2_with fail
  refine HC.out.mono ?_
  rintro e w1 ⟨rfl, hn, ht⟩
  have HN := Lib.hid hn
  have HT := Lib.hid ht
  clear hn ht
  go_wp2
  go_ret
  exact ⟨rfl, HN.out, HT.out⟩
set_option maxRecDepth 100000 in
set_option maxHeartbeats 1000000 in
theorem raccept_no {B : Nat} {w : World} {rn : Nat} {v : Value} {most : Int} {N : Nat} {rs : List Rc} (h : RefAt B w rn v most N rs) (hl : rs.length ≤ 1000) (k : Int) (hz : codeR (getR rs k) 1 ≠ 0) :
    Calls Try.prog 20 #[.pointer (some ⟨rn, 0, none⟩), .int .i64 k] w fun e w' => e = .returned (.int .i64 (codeR (getR rs k) 1)) ∧ w = w' := by
  have HC := Lib.hid (rturn_no h hl k 1 2 hz)
  generalize codeR (getR rs k) 1 = cc at HC ⊢
  clear h hz
  go_enter Try.func20, Try.ntmps20
  go_wp2_with fail
  refine HC.out.mono ?_
  rintro e w1 ⟨rfl, rfl⟩
  go_wp2
  go_ret
  exact ⟨rfl, rfl⟩
set_option maxRecDepth 100000 in
set_option maxHeartbeats 1000000 in
theorem rrefuse_ok {B : Nat} {w : World} {rn : Nat} {v : Value} {most : Int} {N : Nat} {R1 R2 : List Rc} {r : Rc} (h : RefAt B w rn v most N (R1 ++ r :: R2)) (hl : (R1 ++ r :: R2).length ≤ 1000) (hz : r.st = 1) :
    Calls Try.prog 22 #[.pointer (some ⟨rn, 0, none⟩), .int .i64 (r.id : Int)] w (DTurn B w rn v most N R1 R2 r { r with st := 4 }) := by
  have hc := rturn_ok h hl 4
  rw [hz] at hc
  have HC := Lib.hid hc
  clear h hc hz
  go_enter Try.func22, Try.ntmps22
  go_wp2_with fail
  refine HC.out.mono ?_
  rintro e w1 ⟨rfl, hn, ht⟩
  have HN := Lib.hid hn
  have HT := Lib.hid ht
  clear hn ht
  go_wp2
  go_ret
  exact ⟨rfl, HN.out, HT.out⟩
set_option maxRecDepth 100000 in
set_option maxHeartbeats 1000000 in
theorem rrefuse_no {B : Nat} {w : World} {rn : Nat} {v : Value} {most : Int} {N : Nat} {rs : List Rc} (h : RefAt B w rn v most N rs) (hl : rs.length ≤ 1000) (k : Int) (hz : codeR (getR rs k) 1 ≠ 0) :
    Calls Try.prog 22 #[.pointer (some ⟨rn, 0, none⟩), .int .i64 k] w fun e w' => e = .returned (.int .i64 (codeR (getR rs k) 1)) ∧ w = w' := by
  have HC := Lib.hid (rturn_no h hl k 1 4 hz)
  generalize codeR (getR rs k) 1 = cc at HC ⊢
  clear h hz
  go_enter Try.func22, Try.ntmps22
  go_wp2_with fail
  refine HC.out.mono ?_
  rintro e w1 ⟨rfl, rfl⟩
  go_wp2
  go_ret
  exact ⟨rfl, rfl⟩
set_option maxRecDepth 100000 in
set_option maxHeartbeats 1000000 in
theorem rend_ok {B : Nat} {w : World} {rn : Nat} {v : Value} {most : Int} {N : Nat} {R1 R2 : List Rc} {r : Rc} (h : RefAt B w rn v most N (R1 ++ r :: R2)) (hl : (R1 ++ r :: R2).length ≤ 1000) (hz : r.st = 2) :
    Calls Try.prog 25 #[.pointer (some ⟨rn, 0, none⟩), .int .i64 (r.id : Int)] w (DTurn B w rn v most N R1 R2 r { r with st := 3 }) := by
  have hc := rturn_ok h hl 3
  rw [hz] at hc
  have HC := Lib.hid hc
  clear h hc hz
  go_enter Try.func25, Try.ntmps25
  go_wp2_with fail
  refine HC.out.mono ?_
  rintro e w1 ⟨rfl, hn, ht⟩
  have HN := Lib.hid hn
  have HT := Lib.hid ht
  clear hn ht
  go_wp2
  go_ret
  exact ⟨rfl, HN.out, HT.out⟩
set_option maxRecDepth 100000 in
set_option maxHeartbeats 1000000 in
theorem rend_no {B : Nat} {w : World} {rn : Nat} {v : Value} {most : Int} {N : Nat} {rs : List Rc} (h : RefAt B w rn v most N rs) (hl : rs.length ≤ 1000) (k : Int) (hz : codeR (getR rs k) 2 ≠ 0) :
    Calls Try.prog 25 #[.pointer (some ⟨rn, 0, none⟩), .int .i64 k] w fun e w' => e = .returned (.int .i64 (codeR (getR rs k) 2)) ∧ w = w' := by
  have HC := Lib.hid (rturn_no h hl k 2 3 hz)
  generalize codeR (getR rs k) 2 = cc at HC ⊢
  clear h hz
  go_enter Try.func25, Try.ntmps25
  go_wp2_with fail
  refine HC.out.mono ?_
  rintro e w1 ⟨rfl, rfl⟩
  go_wp2
  go_ret
  exact ⟨rfl, rfl⟩
end Go.Proofs.Ytlelemjmknbnaaa
