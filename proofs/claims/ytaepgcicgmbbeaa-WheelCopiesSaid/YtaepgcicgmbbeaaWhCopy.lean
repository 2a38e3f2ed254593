/- The program's Copy. -/
import Derived.Test.YtaepgcicgmbbeaaWhKnown
import Derived.Test.YtaepgcicgmbbeaaWhRange
namespace Go.Proofs.Ytaepgcicgmbbeaa
open Go.RowKit

theorem filter_or {p q : Fi → Bool} : ∀ {l : List Fi}, (∀ x ∈ l, p x = true → q x = false) → (l.filter fun x => p x || q x).Perm (l.filter p ++ l.filter q)
  | [], _ => List.Perm.refl _
  | x :: l, h => by
    have ih := filter_or (p := p) (q := q) (l := l) fun y hy => h y (List.mem_cons_of_mem _ hy)
    cases hp : p x with
    | true =>
      have hq := h x (List.mem_cons_self ..) hp
      rw [List.filter_cons_of_pos (by simp [hp]), List.filter_cons_of_pos hp, List.filter_cons_of_neg (by simp [hq])]
      exact List.Perm.cons x ih
    | false =>
      cases hq : q x with
      | true =>
        rw [List.filter_cons_of_pos (by simp [hq]), List.filter_cons_of_neg (by simp [hp]), List.filter_cons_of_pos hq]
        exact (List.Perm.cons x ih).trans List.perm_middle.symm
      | false =>
        rw [List.filter_cons_of_neg (by simp [hp, hq]), List.filter_cons_of_neg (by simp [hp]), List.filter_cons_of_neg (by simp [hq])]
        exact ih
/-- What has come over already. -/
def doneL (L : List Fi) (left : Int → Bool) : List Fi := L.filter fun x => !left (part x.2)
theorem done_next {L l : List Fi} {left : Int → Bool} {k : Int} (hk : left k = true) (hp : l.Perm (L.filter fun x => decide (part x.2 = k))) : (doneL L left ++ l).Perm (doneL L (fun y => left y && !decide (y = k))) := by
  unfold doneL
  have e : (L.filter fun x => !(left (part x.2) && !decide (part x.2 = k))) = L.filter fun x => (!left (part x.2)) || decide (part x.2 = k) := by
    refine List.filter_congr fun x _ => ?_
    cases left (part x.2) <;> simp
  rw [e]
  refine (List.Perm.append_left _ hp).trans (filter_or (fun x _ hx => ?_)).symm
  simp at hx ⊢
  intro e
  rw [e, hk] at hx
  cases hx
/-- The copy under way, off the iterator. -/
def CpI (w wr : World) (r : Nat) (T : Int) (C : List Fi) : Prop := ∃ F, WhAt w.heap.size wr w.heap.size T C F ∧ Turns [] w wr ∧ r ∉ F
theorem CpI.put {w wr w' : World} {r : Nat} {T : Int} {C : List Fi} {x : Fi} {F : List Nat} (hT : Turns [] w wr) (hF : ∀ i ∈ F, w.heap.size ≤ i) (hr : r ∉ F) (hrl : r < wr.heap.size) (h : PutP w.heap.size wr w.heap.size T C F x (.returned (.tuple #[])) w') : CpI w w' r T (C ++ [x]) := by
  obtain ⟨_, F', a, b, c⟩ := h
  refine ⟨F', a.perm (List.perm_append_comm (l₁ := [x]) (l₂ := C)), hT.trans b fun i hi => .inr (hF i hi), fun hm => ?_⟩
  rcases c r hm with h | h
  · exact hr h
  · omega
set_option maxRecDepth 100000 in
set_option maxHeartbeats 8000000 in
theorem copy_laid {B : Nat} {w : World} {bw : Nat} {T : Int} {L : List Fi} {F : List Nat} {bs bp : Nat} {S : Sl} {P : Pc} (h : WhAt B w bw T L F) (h3 : Laid B w bw T L F bs bp S P) (hok : WOk T L) (hL : L.length ≤ 900) :
    Calls Try.prog 11 #[.pointer (some ⟨bw, 0, none⟩)] w fun e w' => e = .returned (.pointer (some ⟨w.heap.size, 0, none⟩)) ∧ Lone w w' w.heap.size T L := by
  have c0 := h.cells.1
  have hbw := h.cells.2.2
  have HN := Lib.hid (new_any T w)
  have H := Lib.hid h
  have H3 := Lib.hid h3
  have HOK := Lib.hid hok
  have HL := Lib.hid hL
  obtain ⟨f, hf⟩ : ∃ f : Int → Option Value, f = fun k => (S k).map (·.1) := ⟨_, rfl⟩
  have HF := Lib.hid hf
  have HFS := Lib.hid (fun k => show (f k).isSome = (S k).isSome by rw [hf]; simp)
  obtain ⟨n, hs⟩ := h3.slots
  rw [← hf] at hs
  have HS := Lib.hid hs
  clear h h3 hok hL hf hs
  go_enter Try.func11, Try.ntmps11
  go_wp2_with fail
  refine (Hid.out HN).mono ?_
  rintro e W1 ⟨rfl, hn1, hn2⟩
  have m1 := (hn2.cell hbw (by simp) 1).trans H3.out.cells.2.1
  have HN1 := Lib.hid hn1
  have HN2 := Lib.hid hn2
  have HS1 := Lib.hid (HS.out.turns hn2 (by simp))
  clear hn1 hn2 HN c0
  go_wp2_with (at_range; refine wpList_range_v rfl _ 47 rfl 2 27 keyL Try.underlying47 sread bs n f rfl HS1.out ?_; intro w0 hrg0 ht0 hs0)
  go_frame
  have HR0 := Lib.hid hrg0
  have HT0 := Lib.hid ht0
  clear hrg0 ht0 hs0 m1
  go_loopw [5] (fun _ wr => ∃ left cnt, RangeV 2 sread wr bs W1.heap.size f left cnt ∧ Hid (CpI w wr W1.heap.size T (doneL L left))) (fun _ wr => wr.rangeLeft bs W1.heap.size)
  case atStart =>
    refine ⟨_, _, HR0.out, Lib.hid ⟨[w.heap.size], (HN1.out.pre HT0.out).perm ?_, HN2.out.then HT0.out, fun hm => ?_⟩⟩
    · have e : doneL L (fun x => (f x).isSome) = [] := by
        unfold doneL
        rw [List.filter_eq_nil_iff]
        intro x hx
        obtain ⟨v, l, i, e, _⟩ := H3.out.slot hx
        simp [HFS.out, e]
      rw [e]
    · rw [List.mem_singleton] at hm
      have := (HN1.out.1 w.heap.size (by simp)).2
      omega
  case round =>
    obtain ⟨left, cnt, hrg, HQ⟩ := hrel
    have HRG := Lib.hid hrg
    clear hrg
    go_wp2_with (at_next; refine wpList_next_v rfl _ rfl 2 keyL Try.underlying2 sread sread_inj bs W1.heap.size f left cnt rfl HRG.out ?_ ?_)
    · intro hl0
      have HL0 := Lib.hid hl0
      clear hl0
      go_wp2
      go_ret
      obtain ⟨F', a, b, _⟩ := HQ.out
      refine ⟨rfl, F', ?_, b⟩
      have e : doneL L left = L := by
        unfold doneL
        rw [List.filter_eq_self]
        intro x _
        simp [HL0.out]
      rwa [e] at a
    · intro k v w1 cnt1 hwx hlx hfx hrg1 hlt hg1 hs1 hen
      have hSk : ∃ l, S k = some (v, l) := by
        rw [HF.out] at hfx
        cases e : S k with
        | none => simp [e] at hfx
        | some q => simp [e] at hfx; exact ⟨q.2, by rw [← hfx]⟩
      obtain ⟨l, hl⟩ := hSk
      obtain ⟨g, cap, rfl, _, hg2, _, _, _, _, _, _, hcell, _⟩ := H3.out.form hl
      have HSK := Lib.hid hl
      have HCL := Lib.hid hcell
      have HG2 := Lib.hid hg2
      have HR1 := Lib.hid hrg1
      have HLT := Lib.hid hlt
      have HLX := Lib.hid hlx
      have HC1 : Hid (CpI w w1 W1.heap.size T (doneL L left)) := Lib.hid (by
        obtain ⟨F', a, b, c⟩ := HQ.out
        exact ⟨F', a.turns hg1 (fun i hi hm => by simp at hm; subst hm; exact c hi), b.trans hg1 fun i hi => .inr (by have := HN2.out.size; simp at hi; omega), c⟩)
      have HPM := Lib.hid (show l.Perm (L.filter fun x => decide (part x.2 = k)) by
        have := H3.out.perm k
        unfold Sl.at_ at this
        rw [hl] at this
        exact this)
      have HLN := Lib.hid (show (doneL L left).length ≤ 900 ∧ l.length ≤ 900 from ⟨Nat.le_trans (List.length_filter_le _ _) HL.out, Nat.le_trans (H3.out.len_le hl) HL.out⟩)
      clear hl hcell hg2 hrg1 hlt hlx hfx hwx hg1 hs1
      go_wp2
      clear hen
      go_loopw [26] (fun u wr => ∃ i : Nat, u = .int .i64 (i : Int) ∧ i ≤ l.length ∧ Hid (RangeV 2 sread wr bs W1.heap.size f (fun y => left y && !decide (y = k)) cnt1 ∧ CpI w wr W1.heap.size T (doneL L left ++ l.take i))) (fun u _ => l.length - (intOf u).toNat)
      case atStart => exact ⟨0, rfl, Nat.zero_le _, Lib.hid ⟨HR1.out, by simpa using HC1.out⟩⟩
      case round =>
        obtain ⟨i, rfl, hi, HR⟩ := hrel
        by_cases hil : i < l.length
        · obtain ⟨x, hx⟩ : ∃ x, l[i]? = some x := ⟨_, List.getElem?_eq_getElem hil⟩
          obtain ⟨hrv, F', a, b, c⟩ := HR.out
          have d0 := (b.cell HG2.out (by simp) (i * 2)).trans (HCL.out i x hx).1
          have d1 := (b.cell HG2.out (by simp) (i * 2 + 1)).trans (HCL.out i x hx).2
          have hxl : x ∈ l := List.mem_of_getElem? hx
          have hxL := (H3.out.mem HSK.out x).1 hxl
          have hnew : ∀ y ∈ doneL L left ++ l.take i, y.1 ≠ x.1 := fun y hy e => by
            rcases List.mem_append.1 hy with h | h
            · have h1 := List.mem_filter.1 h
              have := HOK.out.ids.eq h1.1 hxL.1 e
              subst this
              have h2 := h1.2
              rw [hxL.2, HLX.out] at h2
              cases h2
            · have hyl := (List.take_sublist i l).subset h
              have := HOK.out.ids.eq ((H3.out.mem HSK.out y).1 hyl).1 hxL.1 e
              subst this
              obtain ⟨j, hj⟩ := List.getElem?_of_mem h
              have hj1 : j < i := by
                have := (List.getElem?_eq_some_iff.1 hj).1
                simp at this
                omega
              rw [List.getElem?_take_of_lt hj1] at hj
              have := at_inj (H3.out.nodup HOK.out.ids HSK.out).nodup hj hx
              omega
          have hlen : (doneL L left ++ l.take i).length ≤ 1000 := by
            have hn : (doneL L left ++ l.take i).length ≤ L.length := by
              have h1 := (done_next HLX.out HPM.out).length_eq
              have h2 : (doneL L (fun y => left y && !decide (y = k))).length ≤ L.length := List.length_filter_le _ _
              rw [List.length_append] at h1
              rw [List.length_append, List.length_take]
              omega
            have := HL.out
            omega
          have hw1 := HOK.out.wf x hxL.1
          have hw2 := hpOf HOK.out x hxL.1
          have HPU := Lib.hid (fun C => put_any (a.pre (Turns.alloc wr C)) x hnew hw1 hw2 hlen)
          have HST : Hid (∀ (C : Obj) w', PutP w.heap.size (wr.alloc C) w.heap.size T (doneL L left ++ l.take i) F' x (.returned (.tuple #[])) w' → RangeV 2 sread w' bs W1.heap.size f (fun y => left y && !decide (y = k)) cnt1 ∧ CpI w w' W1.heap.size T (doneL L left ++ l.take (i + 1))) := Lib.hid (fun C w' h => by
            have hrl := hrv.lt
            have hbs : bs < w.heap.size := HS.out.lt
            refine ⟨(hrv.turns (Turns.alloc (F := []) wr C) (by simp) (by simp)).turns h.2.choose_spec.2.1 (fun hm => by have := (a.1 bs hm).1; omega) c, ?_⟩
            rw [List.take_add_one, hx]
            show CpI w w' W1.heap.size T (doneL L left ++ (l.take i ++ [x]))
            rw [← List.append_assoc]
            exact CpI.put (b.then (Turns.alloc (F := []) wr C)) (fun i hi => (a.1 i hi).1) c (by simp; omega) h)
          have HWI := Lib.hid (wrapS (i := i) (by have := HLN.out; omega))
          have HIL := Lib.hid hil
          have f2 : (i : Int) < (l.length : Int) := by omega
          have f3 : (0 : Int) ≤ (i : Int) := by omega
          clear hx hrv a b c hxl hxL hnew hlen hw1 hw2 hil
          go_wp2_with (go_at_call 26; refine (HPU.out _).mono ?_; rintro e w2 hp2; have HP2 := Lib.hid (HST.out _ _ (by have e1 := hp2.1; subst e1; exact hp2)); obtain ⟨rfl, -⟩ := hp2)
          go_roundw
          case rel => exact ⟨i + 1, congrArg (Value.int .i64) HWI.out, HIL.out, Lib.hid HP2.out⟩
          case measure => exact measS HIL.out HWI.out
        · have hge : decide ((i : Int) < (l.length : Int)) = false := by simp; omega
          have hie : i = l.length := by omega
          subst hie
          go_wp2
          go_roundw
          case rel =>
            obtain ⟨hrv, F', a, b, c⟩ := HR.out
            rw [List.take_length] at a
            exact ⟨_, cnt1, hrv, Lib.hid ⟨F', a.perm (done_next HLX.out HPM.out), b, c⟩⟩
          case measure =>
            rw [HR.out.1.left_eq, HRG.out.left_eq]
            exact HLT.out
set_option maxRecDepth 100000 in
set_option maxHeartbeats 2000000 in
theorem copy_nil0 {w : World} {bw : Nat} {T : Int} (h3 : w.heap[bw]? = some (.cells #[.int .i64 T, .map none, .map none] 50 (0, 0))) :
    Calls Try.prog 11 #[.pointer (some ⟨bw, 0, none⟩)] w fun e w' => e = .returned (.pointer (some ⟨w.heap.size, 0, none⟩)) ∧ Lone w w' w.heap.size T [] := by
  have hbw : bw < w.heap.size := lt_of_block h3
  have c0 : w.cell? ⟨bw, 0, none⟩ = some (.int .i64 T) := by simp [World.cell?, h3]
  have c1 : w.cell? ⟨bw, 1, none⟩ = some (.map none) := by simp [World.cell?, h3]
  have HN := Lib.hid (new_any T w)
  clear h3
  go_enter Try.func11, Try.ntmps11
  go_wp2_with fail
  refine (Hid.out HN).mono ?_
  rintro e W1 ⟨rfl, hn1, hn2⟩
  have m1 := (hn2.cell hbw (by simp) 1).trans c1
  have hrg := run_range_nilMap (P := Try.prog) W1 47 2 27 Try.underlying47
  have hnx : ∀ ty, (Instr.next (.pointer (some ⟨W1.heap.size, 0, none⟩)) false ty).run Try.prog (W1.alloc (.mapIter none 0 #[] 0)) = _ := fun ty => run_next_nilMap W1 ty 0 0 #[]
  have HE : Hid (∀ o, Lone w (W1.alloc o) w.heap.size T []) := Lib.hid (fun o => ⟨_, hn1.pre (Turns.alloc (F := []) W1 o), hn2.then (Turns.alloc (F := []) W1 o)⟩)
  clear hn1 hn2 HN c0 c1
  go_wp2
  refine wp_loop_rounds 1 ?_
  rw [rounds_succ]
  go_wp2
  go_ret
  exact ⟨rfl, HE.out _⟩
theorem copy_any {B : Nat} {w : World} {bw : Nat} {T : Int} {L : List Fi} {F : List Nat} (h : WhAt B w bw T L F) (hok : WOk T L) (hL : L.length ≤ 900) :
    Calls Try.prog 11 #[.pointer (some ⟨bw, 0, none⟩)] w fun e w' => e = .returned (.pointer (some ⟨w.heap.size, 0, none⟩)) ∧ Lone w w' w.heap.size T L := by
  rcases h.2.2 with ⟨h3, rfl⟩ | ⟨bs, bp, S, P, h3⟩
  · exact copy_nil0 h3
  · exact copy_laid h h3 hok hL
end Go.Proofs.Ytaepgcicgmbbeaa
