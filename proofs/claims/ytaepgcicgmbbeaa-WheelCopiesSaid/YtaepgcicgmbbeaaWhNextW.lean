/- The program's Next, walked. -/
import Derived.Test.YtaepgcicgmbbeaaWhNext
namespace Go.Proofs.Ytaepgcicgmbbeaa
open Go.RowKit

theorem head_min {T : Int} {x0 : Fi} {L0 l : List Fi} {y : Fi} (hok : WOk T (x0 :: L0)) {j : Int} (hl : ∀ z, z ∈ y :: l ↔ z ∈ x0 :: L0 ∧ part z.2 = j) (hj : j ≤ part x0.2) : minL y l = x0 := by
  have hs := List.pairwise_cons.1 hok.srt
  have hyL := (hl y).1 (List.mem_cons_self ..)
  have hxy : x0.2 ≤ y.2 := by
    rcases List.mem_cons.1 hyL.1 with rfl | h
    · omega
    · have := ltF_iff.1 (hs.1 y h); omega
  have hpx : part x0.2 = j := by
    have := part_le hxy
    rw [hyL.2] at this
    omega
  have hx : x0 ∈ y :: l := (hl x0).2 ⟨List.mem_cons_self .., hpx⟩
  obtain ⟨h1, h2⟩ := minL_spec l y
  have h3 := h2 x0 (List.mem_cons.1 hx)
  have h4 : minL y l ∈ y :: l := by
    rcases h1 with h | h
    · rw [h]; exact List.mem_cons_self ..
    · exact List.mem_cons_of_mem _ h
  rcases List.mem_cons.1 ((hl _).1 h4).1 with h | h
  · exact h
  · rw [hs.1 _ h] at h3; cases h3
theorem field_at (a b : Int) (w : World) : (Instr.field 44 (.agg #[.int .i64 a, .int .i64 b]) 1).run Try.prog w = .ok (.int .i64 b) w := by kernel_rfl
def nextV (L : List Fi) : Value := match L with | [] => .tuple #[.int .i64 0, .bool false] | x :: _ => .tuple #[.int .i64 x.2, .bool true]
set_option maxRecDepth 100000 in
set_option maxHeartbeats 4000000 in
theorem next_laid {B : Nat} {w : World} {bw : Nat} {T : Int} {x0 : Fi} {L0 : List Fi} {F : List Nat} {bs bp : Nat} {S : Sl} {P : Pc} (h : WhAt B w bw T (x0 :: L0) F) (h3 : Laid B w bw T (x0 :: L0) F bs bp S P) (hok : WOk T (x0 :: L0)) (hL : (x0 :: L0).length ≤ 1000) :
    Calls Try.prog 18 #[.pointer (some ⟨bw, 0, none⟩)] w fun e w' => e = .returned (.tuple #[.int .i64 x0.2, .bool true]) ∧ Turns [] w w' := by
  have hbw := h.cells.2.2
  have HLN := Lib.hid (len_any h)
  have HPO := Lib.hid (fun W => partOf_any 1125899906842624 (by omega) W)
  obtain ⟨q0, q1, _⟩ := h3.cells
  have hn0 : (((x0 :: L0).length : Int) == 0) = false := by simp; omega
  obtain ⟨f, hf⟩ : ∃ f : Int → Option Value, f = fun k => (S k).map (·.1) := ⟨_, rfl⟩
  have HF := Lib.hid (fun k => show (f k).isSome = (S k).isSome by rw [hf]; simp)
  obtain ⟨n, hs⟩ := h3.slots
  have hs' := hs
  rw [← hf] at hs'
  have HS := Lib.hid hs'
  have HS0 := Lib.hid hs
  have H3 := Lib.hid h3
  have HOK := Lib.hid hok
  have HL := Lib.hid hL
  generalize (x0 :: L0).length = nn at HLN hn0
  clear h h3 hok hL hs hs' hf
  go_enter Try.func18, Try.ntmps18
  go_wp2_with fail
  refine (Hid.out HLN).mono ?_
  rintro e w1 ⟨rfl, rfl⟩
  go_wp2_with (first | (go_at_call 29; refine (HPO.out _).mono ?_; rintro e w' ⟨rfl, rfl⟩) | (at_range; refine wpList_range_v rfl _ 47 rfl 2 27 keyL Try.underlying47 sread bs n f rfl HS.out ?_; intro w0 hrg0 ht0 hs0))
  go_frame
  have HR0 := Lib.hid hrg0
  have HT0 := Lib.hid ht0
  clear hrg0 ht0 hs0 hn0
  have hpm : part 1125899906842624 = 17592186044416 := by unfold part; omega
  rw [hpm]
  go_loopw [4] (fun u wr => ∃ j : Int, u = .int .i64 j ∧ ∃ left cnt, RangeV 2 sread wr bs w.heap.size f left cnt ∧ Hid ((∀ p, (S p).isSome = true → left p = false → j ≤ p) ∧ (j = 17592186044416 ∨ (S j).isSome = true) ∧ Turns [] w wr)) (fun _ wr => wr.rangeLeft bs w.heap.size)
  case atStart => exact ⟨_, rfl, _, _, HR0.out, Lib.hid ⟨fun p hp h => (by rw [HF.out, hp] at h; cases h), .inl rfl, HT0.out⟩⟩
  case round =>
    obtain ⟨j, rfl, left, cnt, hrg, HQ⟩ := hrel
    have HRG := Lib.hid hrg
    clear hrg
    go_wp2_with (at_next; refine wpList_next_v rfl _ rfl 2 keyL Try.underlying2 sread sread_inj bs w.heap.size f left cnt rfl HRG.out ?_ ?_)
    · intro hl0
      have HL0 := Lib.hid hl0
      clear hl0
      obtain ⟨a1, a2, a3⟩ := HQ.out
      have hx0 : x0 ∈ x0 :: L0 := List.mem_cons_self ..
      obtain ⟨v0, l0, i0, s0, _⟩ := H3.out.slot hx0
      have hjx : j ≤ part x0.2 := a1 _ (by rw [s0]; rfl) (HL0.out _)
      have hhi : part x0.2 ≤ 17592186044416 := by have := HOK.out.high x0 hx0; unfold part; omega
      have hSj : (S j).isSome = true := by
        rcases a2 with h | h
        · have e : j = part x0.2 := by omega
          rw [e, s0]; rfl
        · exact h
      obtain ⟨q, hq⟩ := Option.isSome_iff_exists.1 hSj
      obtain ⟨v1, l1⟩ := q
      obtain ⟨g, cap, rfl, _, hg2, _, _, _, _, _, _, hcell, _⟩ := H3.out.form hq
      have hne := (H3.out.own _ _ _ hq).2
      obtain ⟨y, l2, rfl⟩ : ∃ y l2, l1 = y :: l2 := by
        cases l1 with
        | nil => exact absurd rfl hne
        | cons y l2 => exact ⟨y, l2, rfl⟩
      have hmin := head_min (l := l2) (y := y) HOK.out (fun z => H3.out.mem hq z) hjx
      have hwj : (Lit.int .i64 j).wf = true := wfI (by
        obtain ⟨z, hz, hzj⟩ := List.mem_map.1 (H3.out.some_of hq)
        have := part_wf (hpOf HOK.out z hz)
        rw [hzj] at this
        exact this)
      have hlk := (HS0.out.turns a3 (by simp)).lookup keyL Try.underlying2 Try.underlying47 sread_inj (zeroS wr) (zd := .agg [.lit (.int .i64 0), .lit (.int .i64 0)]) (zp := []) rfl hwj
      rw [hq] at hlk
      simp only [Option.map_some, Option.getD_some] at hlk
      have cb := (a3.cell hbw (by simp) 1).trans q1
      have HMF := Lib.hid (minf_any g cap y l2 wr (Nat.le_trans (H3.out.len_le hq) HL.out) (Nat.lt_of_lt_of_le hg2 a3.size) (fun t z hz => ⟨(a3.cell hg2 (by simp) (t * 2)).trans (hcell t z hz).1, (a3.cell hg2 (by simp) (t * 2 + 1)).trans (hcell t z hz).2⟩))
      rw [hmin] at HMF
      have HA3 := Lib.hid a3
      generalize (y :: l2).length = ml at HMF hlk
      clear a1 a2 a3 hx0 s0 hjx hhi hSj hq hcell hne hmin hwj HQ hg2
      go_wp2_with fail
      refine (Hid.out HMF).mono ?_
      rintro e w5 ⟨rfl, t5⟩
      have hfa := field_at x0.1 x0.2 w5
      have HT5 := Lib.hid t5
      clear t5
      go_wp2
      go_ret2
      exact ⟨rfl, HA3.out.then HT5.out⟩
    · intro k v w1 cnt1 hwx hlx hfx hrg1 hlt hg1 hs1 hen
      have HR1 := Lib.hid hrg1
      have HG1 := Lib.hid hg1
      have HFX := Lib.hid hfx
      have HLT := Lib.hid hlt
      clear hrg1 hg1 hs1 hlx hfx hlt hwx
      go_wp2
      go_roundw
      case rel =>
        obtain ⟨a1, a2, a3⟩ := HQ.out
        refine ⟨_, rfl, _, cnt1, HR1.out, Lib.hid ⟨fun p hp hlp => ?_, ?_, a3.trans HG1.out fun i hi => .inr (by simp at hi; omega)⟩⟩
        · by_cases hpk : p = k
          · subst hpk
            exact Int.min_le_right _ _
          · simp [hpk] at hlp
            exact Int.le_trans (Int.min_le_left _ _) (a1 p hp hlp)
        · by_cases hjk : j ≤ k
          · rw [Int.min_eq_left hjk]
            exact a2
          · rw [Int.min_eq_right (by omega)]
            exact .inr (by rw [← HF.out, HFX.out]; rfl)
      case measure =>
        rw [HR1.out.left_eq, HRG.out.left_eq]
        exact HLT.out
theorem next_any {B : Nat} {w : World} {bw : Nat} {T : Int} {L : List Fi} {F : List Nat} (h : WhAt B w bw T L F) (hok : WOk T L) (hL : L.length ≤ 1000) :
    Calls Try.prog 18 #[.pointer (some ⟨bw, 0, none⟩)] w fun e w' => e = .returned (nextV L) ∧ Turns [] w w' := by
  cases L with
  | nil => exact (next_0 _ w w (len_any h)).mono fun _ _ ⟨a, b⟩ => ⟨a, by rw [b]; exact Turns.refl _ _⟩
  | cons x0 L0 =>
    rcases h.2.2 with ⟨_, h0⟩ | ⟨bs, bp, S, P, h3⟩
    · cases h0
    · exact next_laid h h3 hok hL
end Go.Proofs.Ytaepgcicgmbbeaa
