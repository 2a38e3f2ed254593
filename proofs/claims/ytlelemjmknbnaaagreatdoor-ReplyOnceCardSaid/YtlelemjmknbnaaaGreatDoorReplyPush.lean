/- Push. -/
import Derived.Test.YtlelemjmknbnaaaGreatDoorReplyHd
namespace Go.Proofs.YtlelemjmknbnaaaGreatDoor
open Go.RowKit

/-- What Push leaves. -/
def RpP (B : Nat) (w : World) (q : Nat) (r : Rp) (most : Int) (F : List Nat) (e : Ending) (w' : World) : Prop :=
  (∃ v, e = .returned v) ∧ ∃ F', Rdr B w' q r most F' ∧ Turns F w w' ∧ ∀ g ∈ F', g ∈ F ∨ w.heap.size ≤ g
/-- What came behind is counted. -/
theorem RdR.setRest {B : Nat} {w : World} {q : Nat} {r : Rp} {most : Int} {av dv : Value} {R : List Nat} (h : RdR B w q r most av dv R) (n : Nat) :
    RdR B (w.setCell ⟨q, 9, none⟩ (.int .i64 (n : Int))) q { r with rest := n } most av dv R :=
  h.setOwn (Turns.setCell _ _ _ (List.mem_singleton.2 rfl)) (heap_setCell_same _ q 9 _ _ _ h.head) rfl rfl rfl
theorem RpP.counted {B : Nat} {w W : World} {q : Nat} {r : Rp} {most : Int} {av dv : Value} {R F : List Nat} (h : RdR B W q r most av dv R) (ht : Turns F w W) (hq : q ∈ F) (hx : ∀ g ∈ footR q av R, g ∈ F ∨ w.heap.size ≤ g) (n : Nat) (v : Value) :
    RpP B w q { r with rest := n } most F (.returned v) (W.setCell ⟨q, 9, none⟩ (.int .i64 (n : Int))) :=
  ⟨⟨_, rfl⟩, _, ⟨_, _, _, h.setRest n, rfl⟩, turns_one ht hq, hx⟩
theorem Dc.push_le : ∀ (l : List UInt8) (d : Dc), (d.push l).1 ≤ l.length
  | [], d => Nat.le_refl _
  | c :: l, d => by
    cases ho : d.over with
    | true => rw [Dc.push_over ho]; exact Nat.zero_le _
    | false =>
      rw [Dc.push_one ho]
      have := Dc.push_le l (d.take1 c)
      simp
      omega
theorem push_body {r : Rp} {d : Dc} (h : r.body = some d) (b : List UInt8) : r.push b = r.toBody b := by
  unfold Rp.push
  rw [if_neg (by rw [h]; rintro ⟨h, -⟩; cases h)]
theorem push_wrong {r : Rp} (h : r.wrong ≠ 0) (b : List UInt8) : r.push b = r.toBody b := by
  unfold Rp.push
  rw [if_neg (by rintro ⟨-, h2⟩; exact h h2)]
theorem push_open {r : Rp} (h : r.body = none) (h0 : r.wrong = 0) (b : List UInt8) : r.push b = (r.head1 b).1.toBody (r.head1 b).2 := by
  unfold Rp.push
  rw [if_pos ⟨by rw [h]; rfl, h0⟩]
set_option maxRecDepth 100000 in
set_option maxHeartbeats 1000000 in
theorem rpush_wrong {B : Nat} {w : World} {q : Nat} {r : Rp} {most : Int} {av dv : Value} {R : List Nat} (h : RdR B w q r most av dv R) (hd : r.body = none) (h0 : r.wrong ≠ 0) (h7 : r.wrong ≠ 7) (A : Option Addr) (c : Nat) (l : List UInt8) (hl : l.length ≤ 50000) (hrs : r.rest ≤ 1000000) :
    Calls Tryz.prog 7 #[.pointer (some ⟨q, 0, none⟩), .slice A l.length c] w (RpP B w q (r.push l) most (footR q av R)) := by
  have hb := h.body
  rw [hd] at hb
  obtain ⟨rfl, rfl⟩ := hb
  obtain ⟨-, -, -, -, -, -, c6, -, -, c9, -, cf⟩ := h.cells
  have f9 := cf 9
  have HO := Lib.hid (over_rd h)
  rw [came_none hd, if_neg h0, decide_eq_true h7] at HO
  have HR : Hid (∀ n, RpP B w q (r.push l) most (footR q av []) (.returned (.tuple #[])) ((w.drewN n).setCell ⟨q, 9, none⟩ (.int .i64 ((r.rest + l.length : Nat) : Int)))) := Lib.hid (fun n => by
    rw [push_wrong h0, toBody_none hd]
    exact RpP.counted (w := w) (W := w.drewN n) (h.turns (F := []) ⟨rfl, rfl, rfl, Nat.le_refl _, fun _ _ _ => rfl⟩ (by simp)) ⟨rfl, rfl, rfl, Nat.le_refl _, fun _ _ _ => rfl⟩ (by simp [footR]) (fun g hg => .inl hg) _ _)
  generalize RpP B w q (r.push l) most (footR q av []) = Q at HR ⊢
  generalize r.rest = rs at *
  generalize l.length = n at *
  have k1 : IntKind.i64.wrap ((rs : Int) + (n : Int)) = ((rs + n : Nat) : Int) := by rw [IntKind.wrap_i64]; omega
  clear h hd h0 h7 cf
  go_enter Tryz.func7, Tryz.ntmps7
  go_wp2_with (go_at_call 11; refine (HO.out).mono ?_; rintro e w1 ⟨rfl, n1, rfl⟩)
  exact bodyPost_end (v := .tuple #[]) (by simp [results, Tryz.f7, go_sem]) rfl (HR.out n1)
set_option maxRecDepth 100000 in
set_option maxHeartbeats 1000000 in
theorem push_empty (w : World) (p : Nat) (A : Option Addr) (c : Nat) : Calls Tryz.prog 17 #[.pointer (some ⟨p, 0, none⟩), .slice A 0 c] w fun e w' => e = .returned (.int .i64 0) ∧ w = w' := by
  go_enter Tryz.func17, Tryz.ntmps17
  go_wp2
  go_step3
  go_wp2
  go_step3
  go_wp2
  go_loopw [5] (fun tv wr => tv = .int .i64 0 ∧ w = wr) (fun _ _ => 0)
  case atStart => exact ⟨rfl, rfl⟩
  case round =>
    obtain ⟨rfl, rfl⟩ := hrel
    go_wp2
    rw [Exit.noGoto_ret]
    go_ret
    exact ⟨rfl, rfl⟩
/-- The bytes are the body's. -/
theorem toBody_push {B : Nat} {w : World} {q : Nat} {r : Rp} {most : Int} {av : Value} {R : List Nat} {p : Nat} (h : RdR B w q r most av (.pointer (some ⟨p, 0, none⟩)) R) {d : Dc} (hd : r.body = some d) {A : Option Addr} {c : Nat} {l : List UInt8}
    (hr : BReads w w.heap.size A l) (hc : l.length ≤ c) (hA : ∀ a, A = some a → a.block ∉ footR q av R) (hb : Bnd d l.length) (hm : GX w) (hB : 1 < B) :
    Calls Tryz.prog 17 #[.pointer (some ⟨p, 0, none⟩), .slice A l.length c] w fun e w' => e = .returned (.int .i64 ((d.push l).1 : Int)) ∧ ∃ R', RdR B w' q { r with body := some (d.push l).2 } most av (.pointer (some ⟨p, 0, none⟩)) R' ∧ Turns (footR q av R) w w' ∧ ∀ g ∈ footR q av R', g ∈ footR q av R ∨ w.heap.size ≤ g := by
  have hbd := h.body
  rw [hd] at hbd
  obtain ⟨p', hp, hdk⟩ := hbd
  cases hp
  refine (push_dk hdk hr hc (fun a e hm => hA a e (by simp [footR, hm])) hb hm hB).mono fun e w' hh => ?_
  obtain ⟨he, R', h1, h2, h3⟩ := hh
  exact ⟨he, R', h.bodyTo h2 h1 h3⟩
set_option maxRecDepth 100000 in
set_option maxHeartbeats 1000000 in
theorem rpush_body {B : Nat} {w : World} {q : Nat} {r : Rp} {most : Int} {av dv : Value} {R : List Nat} (h : RdR B w q r most av dv R) {d : Dc} (hd : r.body = some d) {A : Option Addr} {c : Nat} {l : List UInt8} (hl : l.length ≤ 50000) (hrs : r.rest ≤ 1000000)
    (hr : BReads w w.heap.size A l) (hc : l.length ≤ c) (hn : A = none → c = 0) (hA : 0 < l.length → ∀ a, A = some a → a.block ∉ footR q av R) (hb : Bnd d l.length) (hm : GX w) (hB : 1 < B) :
    Calls Tryz.prog 7 #[.pointer (some ⟨q, 0, none⟩), .slice A l.length c] w (RpP B w q (r.push l) most (footR q av R)) := by
  have hbd := h.body
  rw [hd] at hbd
  obtain ⟨p, rfl, -⟩ := hbd
  obtain ⟨-, -, -, -, -, -, c6, -, -, -, -, -⟩ := h.cells
  have HP : Hid (Calls Tryz.prog 17 #[.pointer (some ⟨p, 0, none⟩), .slice A l.length c] w fun e w' => e = .returned (.int .i64 ((d.push l).1 : Int)) ∧ ∃ R', RdR B w' q { r with body := some (d.push l).2 } most av (.pointer (some ⟨p, 0, none⟩)) R' ∧ Turns (footR q av R) w w' ∧ ∀ g ∈ footR q av R', g ∈ footR q av R ∨ w.heap.size ≤ g) := Lib.hid (by
    by_cases hz : 0 < l.length
    · exact toBody_push h hd hr hc (hA hz) hb hm hB
    · obtain rfl := List.eq_nil_of_length_eq_zero (show l.length = 0 by omega)
      refine (push_empty w p A c).mono fun e2 w2 hh2 => ?_
      obtain ⟨he2, rfl⟩ := hh2
      refine ⟨he2, R, ?_, Turns.refl _ _, fun g hg => .inl hg⟩
      have hb3 : some d = r.body := hd.symm
      show RdR B w q { r with body := some d } most av _ R
      rw [hb3]
      exact h)
  have hle := Dc.push_le l d
  have hE : r.push l = { r with body := some (d.push l).2, rest := r.rest + (l.length - (d.push l).1) } := by rw [push_body hd, toBody_some hd]
  have HR : Hid (∀ W R', RdR B W q { r with body := some (d.push l).2 } most av (.pointer (some ⟨p, 0, none⟩)) R' → Turns (footR q av R) w W → (∀ g ∈ footR q av R', g ∈ footR q av R ∨ w.heap.size ≤ g) → RpP B w q (r.push l) most (footR q av R) (.returned (.tuple #[])) (W.setCell ⟨q, 9, none⟩ (.int .i64 ((r.rest + (l.length - (d.push l).1) : Nat) : Int)))) := Lib.hid (fun W R' hW hT hX => by
    rw [hE]
    exact RpP.counted hW hT (by simp [footR]) hX _ _)
  generalize RpP B w q (r.push l) most (footR q av R) = Q at HR ⊢
  have HRS : Hid (∀ W R', RdR B W q { r with body := some (d.push l).2 } most av (.pointer (some ⟨p, 0, none⟩)) R' → W.cell? ⟨q, 9, none⟩ = some (.int .i64 (r.rest : Int)) ∧ W.frozen? ⟨q, 9, none⟩ = false) := Lib.hid (fun W R' hW => by
    obtain ⟨-, -, -, -, -, -, -, -, -, c9, -, cf⟩ := hW.cells
    exact ⟨c9, cf 9⟩)
  generalize r.rest = rs at HR HRS hrs HP
  generalize (d.push l).2 = d2 at HP HR HRS
  generalize (d.push l).1 = j at HP HR hle
  obtain ⟨n, hnn⟩ : ∃ n, n = l.length := ⟨_, rfl⟩
  rw [← hnn] at HP HR hle hl hc ⊢
  have k1 : IntKind.i64.wrap ((rs : Int) + ((n - j : Nat) : Int)) = ((rs + (n - j) : Nat) : Int) := by rw [IntKind.wrap_i64]; omega
  have k2 : (j : Int) ≤ (n : Int) := by omega
  have hAn : A = none → j = 0 := fun e => by have := hn e; omega
  clear h hd hr hA hb hm hnn hE
  have key : ∀ (e : Ending) (W : World), e = .returned (.int .i64 (j : Int)) ∧ (∃ R', RdR B W q { r with body := some d2, rest := rs } most av (.pointer (some ⟨p, 0, none⟩)) R' ∧ Turns (footR q av R) w W ∧ ∀ g ∈ footR q av R', g ∈ footR q av R ∨ w.heap.size ≤ g) → e = .returned (.int .i64 (j : Int)) ∧ W.cell? ⟨q, 9, none⟩ = some (.int .i64 (rs : Int)) ∧ W.frozen? ⟨q, 9, none⟩ = false ∧ Hid (Q (.returned (.tuple #[])) (W.setCell ⟨q, 9, none⟩ (.int .i64 ((rs + (n - j) : Nat) : Int)))) := by
    rintro e W ⟨he, R', h1, h2, h3⟩
    obtain ⟨m1, m2⟩ := HRS.out W R' h1
    exact ⟨he, m1, m2, Lib.hid (HR.out W R' h1 h2 h3)⟩
  have HK := Lib.hid (Calls.mono HP.out key)
  clear key HP HR HRS
  cases A with
  | none =>
    obtain rfl : j = 0 := hAn rfl
    obtain rfl : c = 0 := hn rfl
    obtain rfl : n = 0 := by omega
    clear hAn hn
    go_enter Tryz.func7, Tryz.ntmps7
    go_wp2_with (go_at_call 17; refine (HK.out).mono ?_; rintro e w1 ⟨rfl, m1, m2, hq⟩)
    exact bodyPost_end (v := .tuple #[]) (by simp [results, Tryz.f7, go_sem]) rfl hq.out
  | some ad =>
    clear hAn hn
    by_cases hcj : c = j
    · subst hcj
      obtain rfl : n = c := by omega
      rw [show rs + (n - n) = rs by omega] at HK
      clear k1 k2 hle hc
      go_enter Tryz.func7, Tryz.ntmps7
      go_wp2_with (go_at_call 17; refine (HK.out).mono ?_; rintro e w1 ⟨rfl, m1, m2, hq⟩)
      exact bodyPost_end (v := .tuple #[]) (by simp [results, Tryz.f7, go_sem]) rfl hq.out
    · have htc : (c == j) = false := by simp [hcj]
      go_enter Tryz.func7, Tryz.ntmps7
      go_wp2_with (go_at_call 17; refine (HK.out).mono ?_; rintro e w1 ⟨rfl, m1, m2, hq⟩)
      exact bodyPost_end (v := .tuple #[]) (by simp [results, Tryz.f7, go_sem]) rfl hq.out
theorem head1_len (r : Rp) (l : List UInt8) : (r.head1 l).2.length ≤ l.length ∧ (r.head1 l).1.rest = r.rest := by
  unfold Rp.head1
  split
  · exact ⟨by simp, rfl⟩
  · split
    · exact ⟨by simp, rfl⟩
    · exact ⟨by simp, rfl⟩
    · split
      · exact ⟨by simp, rfl⟩
      · exact ⟨by simp, rfl⟩
theorem RdR.drewN {B : Nat} {w : World} {q : Nat} {r : Rp} {most : Int} {av dv : Value} {R : List Nat} (h : RdR B w q r most av dv R) (n : Nat) : RdR B (w.drewN n) q r most av dv R :=
  h.turns (F := []) ⟨rfl, rfl, rfl, Nat.le_refl _, fun _ _ _ => rfl⟩ (by simp)
theorem RdR.lowF {B : Nat} {w : World} {q : Nat} {r : Rp} {most : Int} {av dv : Value} (h : RdR B w q r most av dv []) : ∀ g ∈ footR q av [], B ≤ g := by
  intro g hg
  unfold footR ownB at hg
  rw [List.append_nil, List.mem_cons, Option.mem_toList] at hg
  rcases hg with rfl | hg
  · exact h.low
  · exact (World.ownsRow.lt h.ahead g hg).1
set_option maxRecDepth 100000 in
set_option maxHeartbeats 2000000 in
theorem rpush_open {B : Nat} {w : World} {q : Nat} {r : Rp} {most : Int} {av dv : Value} {R : List Nat} (h : RdR B w q r most av dv R) (hd : r.body = none) (h0 : r.wrong = 0) (hp : parseL r.ahead = .part) {A : Option Addr} {c : Nat} {l : List UInt8} (hl : l.length ≤ 50000) (hrs : r.rest ≤ 1000000)
    (hr : BReads w w.heap.size A l) (hc : l.length ≤ c) (hn : A = none → c = 0) (hA : 0 < l.length → ∀ a, A = some a → a.block ∉ footR q av R) (hbd : ∀ d, (r.head1 l).1.body = some d → Bnd d (r.head1 l).2.length) (hmost : most ≤ 9223372036854775807) (hm : GX w) (hB : 1 < B) :
    Calls Tryz.prog 7 #[.pointer (some ⟨q, 0, none⟩), .slice A l.length c] w (RpP B w q (r.push l) most (footR q av R)) := by
  have hb := h.body
  rw [hd] at hb
  obtain ⟨rfl, rfl⟩ := hb
  obtain ⟨-, -, -, -, -, -, c6, -, -, -, -, -⟩ := h.cells
  have HO := Lib.hid (over_rd h)
  rw [came_none hd, if_pos h0] at HO
  change Hid (Calls _ _ _ _ fun e w' => e = .returned (.bool false) ∧ _) at HO
  have HH : Hid (∀ n, Calls Tryz.prog 16 #[.pointer (some ⟨q, 0, none⟩), .slice A l.length c] (w.drewN n) (HdP B (w.drewN n) q most (footR q av []) A (r.head1 l))) := Lib.hid (fun n => readHead_any (h.drewN n) hd hp (show BReads (w.drewN n) (w.drewN n).heap.size A l from hr) hc hn hA hl (show MX (w.drewN n) from hm.1) hmost hB)
  have hE : r.push l = (r.head1 l).1.toBody (r.head1 l).2 := push_open hd h0 l
  obtain ⟨hl1, hr1⟩ := head1_len r l
  have hlow := h.lowF
  have hltF := h.ltF
  have hltA : ∀ a, A = some a → a.block < w.heap.size ∨ l.length = 0 := fun a e => by
    rcases hr with h | ⟨b, off, h1, h2, -⟩
    · exact .inr (by rw [h]; rfl)
    · rw [e] at h1
      cases h1
      exact .inl h2
  generalize r.head1 l = x at HH hE hbd hl1 hr1
  obtain ⟨r1, l1⟩ := x
  simp only [] at HH hE hbd hl1 hr1
  have hrs1 : r1.rest ≤ 1000000 := by omega
  cases hb1 : r1.body with
  | none =>
    have HK : Hid (∀ n, Calls Tryz.prog 16 #[.pointer (some ⟨q, 0, none⟩), .slice A l.length c] (w.drewN n) fun e w' => ∃ A' c', e = .returned (.slice A' l1.length c') ∧ w'.cell? ⟨q, 6, none⟩ = some (.pointer none) ∧ w'.cell? ⟨q, 9, none⟩ = some (.int .i64 (r1.rest : Int)) ∧ w'.frozen? ⟨q, 9, none⟩ = false ∧ Hid (RpP B w q (r.push l) most (footR q av []) (.returned (.tuple #[])) (w'.setCell ⟨q, 9, none⟩ (.int .i64 ((r1.rest + l1.length : Nat) : Int))))) := Lib.hid (fun n => (HH.out n).mono fun e w' hh => by
      obtain ⟨⟨A', c', he, -⟩, F', ⟨av', dv', R', h1, rfl⟩, h2, h3⟩ := hh
      have hb2 := h1.body
      rw [hb1] at hb2
      obtain ⟨rfl, rfl⟩ := hb2
      obtain ⟨-, -, -, -, -, -, e6, -, -, e9, -, ef⟩ := h1.cells
      refine ⟨A', c', he, e6, e9, ef 9, Lib.hid ?_⟩
      rw [hE, toBody_none hb1]
      exact RpP.counted (w := w) h1 ⟨h2.os, h2.tape, h2.output, h2.size, h2.block⟩ (by simp [footR]) h3 _ _)
    generalize RpP B w q (r.push l) most (footR q av []) = Q at HK ⊢
    generalize r1.rest = rs at HK hrs1
    generalize l1.length = n1 at HK hl1
    generalize l.length = n at HK hl hl1 ⊢
    have k1 : IntKind.i64.wrap ((rs : Int) + (n1 : Int)) = ((rs + n1 : Nat) : Int) := by rw [IntKind.wrap_i64]; omega
    clear h hd h0 hp hr hc hn hA hbd hm hE hlow hltF hltA hrs hr1 HH
    go_enter Tryz.func7, Tryz.ntmps7
    go_wp2_with (first | (go_at_call 11; refine (HO.out).mono ?_; rintro e w1 ⟨rfl, m1, rfl⟩) | (go_at_call 16; refine (HK.out _).mono ?_; rintro e w2 ⟨A2, c2, rfl, x6, x9, xf, hq⟩))
    exact bodyPost_end (v := .tuple #[]) (by simp [results, Tryz.f7, go_sem]) rfl hq.out
  | some d1 =>
    have hbnd := hbd d1 hb1
    have hle := Dc.push_le l1 d1
    have HK : Hid (∀ n, Calls Tryz.prog 16 #[.pointer (some ⟨q, 0, none⟩), .slice A l.length c] (w.drewN n) fun e w' => ∃ A' c' p, e = .returned (.slice A' l1.length c') ∧ w'.cell? ⟨q, 6, none⟩ = some (.pointer (some ⟨p, 0, none⟩)) ∧ Hid (l1.length ≤ c' ∧ (A' = none → c' = 0)) ∧
        Hid (Calls Tryz.prog 17 #[.pointer (some ⟨p, 0, none⟩), .slice A' l1.length c'] w' fun e2 w2 => e2 = .returned (.int .i64 ((d1.push l1).1 : Int)) ∧ w2.cell? ⟨q, 9, none⟩ = some (.int .i64 (r1.rest : Int)) ∧ w2.frozen? ⟨q, 9, none⟩ = false ∧ Hid (RpP B w q (r.push l) most (footR q av []) (.returned (.tuple #[])) (w2.setCell ⟨q, 9, none⟩ (.int .i64 ((r1.rest + (l1.length - (d1.push l1).1) : Nat) : Int)))))) := Lib.hid (fun n => (HH.out n).mono fun e w' hh => by
      obtain ⟨⟨A', c', he, hbr, hlc, hnc, hbk⟩, F', ⟨av', dv', R', h1, rfl⟩, h2, h3⟩ := hh
      have h2 : Turns (footR q av []) w w' := ⟨h2.os, h2.tape, h2.output, h2.size, h2.block⟩
      change ∀ g ∈ footR q av' R', g ∈ footR q av [] ∨ w.heap.size ≤ g at h3
      have hb2 := h1.body
      change BodyR B w' r1.body dv' R' at hb2
      rw [hb1] at hb2
      obtain ⟨p, rfl, -⟩ := hb2
      obtain ⟨-, -, -, -, -, -, e6, -, -, -, -, -⟩ := h1.cells
      refine ⟨A', c', p, he, e6, Lib.hid ⟨hlc, hnc⟩, Lib.hid ?_⟩
      by_cases hz : l1.length = 0
      · obtain rfl := List.eq_nil_of_length_eq_zero hz
        refine (push_empty w' p A' c').mono fun e2 w2 hh2 => ?_
        obtain ⟨he2, rfl⟩ := hh2
        obtain ⟨-, -, -, -, -, -, -, -, -, e9, -, ef⟩ := h1.cells
        refine ⟨he2, e9, ef 9, Lib.hid ?_⟩
        rw [hE, toBody_some hb1]
        have hb3 : some d1 = r1.body := hb1.symm
        show RpP B w q { r1 with body := some d1, rest := r1.rest + (0 - 0) } most _ _ _
        rw [hb3]
        exact RpP.counted (w := w) h1 h2 (by simp [footR]) h3 _ _
      · refine (toBody_push h1 hb1 hbr hlc (fun a e hma => ?_) hbnd (hm.turns h2 (fun g hg => Nat.lt_of_lt_of_le hB (hlow g hg))) hB).mono fun e2 w2 hh2 => ?_
        · obtain ⟨a0, ha0, hbb⟩ := hbk a e
          rw [hbb] at hma
          rcases h3 _ hma with h4 | h4
          · exact hA (by omega) a0 ha0 h4
          · rcases hltA a0 ha0 with h5 | h5
            · omega
            · omega
        · obtain ⟨he2, R2, g1, g2, g3⟩ := hh2
          obtain ⟨-, -, -, -, -, -, -, -, -, e9, -, ef⟩ := g1.cells
          refine ⟨he2, e9, ef 9, Lib.hid ?_⟩
          rw [hE, toBody_some hb1]
          exact RpP.counted (w := w) g1 (h2.trans g2 h3) (by simp [footR]) (fun g hg => by
            rcases g3 g hg with h4 | h4
            · exact h3 g h4
            · have := h2.size; exact .inr (by omega)) _ _)
    generalize RpP B w q (r.push l) most (footR q av []) = Q at HK ⊢
    generalize r1.rest = rs at HK hrs1
    generalize (d1.push l1).1 = j at HK hle
    generalize l1.length = n1 at HK hl1 hle
    generalize l.length = n at HK hl hl1 ⊢
    have k1 : IntKind.i64.wrap ((rs : Int) + ((n1 - j : Nat) : Int)) = ((rs + (n1 - j) : Nat) : Int) := by rw [IntKind.wrap_i64]; omega
    have k2 : (j : Int) ≤ (n1 : Int) := by omega
    clear h hd h0 hp hr hc hn hA hbd hm hE hlow hltF hltA hrs hr1 HH hbnd
    go_enter Tryz.func7, Tryz.ntmps7
    go_upto_region 3 with (first | (go_at_call 11; refine (HO.out).mono ?_; rintro e w1 ⟨rfl, m1, rfl⟩) | (go_at_call 16; refine (HK.out _).mono ?_; rintro e w2 ⟨A2, c2, p2, rfl, x6, hac, hpu⟩))
    obtain ⟨hlc, hnc⟩ := hac.out
    clear hac HK HO
    cases A2 with
    | none =>
      obtain rfl : c2 = 0 := hnc rfl
      obtain rfl : n1 = 0 := by omega
      obtain rfl : j = 0 := by omega
      clear hnc hlc
      go_wp2_with (go_at_call 17; refine (hpu.out).mono ?_; rintro e w3 ⟨rfl, m1, m2, hq⟩)
      exact bodyPost_end (v := .tuple #[]) (by simp [results, Tryz.f7, go_sem]) rfl hq.out
    | some ad =>
      clear hnc
      by_cases hcj : c2 = j
      · subst hcj
        obtain rfl : n1 = c2 := by omega
        rw [show rs + (n1 - n1) = rs by omega] at hpu
        clear k1 k2 hle hlc
        go_wp2_with (go_at_call 17; refine (hpu.out).mono ?_; rintro e w3 ⟨rfl, m1, m2, hq⟩)
        exact bodyPost_end (v := .tuple #[]) (by simp [results, Tryz.f7, go_sem]) rfl hq.out
      · have htc : (c2 == j) = false := by simp [hcj]
        go_wp2_with (go_at_call 17; refine (hpu.out).mono ?_; rintro e w3 ⟨rfl, m1, m2, hq⟩)
        exact bodyPost_end (v := .tuple #[]) (by simp [results, Tryz.f7, go_sem]) rfl hq.out
/-- Bytes come. -/
theorem push_rdr {B : Nat} {w : World} {q : Nat} {r : Rp} {most : Int} {F : List Nat} (h : Rdr B w q r most F) {room : Nat} {t : List UInt8} (hg : Got room t r) {A : Option Addr} {c : Nat} {l : List UInt8} (hl : l.length ≤ 50000) (hrs : r.rest ≤ 1000000)
    (hr : BReads w w.heap.size A l) (hc : l.length ≤ c) (hn : A = none → c = 0) (hA : 0 < l.length → ∀ a, A = some a → a.block ∉ F) (ht : t.length + l.length ≤ 50000) (hroom : room < 9223372036854775808) (hmost : most ≤ 9223372036854775807) (hm : GX w) (hB : 1 < B) :
    Calls Tryz.prog 7 #[.pointer (some ⟨q, 0, none⟩), .slice A l.length c] w (RpP B w q (r.push l) most F) := by
  obtain ⟨av, dv, R, h, rfl⟩ := h
  have hb0 := hg.bnd ht hroom
  cases hd : r.body with
  | some d =>
    rw [hd] at hb0
    exact rpush_body h hd hl hrs hr hc hn hA (hb0 d rfl) hm hB
  | none =>
    by_cases h0 : r.wrong = 0
    · obtain ⟨hp, hp2⟩ := hg.open hd h0
      exact rpush_open h hd h0 hp hl hrs hr hc hn hA (hg.bnd1 hd h0 ht hroom) hmost hm hB
    · exact rpush_wrong h hd h0 hg.seven A c l hl hrs
end Go.Proofs.YtlelemjmknbnaaaGreatDoor
