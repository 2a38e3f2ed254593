/- ReplyOnce: the walk. -/
import Derived.Test.YtlelemjmknbnaaaGreatDoorReplyKnown
namespace Go.Proofs.YtlelemjmknbnaaaGreatDoor
open Go.RowKit

theorem Rdr.turns {B : Nat} {w w' : World} {q : Nat} {r : Rp} {most : Int} {F G : List Nat} (h : Rdr B w q r most F) (ht : Turns G w w') (hd : ∀ g ∈ F, g ∉ G) : Rdr B w' q r most F := by
  obtain ⟨av, dv, R, h2, rfl⟩ := h
  exact ⟨av, dv, R, h2.turns ht hd, rfl⟩
theorem Rdr.lt {B : Nat} {w : World} {q : Nat} {r : Rp} {most : Int} {F : List Nat} (h : Rdr B w q r most F) : ∀ g ∈ F, g < w.heap.size := by
  obtain ⟨av, dv, R, h2, rfl⟩ := h
  exact h2.ltF
/-- Two readers side by side. -/
structure TwoR (w W : World) (most : Int) (q1 q2 : Nat) (r1 r2 : Rp) (F1 F2 : List Nat) : Prop where
  one : Rdr w.heap.size W q1 r1 most F1
  two : Rdr w.heap.size W q2 r2 most F2
  lo1 : ∀ g ∈ F1, w.heap.size ≤ g
  lo2 : ∀ g ∈ F2, w.heap.size ≤ g
  dj : ∀ g ∈ F1, g ∉ F2
  bel : Below w.heap.size w W
namespace TwoR
variable {w W W' : World} {most : Int} {q1 q2 : Nat} {r1 r2 r1' r2' : Rp} {F1 F2 : List Nat}
theorem swap (h : TwoR w W most q1 q2 r1 r2 F1 F2) : TwoR w W most q2 q1 r2 r1 F2 F1 := ⟨h.two, h.one, h.lo2, h.lo1, fun g h1 h2 => h.dj g h2 h1, h.bel⟩
theorem turn (h : TwoR w W most q1 q2 r1 r2 F1 F2) {F' : List Nat} (hr : Rdr w.heap.size W' q1 r1' most F') (ht : Turns F1 W W') (hx : ∀ g ∈ F', g ∈ F1 ∨ W.heap.size ≤ g) : TwoR w W' most q1 q2 r1' r2 F' F2 where
  one := hr
  two := h.two.turns ht (fun g h1 h2 => h.dj g h2 h1)
  lo1 := fun g hg => by
    rcases hx g hg with h1 | h1
    · exact h.lo1 g h1
    · exact Nat.le_trans h.bel.size h1
  lo2 := h.lo2
  dj := fun g hg hg2 => by
    rcases hx g hg with h1 | h1
    · exact h.dj g h1 hg2
    · have := h.two.lt g hg2; omega
  bel := h.bel.trans (ht.below h.lo1 h.bel.size)
theorem below (h : TwoR w W most q1 q2 r1 r2 F1 F2) (hb : Below W.heap.size W W') : TwoR w W' most q1 q2 r1 r2 F1 F2 where
  one := h.one.turns (F := F1) (Turns.of_below hb (Nat.le_refl _)) (by simp)
  two := h.two.turns (Turns.of_below hb (Nat.le_refl _)) (by simp)
  lo1 := h.lo1
  lo2 := h.lo2
  dj := h.dj
  bel := h.bel.trans (hb.mono h.bel.size)
/-- Bytes come to the first. -/
theorem push (h : TwoR w W most q1 q2 r1 r2 F1 F2) {room : Nat} {t : List UInt8} (hg : Got room t r1) {v : Value} {l : List UInt8} {n c : Nat} {A : Option Addr} (hv : v = .slice A n c) (hs : Sl W W.heap.size v l) (hA : 0 < l.length → ∀ a, A = some a → a.block < w.heap.size) (ht : t.length + l.length ≤ 50000) (hrs : r1.rest ≤ 1000000) (hroom : room < 9223372036854775808) (hmost : most ≤ 9223372036854775807) (hm : GX w) :
    Calls Tryz.prog 7 #[.pointer (some ⟨q1, 0, none⟩), .slice A n c] W fun e W' => (∃ v, e = .returned v) ∧ ∃ F1', Hid (TwoR w W' most q1 q2 (r1.push l) r2 F1' F2) := by
  obtain ⟨A', c', hv2, hr, hc, hn⟩ := hs
  rw [hv] at hv2
  cases hv2
  refine (push_rdr h.one hg (by omega) hrs hr hc hn (fun hz a e hm2 => ?_) ht hroom hmost (hm.grown h.bel) hm.lt).mono fun e W' hh => ?_
  · have h1 := hA hz a e
    have h2 := h.lo1 _ hm2
    omega
  · obtain ⟨hv, F', g1, g2, g3⟩ := hh
    exact ⟨hv, F', Lib.hid (h.turn g1 g2 g3)⟩
/-- The connection of the first ended. -/
theorem fin (h : TwoR w W most q1 q2 r1 r2 F1 F2) (h7 : r1.wrong ≠ 7) :
    Calls Tryz.prog 8 #[.pointer (some ⟨q1, 0, none⟩)] W fun e W' => (∃ v, e = .returned v) ∧ ∃ F1', Hid (TwoR w W' most q1 q2 r1.fin r2 F1' F2) :=
  (end_rdr h.one h7).mono fun e W' hh => by
    obtain ⟨hv, F', g1, g2, g3⟩ := hh
    exact ⟨hv, F', Lib.hid (h.turn g1 g2 (fun g hg => .inl (g3 g hg)))⟩
/-- What Reply answers of the first, behind the connection's end. -/
theorem say (h : TwoR w W most q1 q2 r1 r2 F1 F2) (he : r1.ended = true) (hl : ∀ d, r1.body = some d → d.body.length ≤ 1000000) :
    Calls Tryz.prog 9 #[.pointer (some ⟨q1, 0, none⟩)] W fun e W' => ∃ A c, e = .returned (.tuple #[.agg #[.int .i64 (stR r1 : Int), .slice A (bodyR r1).length c, .bool false], .int .i64 (r1.came : Int)]) ∧ Hid (Owned W.heap.size W' (.slice A (bodyR r1).length c) (bodyR r1) ∧ Below W.heap.size W W') := by
  obtain ⟨av, dv, R, h2, rfl⟩ := h.one
  refine (reply_any h2 hl).mono fun e W' hh => ?_
  obtain ⟨⟨A, c, he2, ho⟩, hb⟩ := hh.ended he
  exact ⟨A, c, he2, Lib.hid ⟨ho, hb⟩⟩
theorem over (h : TwoR w W most q1 q2 r1 r2 F1 F2) (h7 : r1.came ≠ 7) :
    Calls Tryz.prog 11 #[.pointer (some ⟨q1, 0, none⟩)] W fun e W' => e = .returned (.bool true) ∧ ∃ n, W' = W.drewN n := by
  obtain ⟨av, dv, R, h2, rfl⟩ := h.one
  have := over_rd h2
  rw [decide_eq_true h7] at this
  exact this
end TwoR
set_option maxRecDepth 100000 in
set_option maxHeartbeats 1000000 in
theorem once_early (most at_ also : Int) (A : Option Addr) (n c : Nat) (w : World) (hm : GX w) (hn : n ≤ 9223372036854775807) (h : (n : Int) > 12000 ∨ at_ < 0 ∨ at_ > (n : Int) ∨ also < at_ ∨ also > (n : Int)) :
    Calls Tryz.prog 3 #[.int .i64 most, .slice A n c, .int .i64 at_, .int .i64 also] w (FinR w) := by
  have HK := Lib.hid (known8_yes w hm)
  clear hm
  by_cases a1 : (n : Int) > 12000
  · clear h
    go_enter Tryz.func3, Tryz.ntmps3
    go_wp2_with fail
    refine (Hid.out HK).mono ?_
    rintro e w3 ⟨rfl, hb3⟩
    go_wp2
    go_ret
    exact ⟨rfl, hb3⟩
  · have b1 : decide ((12000 : Int) < (n : Int)) = false := by simp; omega
    by_cases a2 : at_ < 0
    · clear h a1
      go_enter Tryz.func3, Tryz.ntmps3
      go_wp2_with fail
      refine (Hid.out HK).mono ?_
      rintro e w3 ⟨rfl, hb3⟩
      go_wp2
      go_ret
      exact ⟨rfl, hb3⟩
    · have b2 : decide (at_ < 0) = false := by simp; omega
      by_cases a3 : at_ > (n : Int)
      · clear h a1 a2
        go_enter Tryz.func3, Tryz.ntmps3
        go_wp2_with fail
        refine (Hid.out HK).mono ?_
        rintro e w3 ⟨rfl, hb3⟩
        go_wp2
        go_ret
        exact ⟨rfl, hb3⟩
      · have b3 : decide ((n : Int) < at_) = false := by simp; omega
        by_cases a4 : also < at_
        · clear h a1 a2 a3
          go_enter Tryz.func3, Tryz.ntmps3
          go_wp2_with fail
          refine (Hid.out HK).mono ?_
          rintro e w3 ⟨rfl, hb3⟩
          go_wp2
          go_ret
          exact ⟨rfl, hb3⟩
        · have b4 : decide (also < at_) = false := by simp; omega
          have a5 : (n : Int) < also := by omega
          clear h a1 a2 a3 a4
          go_enter Tryz.func3, Tryz.ntmps3
          go_wp2_with fail
          refine (Hid.out HK).mono ?_
          rintro e w3 ⟨rfl, hb3⟩
          go_wp2
          go_ret
          exact ⟨rfl, hb3⟩
-- MAIN
theorem Got.nil_push {room : Nat} {l : List UInt8} {r : Rp} {t t2 : List UInt8} (h : Got room t r) (e : t ++ l = t2) : Got room t2 (r.push l) := e ▸ h.push l
theorem Got.rest2 {r : Rp} {l : List UInt8} {k : Nat} (h : r.rest ≤ k) : (r.push l).rest ≤ k + l.length := Nat.le_trans (r.push_rest l) (by omega)
/-- What is left to be done, once both connections ended: the same is told. -/
structure Done (w W : World) (most : Int) (q1 q2 : Nat) (o1 o2 : Rp) (F1 F2 : List Nat) : Prop where
  both : TwoR w W most q1 q2 o1 o2 F1 F2
  same : o1.came = o2.came ∧ stR o1 = stR o2 ∧ bodyR o1 = bodyR o2
  end1 : o1.ended = true
  end2 : o2.ended = true
  len1 : ∀ d, o1.body = some d → d.body.length ≤ 1000000
  len2 : ∀ d, o2.body = some d → d.body.length ≤ 1000000
  ov1 : o1.came ≠ 7
  ov2 : o2.came ≠ 7
theorem Done.of {w W : World} {most : Int} {q1 q2 room : Nat} {t : List UInt8} {r1 r2 : Rp} {F1 F2 : List Nat} (h : TwoR w W most q1 q2 r1.fin r2.fin F1 F2) (h1 : Got room t r1) (h2 : Got room t r2) (ht : t.length ≤ 50000) (hr : room < 9223372036854775808) : Done w W most q1 q2 r1.fin r2.fin F1 F2 :=
  ⟨h, said_same (h1.fin.1.trans h2.fin.1.symm), h1.fin.2, h2.fin.2, h1.finBody ht hr, h2.finBody ht hr, h1.over, h2.over⟩
set_option maxRecDepth 100000 in
set_option maxHeartbeats 1200000 in
theorem once_main (most : Int) (a s : Nat) (A : Option Addr) (l : List UInt8) (c : Nat) (w : World) (hm : GX w) (hl : l.length ≤ 12000) (has : a ≤ s) (hsl : s ≤ l.length) (hr : BReads w w.heap.size A l) (hc : l.length ≤ c) (hn : A = none → c = 0) (hpl : ∀ ad, A = some ad → 0 < c → ∃ b off, ad = ⟨b, off, none⟩ ∧ b < w.heap.size) (hmost : most ≤ 9223372036854775807) :
    Calls Tryz.prog 3 #[.int .i64 most, .slice A l.length c, .int .i64 (a : Int), .int .i64 (s : Int)] w (FinR w) := by
  obtain ⟨room, hroom⟩ : ∃ room : Nat, (room : Int) = max most 0 := ⟨(max most 0).toNat, by omega⟩
  have hrm : room < 9223372036854775808 := by omega
  have HGX : Hid (GX w) := Lib.hid hm
  have HGW : Hid (∀ W, Below w.heap.size w W → GX W) := Lib.hid (fun W hb => hm.grown hb)
  have HSL := Lib.hid (fun W (hb : Below w.heap.size w W) => (show BReads W W.heap.size A l from (hr.below hb).more hb.size))
  have HBK : Hid (0 < l.length → ∀ ad, A = some ad → ad.block < w.heap.size) := Lib.hid (fun hz ad e => by
    obtain ⟨b, off, h1, h2, -⟩ := hr.addr hz
    rw [e] at h1
    cases h1
    exact h2)
  have HE : Hid (l.take a ++ (l.take s).drop a = l.take s ∧ l.take s ++ l.drop s = l) := Lib.hid ⟨by
    have h1 := List.take_append_drop a (l.take s)
    rw [List.take_take, Nat.min_eq_left has] at h1
    exact h1, List.take_append_drop s l⟩
  obtain ⟨n, hnn⟩ : ∃ n, n = l.length := ⟨_, rfl⟩
  rw [← hnn] at hl hsl hc ⊢
  have HL := Lib.hid hnn
  have b1 : decide ((12000 : Int) < (n : Int)) = false := by simp; omega
  have b2 : decide ((a : Int) < 0) = false := by simp
  have b3 : decide ((n : Int) < (a : Int)) = false := by simp; omega
  have b4 : decide ((s : Int) < (a : Int)) = false := by simp; omega
  have b5 : decide ((n : Int) < (s : Int)) = false := by simp; omega
  have HN1 := Lib.hid (rnew_any (B := w.heap.size) w (Nat.le_refl _) most room hroom)
  clear hm hr hnn
  go_enter Tryz.func3, Tryz.ntmps3
  go_wp2_with fail
  refine (HN1.out).mono ?_
  rintro e w1 ⟨rfl, hr1, hb1⟩
  have HB1 := Lib.hid hb1
  have HR1 := Lib.hid hr1
  have HN2 := Lib.hid (rnew_any (B := w.heap.size) w1 hb1.size most room hroom)
  clear HN1 hr1 hb1 b1 b2 b3 b4 b5
  go_wp2_with fail
  refine (HN2.out).mono ?_
  rintro e w2 ⟨rfl, hr2, hb2⟩
  have HT2 : Hid (TwoR w w2 most w.heap.size w1.heap.size (Rp.made room) (Rp.made room) [w.heap.size] [w1.heap.size]) := Lib.hid
    { one := HR1.out.turns (Turns.of_below hb2 (Nat.le_refl _)) (by simp)
      two := hr2
      lo1 := fun g hg => by rw [List.mem_singleton] at hg; omega
      lo2 := fun g hg => by rw [List.mem_singleton] at hg; rw [hg]; exact HB1.out.size
      dj := fun g hg hg2 => by
        rw [List.mem_singleton] at hg hg2
        have := HR1.out.lt w.heap.size (List.mem_singleton.2 rfl)
        omega
      bel := HB1.out.trans (hb2.mono HB1.out.size) }
  generalize w1.heap.size = q2 at *
  clear HN2 hr2 hb2 HB1 HR1
  have HG0 := Lib.hid (Got.made room)
  have HP3 := Lib.hid (HT2.out.push HG0.out (v := .slice A n c) rfl (by rw [HL.out]; exact ⟨A, c, rfl, HSL.out _ HT2.out.bel, by rw [← HL.out]; exact hc, hn⟩) HBK.out (by rw [← HL.out]; simp; omega) (by show 0 ≤ 1000000; decide) hrm hmost HGX.out)
  have HG1 : Hid (Got room l ((Rp.made room).push l)) := Lib.hid (HG0.out.nil_push (List.nil_append l))
  go_wp2_with fail
  refine (HP3.out).mono ?_
  rintro e w3 ⟨⟨v3, rfl⟩, F3, HT3⟩
  generalize (Rp.made room).push l = R1 at *
  have HP4 := Lib.hid (HT3.out.fin HG1.out.seven)
  clear HT2 HP3
  go_wp2_with fail
  refine (HP4.out).mono ?_
  rintro e w4 ⟨⟨v4, rfl⟩, F4, HT4⟩
  clear HP4 HT3
  have HG2 : Hid (Got room (l.take a) ((Rp.made room).push (l.take a))) := Lib.hid (HG0.out.nil_push (List.nil_append _))
  have HG3 : Hid (Got room (l.take s) (((Rp.made room).push (l.take a)).push ((l.take s).drop a))) := Lib.hid (HG2.out.nil_push HE.out.1)
  have HG4 : Hid (Got room l ((((Rp.made room).push (l.take a)).push ((l.take s).drop a)).push (l.drop s))) := Lib.hid (HG3.out.nil_push HE.out.2)
  have HLT : Hid ((l.take a).length = a ∧ ((l.take s).drop a).length = s - a ∧ (l.drop s).length = n - s ∧ (l.take s).length = s) := Lib.hid (by
    refine ⟨?_, ?_, ?_, ?_⟩
    · rw [List.length_take, ← HL.out]; omega
    · rw [List.length_drop, List.length_take, ← HL.out]; omega
    · rw [List.length_drop, ← HL.out]
    · rw [List.length_take, ← HL.out]; omega)
  have HRS : Hid (((Rp.made room).push (l.take a)).rest ≤ 1000000 ∧ (((Rp.made room).push (l.take a)).push ((l.take s).drop a)).rest ≤ 1000000) := Lib.hid (by
    have h1 := Got.rest2 (r := Rp.made room) (l := l.take a) (Nat.le_refl 0)
    have h2 := Got.rest2 (l := (l.take s).drop a) h1
    rw [HLT.out.1] at h1 h2
    rw [HLT.out.2.1] at h2
    exact ⟨by omega, by omega⟩)
  have l1 : (a : Int) ≤ (c : Int) := by omega
  have l2 : (s : Int) ≤ (c : Int) := by omega
  have l3 : (a : Int) ≤ (s : Int) := by omega
  have l4 : (s : Int) ≤ (n : Int) := by omega
  have HSA : Hid (∀ W, Below w.heap.size w W → Sl W W.heap.size (.slice A a c) (l.take a)) := Lib.hid (fun W hb => Sl.take (HSL.out W hb) (by rw [← HL.out]; exact hc) hn a (by rw [← HL.out]; omega))
  have HSB : Hid (∀ W, Below w.heap.size w W → Sl W W.heap.size (Lib.fromV A s c a) ((l.take s).drop a)) := Lib.hid (fun W hb => by
    have h := Sl.from ((HSL.out W hb).take s) (by rw [HLT.out.2.2.2]; omega) hn a (by rw [HLT.out.2.2.2]; exact has)
    rwa [HLT.out.2.2.2] at h)
  have HSC : Hid (∀ W, Below w.heap.size w W → Sl W W.heap.size (Lib.fromV A n c s) (l.drop s)) := Lib.hid (fun W hb => by
    have h := Sl.from (HSL.out W hb) (by rw [← HL.out]; exact hc) hn s (by rw [← HL.out]; exact hsl)
    rwa [← HL.out] at h)
  have HBA : Hid (0 < (l.take a).length → ∀ ad, A = some ad → ad.block < w.heap.size) := Lib.hid (fun hz => HBK.out (by rw [HLT.out.1] at hz; rw [← HL.out]; omega))
  have HBB : Hid (0 < ((l.take s).drop a).length → ∀ ad, A = some ad → ad.block < w.heap.size) := Lib.hid (fun hz => HBK.out (by rw [HLT.out.2.1] at hz; rw [← HL.out]; omega))
  have HBC : Hid (0 < (l.drop s).length → ∀ ad, A = some ad → ad.block < w.heap.size) := Lib.hid (fun hz => HBK.out (by rw [HLT.out.2.2.1] at hz; rw [← HL.out]; omega))
  have HLA : Hid (([] : List UInt8).length + (l.take a).length ≤ 50000 ∧ (l.take a).length + ((l.take s).drop a).length ≤ 50000 ∧ (l.take s).length + (l.drop s).length ≤ 50000) := Lib.hid (by
    obtain ⟨h1, h2, h3, h4⟩ := HLT.out
    rw [h1, h2, h3, h4]
    exact ⟨by simp; omega, by omega, by omega⟩)
  have HLL : Hid (l.length ≤ 50000) := Lib.hid (by rw [← HL.out]; omega)
  obtain ⟨R2, hR2⟩ : ∃ R, R = (Rp.made room).push (l.take a) := ⟨_, rfl⟩
  rw [← hR2] at HG2 HG3 HG4 HRS
  obtain ⟨R3, hR3⟩ : ∃ R, R = R2.push ((l.take s).drop a) := ⟨_, rfl⟩
  rw [← hR3] at HG3 HG4 HRS
  obtain ⟨R4, hR4⟩ : ∃ R, R = R3.push (l.drop s) := ⟨_, rfl⟩
  rw [← hR4] at HG4
  have HRE := Lib.hid (And.intro hR2.symm (And.intro hR3.symm hR4.symm))
  clear hR2 hR3 hR4
  have HR40 : Hid ((Rp.made room).rest ≤ 1000000) := Lib.hid (by show 0 ≤ 1000000; decide)
  cases A with
  | none =>
    obtain rfl : c = 0 := hn rfl
    obtain rfl : n = 0 := by omega
    obtain rfl : s = 0 := by omega
    obtain rfl : a = 0 := by omega
    clear hn hpl l1 l2 l3 l4
    have HQ1 : Hid (∀ W, Hid (TwoR w W most w.heap.size q2 R1.fin (Rp.made room) F4 [q2]) → Calls Tryz.prog 7 #[.pointer (some ⟨q2, 0, none⟩), .slice none 0 0] W fun e W' => (∃ v, e = .returned v) ∧ ∃ F', Hid (TwoR w W' most q2 w.heap.size R2 R1.fin F' F4)) := Lib.hid (fun W h => by
      have h1 := h.out.swap.push HG0.out (v := .slice none 0 0) rfl (HSA.out W h.out.bel) (fun hz ad e => by cases e) HLA.out.1 HR40.out hrm hmost HGX.out
      rw [HRE.out.1] at h1
      exact h1)
    have HQ2 : Hid (∀ W F', Hid (TwoR w W most q2 w.heap.size R2 R1.fin F' F4) → Calls Tryz.prog 7 #[.pointer (some ⟨q2, 0, none⟩), .slice none 0 0] W fun e W' => (∃ v, e = .returned v) ∧ ∃ F', Hid (TwoR w W' most q2 w.heap.size R3 R1.fin F' F4)) := Lib.hid (fun W F' h => by
      have h1 := h.out.push HG2.out (v := .slice none 0 0) rfl (by have hx := HSB.out W h.out.bel; rw [show Lib.fromV none 0 0 0 = Value.slice none 0 0 from rfl] at hx; exact hx) (fun hz ad e => by cases e) HLA.out.2.1 HRS.out.1 hrm hmost HGX.out
      rw [HRE.out.2.1] at h1
      exact h1)
    have HQ3 : Hid (∀ W F', Hid (TwoR w W most q2 w.heap.size R3 R1.fin F' F4) → Calls Tryz.prog 7 #[.pointer (some ⟨q2, 0, none⟩), .slice none 0 0] W fun e W' => (∃ v, e = .returned v) ∧ ∃ F', Hid (TwoR w W' most q2 w.heap.size R4 R1.fin F' F4)) := Lib.hid (fun W F' h => by
      have h1 := h.out.push HG3.out (v := .slice none 0 0) rfl (by have hx := HSC.out W h.out.bel; rw [show Lib.fromV none 0 0 0 = Value.slice none 0 0 from rfl] at hx; exact hx) (fun hz ad e => by cases e) HLA.out.2.2 HRS.out.2 hrm hmost HGX.out
      rw [HRE.out.2.2] at h1
      exact h1)
    clear HG0 HG2 HG3 HSA HSB HSC HBA HBB HBC HLA HRS HLT HE HBK HR40 HRE
    go_wp2_with fail
    refine (HQ1.out w4 HT4).mono ?_
    rintro e w5 ⟨⟨v5, rfl⟩, F5, HT5⟩
    clear HT4 HQ1
    go_wp2_with fail
    refine (HQ2.out w5 F5 HT5).mono ?_
    rintro e w6 ⟨⟨v6, rfl⟩, F6, HT6⟩
    clear HT5 HQ2
    go_wp2_with fail
    refine (HQ3.out w6 F6 HT6).mono ?_
    rintro e w7 ⟨⟨v7, rfl⟩, F7, HT7⟩
    clear HT6 HQ3
    have HP8 := Lib.hid (HT7.out.fin HG4.out.seven)
    go_wp2_with fail
    refine (HP8.out).mono ?_
    rintro e w8 ⟨⟨v8, rfl⟩, F8, HT8⟩
    have HD := Lib.hid (Done.of HT8.out.swap HG1.out HG4.out HLL.out hrm)
    clear HT7 HP8 HT8 HG1 HG4 HLL HSL HL
    generalize R1.fin = o1 at *
    generalize R4.fin = o2 at *
    obtain ⟨z1, z2, z3⟩ := HD.out.same
    have HS1 := Lib.hid (HD.out.both.say HD.out.end1 HD.out.len1)
    rw [z1, z2, z3] at HS1
    clear z1 z2 z3
    have HO1 := Lib.hid HD.out.ov1
    have HO2 := Lib.hid HD.out.ov2
    have HT8 := Lib.hid HD.out.both
    have HEN := Lib.hid (And.intro HD.out.end2 HD.out.len2)
    have HS2 : Hid (∀ W, Below w8.heap.size w8 W → Calls Tryz.prog 9 #[.pointer (some ⟨q2, 0, none⟩)] W fun e W' => ∃ A c, e = .returned (.tuple #[.agg #[.int .i64 (stR o2 : Int), .slice A (bodyR o2).length c, .bool false], .int .i64 (o2.came : Int)]) ∧ Hid (Owned W.heap.size W' (.slice A (bodyR o2).length c) (bodyR o2) ∧ Below W.heap.size W W')) := Lib.hid (fun W hb => (HT8.out.below hb).swap.say HEN.out.1 HEN.out.2)
    generalize o2.came = cm at HS1 HS2
    generalize stR o2 = st at HS1 HS2
    generalize bodyR o2 = bl at HS1 HS2
    obtain ⟨k, hk⟩ : ∃ k, k = bl.length := ⟨_, rfl⟩
    rw [← hk] at HS1 HS2
    clear HD HEN hk
    go_wp2_with fail
    refine (HS1.out).mono ?_
    rintro e w9 ⟨A9, c9, rfl, H9⟩
    have HB9 := Lib.hid (H9.out.2.alloc H9.out.2.size (.cells #[.int .i64 (st : Int), .slice A9 k c9, .bool false] 28))
    have HH9 := Lib.hid (heap_alloc_new w9 (.cells #[.int .i64 (st : Int), .slice A9 k c9, .bool false] 28))
    have HW9 := Lib.hid (H9.out.1.alloc (.cells #[.int .i64 (st : Int), .slice A9 k c9, .bool false] 28))
    have HZ9 := Lib.hid (show w9.heap.size < (w9.alloc (.cells #[.int .i64 (st : Int), .slice A9 k c9, .bool false] 28)).heap.size by simp)
    clear H9 HS1
    go_wp2_with fail
    refine (HS2.out _ HB9.out).mono ?_
    rintro e w10 ⟨A10, c10, rfl, H10⟩
    go_upto_region 14 with fail
    generalize w9.alloc (.cells #[.int .i64 (st : Int), .slice A9 k c9, .bool false] 28) = W9 at *
    generalize w9.heap.size = g9 at *
    have HB10 := Lib.hid (H10.out.2.alloc H10.out.2.size (.cells #[.int .i64 (st : Int), .slice A10 k c10, .bool false] 28))
    have hh10 := heap_alloc_new w10 (.cells #[.int .i64 (st : Int), .slice A10 k c10, .bool false] 28)
    obtain ⟨x0, x1, x2, -⟩ := three_read ((HB10.out.block _ HZ9.out).trans HH9.out)
    obtain ⟨y0, y1, y2, -⟩ := three_read hh10
    have HW10 := Lib.hid (H10.out.1.alloc (.cells #[.int .i64 (st : Int), .slice A10 k c10, .bool false] 28))
    have HX10 := Lib.hid (HW9.out.below HB10.out)
    have HBT := Lib.hid (HB9.out.trans (HB10.out.mono HB9.out.size))
    clear hh10 HS2 H10 HB10 HB9 HH9 HW9 HZ9
    generalize w10.alloc (.cells #[.int .i64 (st : Int), .slice A10 k c10, .bool false] 28) = W10 at *
    generalize w10.heap.size = g10 at *
    have HSM := Lib.hid (rsame_any st A9 A10 k c9 c10 bl W10 HX10.out HW10.out)
    have HV1 : Hid (∀ W, Below W10.heap.size W10 W → Calls Tryz.prog 11 #[.pointer (some ⟨w.heap.size, 0, none⟩)] W fun e W' => e = .returned (.bool true) ∧ Hid (Below W10.heap.size W10 W')) := Lib.hid (fun W hb => ((HT8.out.below (HBT.out.trans (hb.mono HBT.out.size))).over HO1.out).mono fun e W' ⟨he, m, hW⟩ => ⟨he, Lib.hid (by rw [hW]; exact hb.trans (below_drewN _ m))⟩)
    have HV2 : Hid (∀ W, Below W10.heap.size W10 W → Calls Tryz.prog 11 #[.pointer (some ⟨q2, 0, none⟩)] W fun e W' => e = .returned (.bool true) ∧ Hid (Below W10.heap.size W10 W')) := Lib.hid (fun W hb => ((HT8.out.below (HBT.out.trans (hb.mono HBT.out.size))).swap.over HO2.out).mono fun e W' ⟨he, m, hW⟩ => ⟨he, Lib.hid (by rw [hW]; exact hb.trans (below_drewN _ m))⟩)
    have HBW : Hid (Below w.heap.size w W10) := Lib.hid (HT8.out.bel.trans (HBT.out.mono HT8.out.bel.size))
    have HKN : Hid (∀ W, Below W10.heap.size W10 W → Calls Tryz.prog 5 #[] W (FinR W)) := Lib.hid (fun W hb => known8_yes W (HGW.out W (HBW.out.trans (hb.mono HBW.out.size))))
    have hcm : ((cm : Int) == (cm : Int)) = true := by simp
    clear HX10 HW10 HT8 HO1 HO2 HBT
    go_wp2_with (first | (go_at_call 10; refine (HSM.out).mono ?_; rintro e w11 ⟨rfl, hb11⟩; have HB11 := Lib.hid hb11; clear hb11) | (go_at_call_of 11 (Value.pointer (some ⟨w.heap.size, 0, none⟩)); refine (HV1.out _ HB11.out).mono ?_; rintro e w12 ⟨rfl, HB12⟩) | (go_at_call_of 11 (Value.pointer (some ⟨q2, 0, none⟩)); refine (HV2.out _ HB12.out).mono ?_; rintro e w13 ⟨rfl, HB13⟩) | (go_at_call 5; refine (HKN.out _ HB13.out).mono ?_; rintro e w14 ⟨rfl, hb14⟩))
    go_ret
    exact ⟨rfl, HBW.out.trans ((HB13.out.mono HBW.out.size).trans (hb14.mono (Nat.le_trans HBW.out.size HB13.out.size)))⟩
  | some ad =>
    by_cases hca : c = a
    · subst hca
      obtain rfl : s = c := by omega
      obtain rfl : n = s := by omega
      clear hn hpl l1 l2 l3 l4
      have HQ1 : Hid (∀ W, Hid (TwoR w W most w.heap.size q2 R1.fin (Rp.made room) F4 [q2]) → Calls Tryz.prog 7 #[.pointer (some ⟨q2, 0, none⟩), .slice (some ad) n n] W fun e W' => (∃ v, e = .returned v) ∧ ∃ F', Hid (TwoR w W' most q2 w.heap.size R2 R1.fin F' F4)) := Lib.hid (fun W h => by
        have h1 := h.out.swap.push HG0.out (v := .slice (some ad) n n) rfl (HSA.out W h.out.bel) (fun hz ad e => by cases e; exact HBA.out hz _ rfl) HLA.out.1 HR40.out hrm hmost HGX.out
        rw [HRE.out.1] at h1
        exact h1)
      have HQ2 : Hid (∀ W F', Hid (TwoR w W most q2 w.heap.size R2 R1.fin F' F4) → Calls Tryz.prog 7 #[.pointer (some ⟨q2, 0, none⟩), .slice (some ad) 0 0] W fun e W' => (∃ v, e = .returned v) ∧ ∃ F', Hid (TwoR w W' most q2 w.heap.size R3 R1.fin F' F4)) := Lib.hid (fun W F' h => by
        have h1 := h.out.push HG2.out (v := .slice (some ad) 0 0) rfl (by have hx := HSB.out W h.out.bel; rw [show Lib.fromV (some ad) n n n = Value.slice (some ad) 0 0 from (by simp [Lib.fromV])] at hx; exact hx) (fun hz ad e => by cases e; exact HBB.out hz _ rfl) HLA.out.2.1 HRS.out.1 hrm hmost HGX.out
        rw [HRE.out.2.1] at h1
        exact h1)
      have HQ3 : Hid (∀ W F', Hid (TwoR w W most q2 w.heap.size R3 R1.fin F' F4) → Calls Tryz.prog 7 #[.pointer (some ⟨q2, 0, none⟩), .slice (some ad) 0 0] W fun e W' => (∃ v, e = .returned v) ∧ ∃ F', Hid (TwoR w W' most q2 w.heap.size R4 R1.fin F' F4)) := Lib.hid (fun W F' h => by
        have h1 := h.out.push HG3.out (v := .slice (some ad) 0 0) rfl (by have hx := HSC.out W h.out.bel; rw [show Lib.fromV (some ad) n n n = Value.slice (some ad) 0 0 from (by simp [Lib.fromV])] at hx; exact hx) (fun hz ad e => by cases e; exact HBC.out hz _ rfl) HLA.out.2.2 HRS.out.2 hrm hmost HGX.out
        rw [HRE.out.2.2] at h1
        exact h1)
      clear HG0 HG2 HG3 HSA HSB HSC HBA HBB HBC HLA HRS HLT HE HBK HR40 HRE
      go_wp2_with fail
      refine (HQ1.out w4 HT4).mono ?_
      rintro e w5 ⟨⟨v5, rfl⟩, F5, HT5⟩
      clear HT4 HQ1
      go_wp2_with fail
      refine (HQ2.out w5 F5 HT5).mono ?_
      rintro e w6 ⟨⟨v6, rfl⟩, F6, HT6⟩
      clear HT5 HQ2
      go_wp2_with fail
      refine (HQ3.out w6 F6 HT6).mono ?_
      rintro e w7 ⟨⟨v7, rfl⟩, F7, HT7⟩
      clear HT6 HQ3
      have HP8 := Lib.hid (HT7.out.fin HG4.out.seven)
      go_wp2_with fail
      refine (HP8.out).mono ?_
      rintro e w8 ⟨⟨v8, rfl⟩, F8, HT8⟩
      have HD := Lib.hid (Done.of HT8.out.swap HG1.out HG4.out HLL.out hrm)
      clear HT7 HP8 HT8 HG1 HG4 HLL HSL HL
      generalize R1.fin = o1 at *
      generalize R4.fin = o2 at *
      obtain ⟨z1, z2, z3⟩ := HD.out.same
      have HS1 := Lib.hid (HD.out.both.say HD.out.end1 HD.out.len1)
      rw [z1, z2, z3] at HS1
      clear z1 z2 z3
      have HO1 := Lib.hid HD.out.ov1
      have HO2 := Lib.hid HD.out.ov2
      have HT8 := Lib.hid HD.out.both
      have HEN := Lib.hid (And.intro HD.out.end2 HD.out.len2)
      have HS2 : Hid (∀ W, Below w8.heap.size w8 W → Calls Tryz.prog 9 #[.pointer (some ⟨q2, 0, none⟩)] W fun e W' => ∃ A c, e = .returned (.tuple #[.agg #[.int .i64 (stR o2 : Int), .slice A (bodyR o2).length c, .bool false], .int .i64 (o2.came : Int)]) ∧ Hid (Owned W.heap.size W' (.slice A (bodyR o2).length c) (bodyR o2) ∧ Below W.heap.size W W')) := Lib.hid (fun W hb => (HT8.out.below hb).swap.say HEN.out.1 HEN.out.2)
      generalize o2.came = cm at HS1 HS2
      generalize stR o2 = st at HS1 HS2
      generalize bodyR o2 = bl at HS1 HS2
      obtain ⟨k, hk⟩ : ∃ k, k = bl.length := ⟨_, rfl⟩
      rw [← hk] at HS1 HS2
      clear HD HEN hk
      go_wp2_with fail
      refine (HS1.out).mono ?_
      rintro e w9 ⟨A9, c9, rfl, H9⟩
      have HB9 := Lib.hid (H9.out.2.alloc H9.out.2.size (.cells #[.int .i64 (st : Int), .slice A9 k c9, .bool false] 28))
      have HH9 := Lib.hid (heap_alloc_new w9 (.cells #[.int .i64 (st : Int), .slice A9 k c9, .bool false] 28))
      have HW9 := Lib.hid (H9.out.1.alloc (.cells #[.int .i64 (st : Int), .slice A9 k c9, .bool false] 28))
      have HZ9 := Lib.hid (show w9.heap.size < (w9.alloc (.cells #[.int .i64 (st : Int), .slice A9 k c9, .bool false] 28)).heap.size by simp)
      clear H9 HS1
      go_wp2_with fail
      refine (HS2.out _ HB9.out).mono ?_
      rintro e w10 ⟨A10, c10, rfl, H10⟩
      go_upto_region 14 with fail
      generalize w9.alloc (.cells #[.int .i64 (st : Int), .slice A9 k c9, .bool false] 28) = W9 at *
      generalize w9.heap.size = g9 at *
      have HB10 := Lib.hid (H10.out.2.alloc H10.out.2.size (.cells #[.int .i64 (st : Int), .slice A10 k c10, .bool false] 28))
      have hh10 := heap_alloc_new w10 (.cells #[.int .i64 (st : Int), .slice A10 k c10, .bool false] 28)
      obtain ⟨x0, x1, x2, -⟩ := three_read ((HB10.out.block _ HZ9.out).trans HH9.out)
      obtain ⟨y0, y1, y2, -⟩ := three_read hh10
      have HW10 := Lib.hid (H10.out.1.alloc (.cells #[.int .i64 (st : Int), .slice A10 k c10, .bool false] 28))
      have HX10 := Lib.hid (HW9.out.below HB10.out)
      have HBT := Lib.hid (HB9.out.trans (HB10.out.mono HB9.out.size))
      clear hh10 HS2 H10 HB10 HB9 HH9 HW9 HZ9
      generalize w10.alloc (.cells #[.int .i64 (st : Int), .slice A10 k c10, .bool false] 28) = W10 at *
      generalize w10.heap.size = g10 at *
      have HSM := Lib.hid (rsame_any st A9 A10 k c9 c10 bl W10 HX10.out HW10.out)
      have HV1 : Hid (∀ W, Below W10.heap.size W10 W → Calls Tryz.prog 11 #[.pointer (some ⟨w.heap.size, 0, none⟩)] W fun e W' => e = .returned (.bool true) ∧ Hid (Below W10.heap.size W10 W')) := Lib.hid (fun W hb => ((HT8.out.below (HBT.out.trans (hb.mono HBT.out.size))).over HO1.out).mono fun e W' ⟨he, m, hW⟩ => ⟨he, Lib.hid (by rw [hW]; exact hb.trans (below_drewN _ m))⟩)
      have HV2 : Hid (∀ W, Below W10.heap.size W10 W → Calls Tryz.prog 11 #[.pointer (some ⟨q2, 0, none⟩)] W fun e W' => e = .returned (.bool true) ∧ Hid (Below W10.heap.size W10 W')) := Lib.hid (fun W hb => ((HT8.out.below (HBT.out.trans (hb.mono HBT.out.size))).swap.over HO2.out).mono fun e W' ⟨he, m, hW⟩ => ⟨he, Lib.hid (by rw [hW]; exact hb.trans (below_drewN _ m))⟩)
      have HBW : Hid (Below w.heap.size w W10) := Lib.hid (HT8.out.bel.trans (HBT.out.mono HT8.out.bel.size))
      have HKN : Hid (∀ W, Below W10.heap.size W10 W → Calls Tryz.prog 5 #[] W (FinR W)) := Lib.hid (fun W hb => known8_yes W (HGW.out W (HBW.out.trans (hb.mono HBW.out.size))))
      have hcm : ((cm : Int) == (cm : Int)) = true := by simp
      clear HX10 HW10 HT8 HO1 HO2 HBT
      go_wp2_with (first | (go_at_call 10; refine (HSM.out).mono ?_; rintro e w11 ⟨rfl, hb11⟩; have HB11 := Lib.hid hb11; clear hb11) | (go_at_call_of 11 (Value.pointer (some ⟨w.heap.size, 0, none⟩)); refine (HV1.out _ HB11.out).mono ?_; rintro e w12 ⟨rfl, HB12⟩) | (go_at_call_of 11 (Value.pointer (some ⟨q2, 0, none⟩)); refine (HV2.out _ HB12.out).mono ?_; rintro e w13 ⟨rfl, HB13⟩) | (go_at_call 5; refine (HKN.out _ HB13.out).mono ?_; rintro e w14 ⟨rfl, hb14⟩))
      go_ret
      exact ⟨rfl, HBW.out.trans ((HB13.out.mono HBW.out.size).trans (hb14.mono (Nat.le_trans HBW.out.size HB13.out.size)))⟩
    · obtain ⟨g, off, rfl, hg⟩ := hpl ad rfl (by omega)
      have htc : (c == a) = false := by simp [hca]
      by_cases hcs : c = s
      · subst hcs
        obtain rfl : n = c := by omega
        clear hn hpl l2
        have HQ1 : Hid (∀ W, Hid (TwoR w W most w.heap.size q2 R1.fin (Rp.made room) F4 [q2]) → Calls Tryz.prog 7 #[.pointer (some ⟨q2, 0, none⟩), .slice (some ⟨g, off, none⟩) a n] W fun e W' => (∃ v, e = .returned v) ∧ ∃ F', Hid (TwoR w W' most q2 w.heap.size R2 R1.fin F' F4)) := Lib.hid (fun W h => by
          have h1 := h.out.swap.push HG0.out (v := .slice (some ⟨g, off, none⟩) a n) rfl (HSA.out W h.out.bel) (fun hz ad e => by cases e; exact hg) HLA.out.1 HR40.out hrm hmost HGX.out
          rw [HRE.out.1] at h1
          exact h1)
        have HQ2 : Hid (∀ W F', Hid (TwoR w W most q2 w.heap.size R2 R1.fin F' F4) → Calls Tryz.prog 7 #[.pointer (some ⟨q2, 0, none⟩), .slice (some ⟨g, off + a, none⟩) (n - a) (n - a)] W fun e W' => (∃ v, e = .returned v) ∧ ∃ F', Hid (TwoR w W' most q2 w.heap.size R3 R1.fin F' F4)) := Lib.hid (fun W F' h => by
          have h1 := h.out.push HG2.out (v := .slice (some ⟨g, off + a, none⟩) (n - a) (n - a)) rfl (by have hx := HSB.out W h.out.bel; rw [show Lib.fromV (some ⟨g, off, none⟩) n n a = Value.slice (some ⟨g, off + a, none⟩) (n - a) (n - a) from (by simp [Lib.fromV, hca, add_plain'])] at hx; exact hx) (fun hz ad e => by cases e; exact hg) HLA.out.2.1 HRS.out.1 hrm hmost HGX.out
          rw [HRE.out.2.1] at h1
          exact h1)
        have HQ3 : Hid (∀ W F', Hid (TwoR w W most q2 w.heap.size R3 R1.fin F' F4) → Calls Tryz.prog 7 #[.pointer (some ⟨q2, 0, none⟩), .slice (some ⟨g, off, none⟩) 0 0] W fun e W' => (∃ v, e = .returned v) ∧ ∃ F', Hid (TwoR w W' most q2 w.heap.size R4 R1.fin F' F4)) := Lib.hid (fun W F' h => by
          have h1 := h.out.push HG3.out (v := .slice (some ⟨g, off, none⟩) 0 0) rfl (by have hx := HSC.out W h.out.bel; rw [show Lib.fromV (some ⟨g, off, none⟩) n n n = Value.slice (some ⟨g, off, none⟩) 0 0 from (by simp [Lib.fromV])] at hx; exact hx) (fun hz ad e => by cases e; exact hg) HLA.out.2.2 HRS.out.2 hrm hmost HGX.out
          rw [HRE.out.2.2] at h1
          exact h1)
        clear HG0 HG2 HG3 HSA HSB HSC HBA HBB HBC HLA HRS HLT HE HBK HR40 HRE
        go_wp2_with fail
        refine (HQ1.out w4 HT4).mono ?_
        rintro e w5 ⟨⟨v5, rfl⟩, F5, HT5⟩
        clear HT4 HQ1
        go_wp2_with fail
        refine (HQ2.out w5 F5 HT5).mono ?_
        rintro e w6 ⟨⟨v6, rfl⟩, F6, HT6⟩
        clear HT5 HQ2
        go_wp2_with fail
        refine (HQ3.out w6 F6 HT6).mono ?_
        rintro e w7 ⟨⟨v7, rfl⟩, F7, HT7⟩
        clear HT6 HQ3
        have HP8 := Lib.hid (HT7.out.fin HG4.out.seven)
        go_wp2_with fail
        refine (HP8.out).mono ?_
        rintro e w8 ⟨⟨v8, rfl⟩, F8, HT8⟩
        have HD := Lib.hid (Done.of HT8.out.swap HG1.out HG4.out HLL.out hrm)
        clear HT7 HP8 HT8 HG1 HG4 HLL HSL HL
        generalize R1.fin = o1 at *
        generalize R4.fin = o2 at *
        obtain ⟨z1, z2, z3⟩ := HD.out.same
        have HS1 := Lib.hid (HD.out.both.say HD.out.end1 HD.out.len1)
        rw [z1, z2, z3] at HS1
        clear z1 z2 z3
        have HO1 := Lib.hid HD.out.ov1
        have HO2 := Lib.hid HD.out.ov2
        have HT8 := Lib.hid HD.out.both
        have HEN := Lib.hid (And.intro HD.out.end2 HD.out.len2)
        have HS2 : Hid (∀ W, Below w8.heap.size w8 W → Calls Tryz.prog 9 #[.pointer (some ⟨q2, 0, none⟩)] W fun e W' => ∃ A c, e = .returned (.tuple #[.agg #[.int .i64 (stR o2 : Int), .slice A (bodyR o2).length c, .bool false], .int .i64 (o2.came : Int)]) ∧ Hid (Owned W.heap.size W' (.slice A (bodyR o2).length c) (bodyR o2) ∧ Below W.heap.size W W')) := Lib.hid (fun W hb => (HT8.out.below hb).swap.say HEN.out.1 HEN.out.2)
        generalize o2.came = cm at HS1 HS2
        generalize stR o2 = st at HS1 HS2
        generalize bodyR o2 = bl at HS1 HS2
        obtain ⟨k, hk⟩ : ∃ k, k = bl.length := ⟨_, rfl⟩
        rw [← hk] at HS1 HS2
        clear HD HEN hk
        go_wp2_with fail
        refine (HS1.out).mono ?_
        rintro e w9 ⟨A9, c9, rfl, H9⟩
        have HB9 := Lib.hid (H9.out.2.alloc H9.out.2.size (.cells #[.int .i64 (st : Int), .slice A9 k c9, .bool false] 28))
        have HH9 := Lib.hid (heap_alloc_new w9 (.cells #[.int .i64 (st : Int), .slice A9 k c9, .bool false] 28))
        have HW9 := Lib.hid (H9.out.1.alloc (.cells #[.int .i64 (st : Int), .slice A9 k c9, .bool false] 28))
        have HZ9 := Lib.hid (show w9.heap.size < (w9.alloc (.cells #[.int .i64 (st : Int), .slice A9 k c9, .bool false] 28)).heap.size by simp)
        clear H9 HS1
        go_wp2_with fail
        refine (HS2.out _ HB9.out).mono ?_
        rintro e w10 ⟨A10, c10, rfl, H10⟩
        go_upto_region 14 with fail
        generalize w9.alloc (.cells #[.int .i64 (st : Int), .slice A9 k c9, .bool false] 28) = W9 at *
        generalize w9.heap.size = g9 at *
        have HB10 := Lib.hid (H10.out.2.alloc H10.out.2.size (.cells #[.int .i64 (st : Int), .slice A10 k c10, .bool false] 28))
        have hh10 := heap_alloc_new w10 (.cells #[.int .i64 (st : Int), .slice A10 k c10, .bool false] 28)
        obtain ⟨x0, x1, x2, -⟩ := three_read ((HB10.out.block _ HZ9.out).trans HH9.out)
        obtain ⟨y0, y1, y2, -⟩ := three_read hh10
        have HW10 := Lib.hid (H10.out.1.alloc (.cells #[.int .i64 (st : Int), .slice A10 k c10, .bool false] 28))
        have HX10 := Lib.hid (HW9.out.below HB10.out)
        have HBT := Lib.hid (HB9.out.trans (HB10.out.mono HB9.out.size))
        clear hh10 HS2 H10 HB10 HB9 HH9 HW9 HZ9
        generalize w10.alloc (.cells #[.int .i64 (st : Int), .slice A10 k c10, .bool false] 28) = W10 at *
        generalize w10.heap.size = g10 at *
        have HSM := Lib.hid (rsame_any st A9 A10 k c9 c10 bl W10 HX10.out HW10.out)
        have HV1 : Hid (∀ W, Below W10.heap.size W10 W → Calls Tryz.prog 11 #[.pointer (some ⟨w.heap.size, 0, none⟩)] W fun e W' => e = .returned (.bool true) ∧ Hid (Below W10.heap.size W10 W')) := Lib.hid (fun W hb => ((HT8.out.below (HBT.out.trans (hb.mono HBT.out.size))).over HO1.out).mono fun e W' ⟨he, m, hW⟩ => ⟨he, Lib.hid (by rw [hW]; exact hb.trans (below_drewN _ m))⟩)
        have HV2 : Hid (∀ W, Below W10.heap.size W10 W → Calls Tryz.prog 11 #[.pointer (some ⟨q2, 0, none⟩)] W fun e W' => e = .returned (.bool true) ∧ Hid (Below W10.heap.size W10 W')) := Lib.hid (fun W hb => ((HT8.out.below (HBT.out.trans (hb.mono HBT.out.size))).swap.over HO2.out).mono fun e W' ⟨he, m, hW⟩ => ⟨he, Lib.hid (by rw [hW]; exact hb.trans (below_drewN _ m))⟩)
        have HBW : Hid (Below w.heap.size w W10) := Lib.hid (HT8.out.bel.trans (HBT.out.mono HT8.out.bel.size))
        have HKN : Hid (∀ W, Below W10.heap.size W10 W → Calls Tryz.prog 5 #[] W (FinR W)) := Lib.hid (fun W hb => known8_yes W (HGW.out W (HBW.out.trans (hb.mono HBW.out.size))))
        have hcm : ((cm : Int) == (cm : Int)) = true := by simp
        clear HX10 HW10 HT8 HO1 HO2 HBT
        go_wp2_with (first | (go_at_call 10; refine (HSM.out).mono ?_; rintro e w11 ⟨rfl, hb11⟩; have HB11 := Lib.hid hb11; clear hb11) | (go_at_call_of 11 (Value.pointer (some ⟨w.heap.size, 0, none⟩)); refine (HV1.out _ HB11.out).mono ?_; rintro e w12 ⟨rfl, HB12⟩) | (go_at_call_of 11 (Value.pointer (some ⟨q2, 0, none⟩)); refine (HV2.out _ HB12.out).mono ?_; rintro e w13 ⟨rfl, HB13⟩) | (go_at_call 5; refine (HKN.out _ HB13.out).mono ?_; rintro e w14 ⟨rfl, hb14⟩))
        go_ret
        exact ⟨rfl, HBW.out.trans ((HB13.out.mono HBW.out.size).trans (hb14.mono (Nat.le_trans HBW.out.size HB13.out.size)))⟩
      · have htd : (c == s) = false := by simp [hcs]
        clear hn hpl
        have HQ1 : Hid (∀ W, Hid (TwoR w W most w.heap.size q2 R1.fin (Rp.made room) F4 [q2]) → Calls Tryz.prog 7 #[.pointer (some ⟨q2, 0, none⟩), .slice (some ⟨g, off, none⟩) a c] W fun e W' => (∃ v, e = .returned v) ∧ ∃ F', Hid (TwoR w W' most q2 w.heap.size R2 R1.fin F' F4)) := Lib.hid (fun W h => by
          have h1 := h.out.swap.push HG0.out (v := .slice (some ⟨g, off, none⟩) a c) rfl (HSA.out W h.out.bel) (fun hz ad e => by cases e; exact hg) HLA.out.1 HR40.out hrm hmost HGX.out
          rw [HRE.out.1] at h1
          exact h1)
        have HQ2 : Hid (∀ W F', Hid (TwoR w W most q2 w.heap.size R2 R1.fin F' F4) → Calls Tryz.prog 7 #[.pointer (some ⟨q2, 0, none⟩), .slice (some ⟨g, off + a, none⟩) (s - a) (c - a)] W fun e W' => (∃ v, e = .returned v) ∧ ∃ F', Hid (TwoR w W' most q2 w.heap.size R3 R1.fin F' F4)) := Lib.hid (fun W F' h => by
          have h1 := h.out.push HG2.out (v := .slice (some ⟨g, off + a, none⟩) (s - a) (c - a)) rfl (by have hx := HSB.out W h.out.bel; rw [show Lib.fromV (some ⟨g, off, none⟩) s c a = Value.slice (some ⟨g, off + a, none⟩) (s - a) (c - a) from (by simp [Lib.fromV, hca, add_plain'])] at hx; exact hx) (fun hz ad e => by cases e; exact hg) HLA.out.2.1 HRS.out.1 hrm hmost HGX.out
          rw [HRE.out.2.1] at h1
          exact h1)
        have HQ3 : Hid (∀ W F', Hid (TwoR w W most q2 w.heap.size R3 R1.fin F' F4) → Calls Tryz.prog 7 #[.pointer (some ⟨q2, 0, none⟩), .slice (some ⟨g, off + s, none⟩) (n - s) (c - s)] W fun e W' => (∃ v, e = .returned v) ∧ ∃ F', Hid (TwoR w W' most q2 w.heap.size R4 R1.fin F' F4)) := Lib.hid (fun W F' h => by
          have h1 := h.out.push HG3.out (v := .slice (some ⟨g, off + s, none⟩) (n - s) (c - s)) rfl (by have hx := HSC.out W h.out.bel; rw [show Lib.fromV (some ⟨g, off, none⟩) n c s = Value.slice (some ⟨g, off + s, none⟩) (n - s) (c - s) from (by simp [Lib.fromV, hcs, add_plain'])] at hx; exact hx) (fun hz ad e => by cases e; exact hg) HLA.out.2.2 HRS.out.2 hrm hmost HGX.out
          rw [HRE.out.2.2] at h1
          exact h1)
        clear HG0 HG2 HG3 HSA HSB HSC HBA HBB HBC HLA HRS HLT HE HBK HR40 HRE
        go_wp2_with fail
        refine (HQ1.out w4 HT4).mono ?_
        rintro e w5 ⟨⟨v5, rfl⟩, F5, HT5⟩
        clear HT4 HQ1
        go_wp2_with fail
        refine (HQ2.out w5 F5 HT5).mono ?_
        rintro e w6 ⟨⟨v6, rfl⟩, F6, HT6⟩
        clear HT5 HQ2
        go_wp2_with fail
        refine (HQ3.out w6 F6 HT6).mono ?_
        rintro e w7 ⟨⟨v7, rfl⟩, F7, HT7⟩
        clear HT6 HQ3
        have HP8 := Lib.hid (HT7.out.fin HG4.out.seven)
        go_wp2_with fail
        refine (HP8.out).mono ?_
        rintro e w8 ⟨⟨v8, rfl⟩, F8, HT8⟩
        have HD := Lib.hid (Done.of HT8.out.swap HG1.out HG4.out HLL.out hrm)
        clear HT7 HP8 HT8 HG1 HG4 HLL HSL HL
        generalize R1.fin = o1 at *
        generalize R4.fin = o2 at *
        obtain ⟨z1, z2, z3⟩ := HD.out.same
        have HS1 := Lib.hid (HD.out.both.say HD.out.end1 HD.out.len1)
        rw [z1, z2, z3] at HS1
        clear z1 z2 z3
        have HO1 := Lib.hid HD.out.ov1
        have HO2 := Lib.hid HD.out.ov2
        have HT8 := Lib.hid HD.out.both
        have HEN := Lib.hid (And.intro HD.out.end2 HD.out.len2)
        have HS2 : Hid (∀ W, Below w8.heap.size w8 W → Calls Tryz.prog 9 #[.pointer (some ⟨q2, 0, none⟩)] W fun e W' => ∃ A c, e = .returned (.tuple #[.agg #[.int .i64 (stR o2 : Int), .slice A (bodyR o2).length c, .bool false], .int .i64 (o2.came : Int)]) ∧ Hid (Owned W.heap.size W' (.slice A (bodyR o2).length c) (bodyR o2) ∧ Below W.heap.size W W')) := Lib.hid (fun W hb => (HT8.out.below hb).swap.say HEN.out.1 HEN.out.2)
        generalize o2.came = cm at HS1 HS2
        generalize stR o2 = st at HS1 HS2
        generalize bodyR o2 = bl at HS1 HS2
        obtain ⟨k, hk⟩ : ∃ k, k = bl.length := ⟨_, rfl⟩
        rw [← hk] at HS1 HS2
        clear HD HEN hk
        go_wp2_with fail
        refine (HS1.out).mono ?_
        rintro e w9 ⟨A9, c9, rfl, H9⟩
        have HB9 := Lib.hid (H9.out.2.alloc H9.out.2.size (.cells #[.int .i64 (st : Int), .slice A9 k c9, .bool false] 28))
        have HH9 := Lib.hid (heap_alloc_new w9 (.cells #[.int .i64 (st : Int), .slice A9 k c9, .bool false] 28))
        have HW9 := Lib.hid (H9.out.1.alloc (.cells #[.int .i64 (st : Int), .slice A9 k c9, .bool false] 28))
        have HZ9 := Lib.hid (show w9.heap.size < (w9.alloc (.cells #[.int .i64 (st : Int), .slice A9 k c9, .bool false] 28)).heap.size by simp)
        clear H9 HS1
        go_wp2_with fail
        refine (HS2.out _ HB9.out).mono ?_
        rintro e w10 ⟨A10, c10, rfl, H10⟩
        go_upto_region 14 with fail
        generalize w9.alloc (.cells #[.int .i64 (st : Int), .slice A9 k c9, .bool false] 28) = W9 at *
        generalize w9.heap.size = g9 at *
        have HB10 := Lib.hid (H10.out.2.alloc H10.out.2.size (.cells #[.int .i64 (st : Int), .slice A10 k c10, .bool false] 28))
        have hh10 := heap_alloc_new w10 (.cells #[.int .i64 (st : Int), .slice A10 k c10, .bool false] 28)
        obtain ⟨x0, x1, x2, -⟩ := three_read ((HB10.out.block _ HZ9.out).trans HH9.out)
        obtain ⟨y0, y1, y2, -⟩ := three_read hh10
        have HW10 := Lib.hid (H10.out.1.alloc (.cells #[.int .i64 (st : Int), .slice A10 k c10, .bool false] 28))
        have HX10 := Lib.hid (HW9.out.below HB10.out)
        have HBT := Lib.hid (HB9.out.trans (HB10.out.mono HB9.out.size))
        clear hh10 HS2 H10 HB10 HB9 HH9 HW9 HZ9
        generalize w10.alloc (.cells #[.int .i64 (st : Int), .slice A10 k c10, .bool false] 28) = W10 at *
        generalize w10.heap.size = g10 at *
        have HSM := Lib.hid (rsame_any st A9 A10 k c9 c10 bl W10 HX10.out HW10.out)
        have HV1 : Hid (∀ W, Below W10.heap.size W10 W → Calls Tryz.prog 11 #[.pointer (some ⟨w.heap.size, 0, none⟩)] W fun e W' => e = .returned (.bool true) ∧ Hid (Below W10.heap.size W10 W')) := Lib.hid (fun W hb => ((HT8.out.below (HBT.out.trans (hb.mono HBT.out.size))).over HO1.out).mono fun e W' ⟨he, m, hW⟩ => ⟨he, Lib.hid (by rw [hW]; exact hb.trans (below_drewN _ m))⟩)
        have HV2 : Hid (∀ W, Below W10.heap.size W10 W → Calls Tryz.prog 11 #[.pointer (some ⟨q2, 0, none⟩)] W fun e W' => e = .returned (.bool true) ∧ Hid (Below W10.heap.size W10 W')) := Lib.hid (fun W hb => ((HT8.out.below (HBT.out.trans (hb.mono HBT.out.size))).swap.over HO2.out).mono fun e W' ⟨he, m, hW⟩ => ⟨he, Lib.hid (by rw [hW]; exact hb.trans (below_drewN _ m))⟩)
        have HBW : Hid (Below w.heap.size w W10) := Lib.hid (HT8.out.bel.trans (HBT.out.mono HT8.out.bel.size))
        have HKN : Hid (∀ W, Below W10.heap.size W10 W → Calls Tryz.prog 5 #[] W (FinR W)) := Lib.hid (fun W hb => known8_yes W (HGW.out W (HBW.out.trans (hb.mono HBW.out.size))))
        have hcm : ((cm : Int) == (cm : Int)) = true := by simp
        clear HX10 HW10 HT8 HO1 HO2 HBT
        go_wp2_with (first | (go_at_call 10; refine (HSM.out).mono ?_; rintro e w11 ⟨rfl, hb11⟩; have HB11 := Lib.hid hb11; clear hb11) | (go_at_call_of 11 (Value.pointer (some ⟨w.heap.size, 0, none⟩)); refine (HV1.out _ HB11.out).mono ?_; rintro e w12 ⟨rfl, HB12⟩) | (go_at_call_of 11 (Value.pointer (some ⟨q2, 0, none⟩)); refine (HV2.out _ HB12.out).mono ?_; rintro e w13 ⟨rfl, HB13⟩) | (go_at_call 5; refine (HKN.out _ HB13.out).mono ?_; rintro e w14 ⟨rfl, hb14⟩))
        go_ret
        exact ⟨rfl, HBW.out.trans ((HB13.out.mono HBW.out.size).trans (hb14.mono (Nat.le_trans HBW.out.size HB13.out.size)))⟩
end Go.Proofs.YtlelemjmknbnaaaGreatDoor
