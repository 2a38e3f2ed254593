/- The chapter's rows (layer 18). -/
import Derived.Test.YtjkkpdflijjllaaWnLook
namespace Go.Proofs.Ytjkkpdflijjllaa
open Go.RowKit

def sw0 : Ws := newW 10 5 4
def aN : ByteArray := ⟨#[97]⟩
def sw1 : Ws := ⟨10, 5, 4, [⟨0, [⟨aN, 2, false⟩]⟩], -1, -1, 1, 0⟩
def sw2 : Ws := ⟨10, 5, 4, [⟨0, [⟨aN, 2, false⟩]⟩, ⟨1, [⟨aN, 3, false⟩]⟩], -1, -1, 2, 0⟩
def sw3 : Ws := { sw2 with mark := 14 }
def sw4 : Ws := { sw2 with mark := 15 }
def sw5 : Ws := ⟨10, 5, 4, [⟨1, [⟨aN, 3, false⟩]⟩], 0, 15, 2, 0⟩
theorem kn1 : addW sw0 aN 3 2 = (false, [], sw1) := by rfl
theorem kn2 : addW sw1 aN 12 3 = (false, [], sw2) := by rfl
theorem kn3 : noteW sw2 14 = sw3 := by rfl
theorem kn4 : clockW sw3 99 = ([], sw3) := by rfl
theorem kn5 : noteW sw3 15 = sw4 := by rfl
theorem kn6 : clockW sw4 14 = ([], sw4) := by rfl
theorem kn7 : clockW sw4 15 = ([⟨0, [⟨aN, 2, false⟩]⟩], sw5) := by rfl
theorem ok0 : WsOk sw0 0 := WsOk.new (by rfl)
theorem ok1 : WsOk sw1 1 := by have := ok0.add aN 3 2 (by omega); rwa [kn1] at this
theorem ok2 : WsOk sw2 2 := by have := ok1.add aN 12 3 (by omega); rwa [kn2] at this
theorem ok3 : WsOk sw3 2 := by have := ok2.note 14; rwa [kn3] at this
theorem ok4 : WsOk sw4 2 := by have := ok3.note 15; rwa [kn5] at this
theorem ok5 : WsOk sw5 2 := by have := ok4.clock 15; rwa [kn7] at this
theorem cr_eql (t u : Cr) (w : World) : (binOp .eql 44 (.agg #[.string t.name, .int .i64 t.inc, .bool t.over]) (.agg #[.string u.name, .int .i64 u.inc, .bool u.over])).run Try.prog w = .ok (.bool (crE t u)) w := by
  have h := cr_fldE 9998 t u w
  rw [run_eql_struct, run_equalIn_struct (P := Try.prog) w 9999 44 _ _ cr_str cr_stood, h]
  rfl
/-- A closed list of one window with one credit, as it is read. -/
theorem wn_one {W : World} {H : List Nat} {o : Value} {num : Int} {x : Cr} (h : WnL W H o [⟨num, [x]⟩]) : ∃ b off c g q d, o = .slice (some ⟨b, off, none⟩) 1 c ∧ ∀ W', Turns [] W W' → W'.cell? ⟨b, off, none⟩ = some (.int .i64 num) ∧ W'.cell? ⟨b, off + 1, none⟩ = some (.slice (some ⟨g, q, none⟩) 1 d) ∧ W'.cell? ⟨g, q, none⟩ = some (.string x.name) ∧ W'.cell? ⟨g, q + 1, none⟩ = some (.int .i64 x.inc) ∧ W'.cell? ⟨g, q + 2, none⟩ = some (.bool x.over) := by
  obtain ⟨b, off, c, r, e, hat⟩ := h.atT (k := 0) (x := ⟨num, [x]⟩) rfl
  obtain ⟨hw, d0, d1⟩ := hat W (Turns.refl _ _)
  obtain ⟨g, q, e2, hg, hgw, hc⟩ := hw.rd.at cOk (k := 0) (x := x) rfl
  refine ⟨b, off, c, g, q, r.c, e, fun W' ht => ?_⟩
  obtain ⟨hw', d0', d1'⟩ := hat W' ht
  rw [e2] at d1'
  simp only [Nat.zero_mul, Nat.add_zero] at d0' d1'
  have c0 := hc 0 _ rfl
  have c1 := hc 1 _ rfl
  have c2 := hc 2 _ rfl
  simp only [cK, Nat.zero_mul, Nat.zero_add, Nat.add_zero] at c0 c1 c2
  exact ⟨d0', d1', (ht.cell hgw (by simp) _).trans c0, (ht.cell hgw (by simp) _).trans c1, (ht.cell hgw (by simp) _).trans c2⟩
set_option maxRecDepth 100000 in
set_option maxHeartbeats 4000000 in
theorem knownN_any (C : WiC) (w : World) : Calls Try.prog 10 #[] w fun e Y => e = .returned (.bool true) ∧ Turns [] w Y := by
  have hi : ∀ n : Int, -100 ≤ n → n ≤ 100 → I64 n := fun n h1 h2 => ⟨by omega, by omega⟩
  have HNW := Lib.hid (loneN_new (C := C) (Turns.refl [] w) 10 5 4 (hi _ (by omega) (by omega)) (hi _ (by omega) (by omega)) (hi _ (by omega) (by omega)) (by rfl))
  have HA1 := Lib.hid (fun (X : World) (p : Nat) (h : LoneN C (.plain w) X p sw0) => loneN_add h ok0 (by omega) aN 3 2 false (by decide) (hi _ (by omega) (by omega)) (hi _ (by omega) (by omega)))
  have HA2 := Lib.hid (fun (X : World) (p : Nat) (h : LoneN C (.plain w) X p sw1) => loneN_add h ok1 (by omega) aN 12 3 false (by decide) (hi _ (by omega) (by omega)) (hi _ (by omega) (by omega)))
  have HN3 := Lib.hid (fun (X : World) (p : Nat) (h : LoneN C (.plain w) X p sw2) => loneN_note h ok2 14 (hi _ (by omega) (by omega)))
  have HC4 := Lib.hid (fun (X : World) (p : Nat) (h : LoneN C (.plain w) X p sw3) => loneN_clock h ok3 (by omega) 99 (hi _ (by omega) (by omega)))
  have HN5 := Lib.hid (fun (X : World) (p : Nat) (h : LoneN C (.plain w) X p sw3) => loneN_note h ok3 15 (hi _ (by omega) (by omega)))
  have HC6 := Lib.hid (fun (X : World) (p : Nat) (h : LoneN C (.plain w) X p sw4) => loneN_clock h ok4 (by omega) 14 (hi _ (by omega) (by omega)))
  have HC7 := Lib.hid (fun (X : World) (p : Nat) (h : LoneN C (.plain w) X p sw4) => loneN_clock h ok4 (by omega) 15 (hi _ (by omega) (by omega)))
  simp only [kn1, kn2, kn3, kn4, kn5, kn6, kn7] at HA1 HA2 HN3 HC4 HN5 HC6 HC7
  clear hi
  go_enter Try.func10, Try.ntmps10
  go_wp2_with fail
  refine HNW.out.mono ?_
  rintro e w1 ⟨p, rfl, h1, -⟩
  have H1 := Lib.hid (HA1.out _ _ h1)
  clear h1
  go_wp2_with fail
  refine H1.out.mono ?_
  rintro e w2 ⟨o2, G2, rfl, -, -, h2⟩
  have H2 := Lib.hid (HA2.out _ _ h2)
  clear h2
  go_wp2_with fail
  refine H2.out.mono ?_
  rintro e w3 ⟨o3, G3, rfl, -, -, h3⟩
  have H3 := Lib.hid (HN3.out _ _ h3)
  clear h3
  go_wp2_with fail
  refine H3.out.mono ?_
  rintro e w4 ⟨rfl, h4⟩
  have H4 := Lib.hid (HC4.out _ _ h4)
  clear h4
  go_wp2_with fail
  refine H4.out.mono ?_
  rintro e w5 ⟨o5, G5, rfl, hl5, -, h5⟩
  obtain ⟨A5, c5, R5, rfl, -⟩ := hl5
  have H5 := Lib.hid (HN5.out _ _ h5)
  clear h5
  go_wp2_with fail
  refine H5.out.mono ?_
  rintro e w6 ⟨rfl, h6⟩
  have H6 := Lib.hid (HC6.out _ _ h6)
  clear h6
  go_wp2_with fail
  refine H6.out.mono ?_
  rintro e w7 ⟨o7, G7, rfl, hl7, -, h7⟩
  obtain ⟨A7, c7, R7, rfl, -⟩ := hl7
  have H7 := Lib.hid (HC7.out _ _ h7)
  clear h7
  go_wp2_with fail
  refine H7.out.mono ?_
  rintro e w8 ⟨o8, G8, rfl, hl8, -, h8⟩
  obtain ⟨b, off, c, g, q, d, rfl, hat⟩ := wn_one hl8
  have HAT := Lib.hid hat
  have H8 := Lib.hid h8
  obtain ⟨d0, d1, d2, d3, d4⟩ := hat w8 (Turns.refl _ _)
  have HFL := Lib.hid (loneN_floor h8)
  have HOP := Lib.hid (fun Y (ht : Turns [] w8 Y) => loneN_open (h8.pre ht) ok5 (by omega))
  have hcr := cr_eql ⟨aN, 2, false⟩ ⟨aN, 2, false⟩ w8
  rw [show crE ⟨aN, 2, false⟩ ⟨aN, 2, false⟩ = true from crE_iff.2 rfl] at hcr
  simp only [aN] at hcr d2 d3 d4
  have HT8 := Lib.hid h8.turns
  clear hl8 h8 hat
  go_wp2_with (first | (go_at_call 24; refine HFL.out.mono ?_; rintro e w9 ⟨rfl, t9⟩; have HT9 := Lib.hid t9; have e5 : (sw5.floor == 0) = true := rfl; clear t9) | (go_at_call 18; refine (HOP.out _ HT9.out).mono ?_; rintro e w10 ⟨o10, G10, rfl, hl10, t10, -⟩; have HT10 := Lib.hid (HT8.out.then (HT9.out.then t10)); obtain ⟨A10, c10, R10, rfl, -⟩ := hl10; have e6 : sw5.L.length = 1 := rfl; clear t10))
  all_goals
    go_ret
    exact ⟨rfl, HT10.out⟩
end Go.Proofs.Ytjkkpdflijjllaa
