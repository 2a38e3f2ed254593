/- The document's SameWindows. -/
import Derived.Test.YtjkkpdflijjllaaWnList
namespace Go.Proofs.Ytjkkpdflijjllaa
open Go.RowKit

theorem toList_injW {a b : ByteArray} (h : a.toList = b.toList) : a = b := by
  rw [Lib.toList_data, Lib.toList_data] at h
  obtain ⟨⟨a⟩⟩ := a
  obtain ⟨⟨b⟩⟩ := b
  simp only at h
  rw [h]
def crE (s t : Cr) : Bool := (s.name.toList == t.name.toList) && ((s.inc == t.inc) && (s.over == t.over))
theorem crE_iff {t u : Cr} : crE t u = true ↔ t = u := by
  constructor
  · intro h
    obtain ⟨a, b, c⟩ := t
    obtain ⟨a', b', c'⟩ := u
    simp only [crE, Bool.and_eq_true, beq_iff_eq] at h
    obtain ⟨h1, h2, h3⟩ := h
    rw [toList_injW h1, h2, h3]
  · rintro rfl
    simp [crE]
instance : DecidableEq Cr := fun _ _ => decidable_of_iff _ crE_iff
instance : DecidableEq Wn := fun x y => decidable_of_iff (x.num = y.num ∧ x.cr = y.cr) ⟨fun h => by cases x; cases y; simp at h; simp [h], fun h => by rw [h]; exact ⟨rfl, rfl⟩⟩
theorem cr_str : Try.prog.underlying 44 = some (.struct (Try.prog.fieldsOf 44)) := by kernel_rfl
theorem cr_stood : Try.prog.stoodInHeld 44 = false := by kernel_rfl
theorem cr_guard : Try.prog.eqGuardType Try.prog.depth 44 = false := by kernel_rfl
theorem cr_named : (Try.prog.fieldsOf 44).toList.map (fun f => (f.name, f.type, f.offset)) = [("Name", 9, 0), ("Increase", 2, 1), ("Over", 4, 2)] := by kernel_rfl
section
variable (a : ByteArray) (b : Int) (d : Bool) (w : World)
theorem cr_part0 : (part 9 #[.string a, .int .i64 b, .bool d] 0).run Try.prog w = .ok (.string a) w := by kernel_rfl
theorem cr_part1 : (part 2 #[.string a, .int .i64 b, .bool d] 1).run Try.prog w = .ok (.int .i64 b) w := by kernel_rfl
theorem cr_part2 : (part 4 #[.string a, .int .i64 b, .bool d] 2).run Try.prog w = .ok (.bool d) w := by kernel_rfl
end
set_option maxRecDepth 100000 in
theorem cr_fldE (D : Nat) (t u : Cr) (w : World) : (Op.eqFields (D + 1) #[.string t.name, .int .i64 t.inc, .bool t.over] #[.string u.name, .int .i64 u.inc, .bool u.over] (Try.prog.fieldsOf 44).toList).run Try.prog w = .ok (crE t u) w := by
  have hf := cr_named
  generalize (Try.prog.fieldsOf 44).toList = fs at hf
  rcases fs with _ | ⟨f0, _ | ⟨f1, _ | ⟨f2, _ | ⟨f3, fs⟩⟩⟩⟩
  · cases hf
  · simp at hf
  · simp at hf
  · simp only [List.map_cons, List.map_nil, List.cons.injEq, Prod.mk.injEq, and_true] at hf
    obtain ⟨⟨n0, t0, o0⟩, ⟨n1, t1, o1⟩, n2, t2, o2⟩ := hf
    have es := fun (x y : ByteArray) (W : World) => run_equalIn_string (P := Try.prog) W D 9 x y Try.underlying9
    have ei := fun (x y : Int) (W : World) => run_equalIn_int (P := Try.prog) W D 2 .i64 .i64 x y Try.underlying2
    have eb := fun (x y : Bool) (W : World) => run_equalIn_bool (P := Try.prog) W D 4 x y Try.underlying4
    unfold crE
    cases h0 : (t.name.toList == u.name.toList) <;> cases h1 : (t.inc == u.inc) <;> cases h3 : (t.over == u.over) <;>
      simp [Op.eqFields, n0, n1, n2, t0, t1, t2, o0, o1, o2, cr_part0, cr_part1, cr_part2, es, ei, eb, Result.andThen, h0, h1, h3]
  · simp at hf
theorem cr_neq (t u : Cr) (w : World) : (binOp .neq 44 (.agg #[.string t.name, .int .i64 t.inc, .bool t.over]) (.agg #[.string u.name, .int .i64 u.inc, .bool u.over])).run Try.prog w = .ok (.bool (!crE t u)) w := by
  have h := cr_fldE 9998 t u w
  rw [run_neq_struct, run_equalIn_struct (P := Try.prog) w 9999 44 _ _ cr_str cr_stood, h]
  rfl
set_option maxRecDepth 100000 in
set_option maxHeartbeats 8000000 in
theorem rsameW_any {G1 G2 : List Nat} {A1 A2 : Option Addr} {c1 c2 : Nat} {l m : List Wn} (w : World) (h1 : WnL w G1 (.slice A1 l.length c1) l) (h2 : WnL w G2 (.slice A2 m.length c2) m) :
    Calls Try.prog 29 #[.slice A1 l.length c1, .slice A2 m.length c2] w fun e w' => e = .returned (.bool (decide (l = m))) ∧ Turns [] w w' := by
  by_cases hne : l.length = m.length
  · have H1 := Lib.hid h1
    have H2 := Lib.hid h2
    have hgd := cr_guard
    have hnq := cr_neq
    obtain ⟨N, hN⟩ : ∃ N, N = l.length := ⟨_, rfl⟩
    rw [← hne, ← hN]
    have HN := Lib.hid (And.intro hN (hN.trans hne))
    have f1 : (N : Int) ≤ 9223372036854775807 := by
      obtain ⟨A, c, R, e, h3, h4, _⟩ := h1
      unfold maxLen at h4
      omega
    clear h1 h2 hne hN
    go_enter Try.func29, Try.ntmps29
    go_wp2
    go_loopw [5] (fun i wr => ∃ k : Nat, i = .int .i64 (k : Int) ∧ k ≤ N ∧ Hid (l.take k = m.take k ∧ Turns [] w wr)) (fun i _ => N - (intOf i).toNat)
    case atStart => exact ⟨0, rfl, Nat.zero_le _, Lib.hid ⟨rfl, Turns.refl _ _⟩⟩
    case round =>
      obtain ⟨k, rfl, hk, HQ⟩ := hrel
      have HTD := Lib.hid (fun n : Nat => HQ.out.2.drewN n)
      by_cases hlt : k < N
      · have f2 : (k : Int) < (N : Int) := by omega
        have f3 : (0 : Int) ≤ (k : Int) := by omega
        obtain ⟨x, hx⟩ : ∃ x, l[k]? = some x := ⟨_, List.getElem?_eq_getElem (by have := HN.out; omega)⟩
        obtain ⟨y, hy⟩ : ∃ y, m[k]? = some y := ⟨_, List.getElem?_eq_getElem (by have := HN.out; omega)⟩
        obtain ⟨b1, o1, c1', r1, e1, hw1⟩ := (H1.out.pre HQ.out.2).atT hx
        obtain ⟨b2, o2, c2', r2, e2, hw2⟩ := (H2.out.pre HQ.out.2).atT hy
        obtain ⟨e1, -, e3⟩ := Value.slice.inj e1
        obtain ⟨e2, -, e4⟩ := Value.slice.inj e2
        subst e1 e2 e3 e4
        have HW1 := Lib.hid hw1
        have HW2 := Lib.hid hw2
        have HX := Lib.hid hx
        have HY := Lib.hid hy
        have HJL := Lib.hid hlt
        obtain ⟨w1, k0, k1⟩ := hw1 wr (Turns.refl _ _)
        obtain ⟨w2, m0, m1⟩ := hw2 wr (Turns.refl _ _)
        clear hw1 hw2 hx hy w1 w2
        by_cases hnum : x.num = y.num
        · have g1 : (x.num != y.num) = false := by simpa using hnum
          by_cases hlen : x.cr.length = y.cr.length
          · have g2 : ((x.cr.length : Int) != (y.cr.length : Int)) = false := by simp; omega
            have HNL := Lib.hid (And.intro hnum hlen)
            have HTN := Lib.hid (fun n : Nat => (Turns.refl [] wr).drewN n)
            clear hnum hlen
            go_wp2
            go_quiet (fail)
            go_wp2
            go_loopw [6] (fun jv wx => ∃ j : Nat, jv = .int .i64 (j : Int) ∧ j ≤ x.cr.length ∧ Hid (x.cr.take j = y.cr.take j ∧ Turns [] wr wx)) (fun jv _ => x.cr.length - (intOf jv).toNat)
            case atStart => exact ⟨0, rfl, Nat.zero_le _, Lib.hid ⟨rfl, HTN.out _⟩⟩
            case round =>
              clear k0 k1 m0 m1
              obtain ⟨j, rfl, hj, HJ⟩ := hrel
              obtain ⟨v1, k0, k1⟩ := HW1.out wr HJ.out.2
              obtain ⟨v2, m0, m1⟩ := HW2.out wr HJ.out.2
              have HJT := Lib.hid (fun n : Nat => HJ.out.2.drewN n)
              have f5 : (x.cr.length : Int) ≤ 9223372036854775807 := by
                have h1 := v1.cap
                have h2 := v1.len
                unfold maxLen at h1
                omega
              by_cases hjl : j < x.cr.length
              · have f4 : (j : Int) < (x.cr.length : Int) := by omega
                have f6 : (j : Int) < (y.cr.length : Int) := by have := HNL.out.2; omega
                have f7 : (0 : Int) ≤ (j : Int) := by omega
                obtain ⟨u, hu⟩ : ∃ u, x.cr[j]? = some u := ⟨_, List.getElem?_eq_getElem hjl⟩
                obtain ⟨z, hz⟩ : ∃ z, y.cr[j]? = some z := ⟨_, List.getElem?_eq_getElem (by have := HNL.out.2; omega)⟩
                obtain ⟨b3, o3, e3, _, _, hc3⟩ := v1.rd.at cOk hu
                obtain ⟨b4, o4, e4, _, _, hc4⟩ := v2.rd.at cOk hz
                rw [e3] at k1
                rw [e4] at m1
                have p0 : wr.cell? ⟨b3, o3 + j * 3, none⟩ = some (.string u.name) := hc3 0 _ rfl
                have p1 : wr.cell? ⟨b3, o3 + j * 3 + 1, none⟩ = some (.int .i64 u.inc) := hc3 1 _ rfl
                have p2 : wr.cell? ⟨b3, o3 + j * 3 + 2, none⟩ = some (.bool u.over) := hc3 2 _ rfl
                have q0 : wr.cell? ⟨b4, o4 + j * 3, none⟩ = some (.string z.name) := hc4 0 _ rfl
                have q1 : wr.cell? ⟨b4, o4 + j * 3 + 1, none⟩ = some (.int .i64 z.inc) := hc4 1 _ rfl
                have q2 : wr.cell? ⟨b4, o4 + j * 3 + 2, none⟩ = some (.bool z.over) := hc4 2 _ rfl
                have HU := Lib.hid hu
                have HZ := Lib.hid hz
                have HJ2 := Lib.hid hjl
                have hnn := hnq u z
                have HUZ : Hid (crE u z = true ↔ u = z) := Lib.hid crE_iff
                clear hc3 hc4 hu hz e3 e4 v1 v2 hnq
                cases hb : crE u z with
                | true =>
                  rw [hb] at hnn
                  go_wp2
                  go_quiet (fail)
                  go_wp2
                  go_roundw
                  case rel =>
                    refine ⟨j + 1, by go_num, HJ2.out, Lib.hid ⟨?_, HJT.out _⟩⟩
                    rw [List.take_add_one, List.take_add_one, HU.out, HZ.out, HJ.out.1, HUZ.out.1 hb]
                  case measure => simp [intOf] <;> omega
                | false =>
                  rw [hb] at hnn
                  have HD : Hid (decide (l = m) = false) := Lib.hid (by
                    simp
                    intro e
                    have h1 := HX.out
                    rw [e, HY.out] at h1
                    cases h1
                    have h2 := HU.out
                    rw [HZ.out] at h2
                    cases h2
                    rw [HUZ.out.2 rfl] at hb
                    cases hb)
                  go_wp2
                  go_quiet (fail)
                  go_wp2
                  go_ret
                  exact ⟨by rw [HD.out]; rfl, HQ.out.2.then (HJT.out _)⟩
              · have hge : decide ((j : Int) < (x.cr.length : Int)) = false := by simp; omega
                have HXY : Hid (x = y) := Lib.hid (by
                  have h1 := HJ.out.1
                  rw [List.take_of_length_le (by omega), List.take_of_length_le (by have := HNL.out.2; omega)] at h1
                  have h2 := HNL.out.1
                  cases x
                  cases y
                  simp only at h1 h2
                  rw [h1, h2])
                clear v1 v2
                go_wp2_with fail
                exact ⟨⟨k + 1, by go_num, HJL.out, Lib.hid ⟨by rw [List.take_add_one, List.take_add_one, HX.out, HY.out, HQ.out.1, HXY.out], HQ.out.2.then HJ.out.2⟩⟩, by have := HJL.out; simp [intOf]; omega⟩
          · have g2 : ((x.cr.length : Int) != (y.cr.length : Int)) = true := by simp; omega
            have HD : Hid (decide (l = m) = false) := Lib.hid (by
              simp
              intro e
              have h1 := HX.out
              rw [e, HY.out] at h1
              cases h1
              exact hlen rfl)
            clear hnum hlen
            go_wp2
            go_quiet (fail)
            go_wp2
            go_ret
            exact ⟨by rw [HD.out]; rfl, HTD.out _⟩
        · have g1 : (x.num != y.num) = true := by simpa using hnum
          have HD : Hid (decide (l = m) = false) := Lib.hid (by
            simp
            intro e
            have h1 := HX.out
            rw [e, HY.out] at h1
            cases h1
            exact hnum rfl)
          clear hnum
          go_wp2
          go_quiet (fail)
          go_wp2
          go_ret
          exact ⟨by rw [HD.out]; rfl, HTD.out _⟩
      · have hge : decide ((k : Int) < (N : Int)) = false := by simp; omega
        have HD : Hid (decide (l = m) = true) := Lib.hid (by
          have h1 := HQ.out.1
          rw [List.take_of_length_le (by have := HN.out; omega), List.take_of_length_le (by have := HN.out; omega)] at h1
          simpa using h1)
        go_wp2
        go_ret
        exact ⟨by rw [HD.out]; rfl, HQ.out.2⟩
  · have hb : ((l.length : Int) != (m.length : Int)) = true := by simp; omega
    have hd : decide (l = m) = false := by simp; exact fun e => hne (by rw [e])
    rw [hd]
    clear h1 h2 hne hd
    go_enter Try.func29, Try.ntmps29
    go_wp2
    go_ret
    exact ⟨rfl, Turns.refl _ _⟩
end Go.Proofs.Ytjkkpdflijjllaa
