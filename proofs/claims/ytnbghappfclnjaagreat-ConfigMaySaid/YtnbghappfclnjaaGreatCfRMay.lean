/- The document's May of a config. -/
import Derived.Test.YtnbghappfclnjaaGreatCfRMayT
import Derived.Test.YtnbghappfclnjaaGreatCfMem
import Derived.Test.YtnbghappfclnjaaGreatRefWord
import Derived.Deep.CutBlock
namespace Go.Proofs.YtnbghappfclnjaaGreat
open Go.RowKit

/-- The target at i may be, and none ahead of it has its Job and Host. -/
def OneOk (l : List Tg) (i : Nat) : Prop := ∀ t, l[i]? = some t → t.may = true ∧ ∀ k u, k < i → l[k]? = some u → ¬ (u.job = t.job ∧ u.host = t.host)
structure ArgOk (c : Cf) : Prop where
  n : 1 ≤ c.ts.length ∧ c.ts.length ≤ 16
  ts : ∀ i, OneOk c.ts i
  win : 1 ≤ c.win ∧ c.win ≤ 1073741824
  lat : 0 ≤ c.lat ∧ c.lat ≤ 1073741824
  base : 1 ≤ c.base ∧ c.base ≤ c.most
  most : c.most ≤ 1073741824
  ser : 1 ≤ c.ser ∧ c.ser ≤ 4096
  wins : 1 ≤ c.wins ∧ c.wins ≤ 64
  que : 1 ≤ c.que ∧ c.que ≤ 64
  con : (c.ts.length : Int) ≤ c.con ∧ c.con ≤ 32
  bod : 1 ≤ c.bod ∧ c.bod ≤ 1048576
/-- The word at i is one, and above that ahead of it. -/
def WordOk (l : List ByteArray) (i : Nat) : Prop := ∀ s, l[i]? = some s → wrdB s.data.toList = true ∧ ∀ r, 0 < i → l[i - 1]? = some r → ltN r.data.toList s.data.toList = true
structure ByOk (l : List ByteArray) : Prop where
  n : l.length ≤ 16
  each : ∀ i, WordOk l i
open Classical in
noncomputable def mayC (c : Cf) : Int := if ArgOk c then (if ByOk c.by' then 0 else 5) else 2
theorem mayC_arg {c : Cf} (h : ¬ ArgOk c) : mayC c = 2 := by
  unfold mayC
  rw [if_neg h]
theorem mayC_by {c : Cf} (h : ArgOk c) (hb : ¬ ByOk c.by') : mayC c = 5 := by
  unfold mayC
  rw [if_pos h, if_neg hb]
theorem mayC_ok {c : Cf} (h : ArgOk c) (hb : ByOk c.by') : mayC c = 0 := by
  unfold mayC
  rw [if_pos h, if_pos hb]
set_option maxRecDepth 100000 in
theorem rin_yes (n l m : Int) (w : World) (h : l ≤ n ∧ n ≤ m) : Calls Tryz.prog 28 #[.int .i64 n, .int .i64 l, .int .i64 m] w fun e w' => e = .returned (.bool true) ∧ w = w' := by
  obtain ⟨h1, h2⟩ := h
  go_enter Tryz.func28, Tryz.ntmps28
  go_wp2
  go_ret
  exact ⟨rfl, rfl⟩
set_option maxRecDepth 100000 in
theorem rin_no (n l m : Int) (w : World) (h : ¬ (l ≤ n ∧ n ≤ m)) : Calls Tryz.prog 28 #[.int .i64 n, .int .i64 l, .int .i64 m] w fun e w' => e = .returned (.bool false) ∧ w = w' := by
  by_cases h1 : l ≤ n
  · have h2 : decide (n ≤ m) = false := by rw [decide_eq_false_iff_not]; exact fun h2 => h ⟨h1, h2⟩
    clear h
    go_enter Tryz.func28, Tryz.ntmps28
    go_wp2
    go_ret
    exact ⟨rfl, rfl⟩
  · have h2 : decide (l ≤ n) = false := decide_eq_false h1
    clear h
    go_enter Tryz.func28, Tryz.ntmps28
    go_wp2
    go_ret
    exact ⟨rfl, rfl⟩
theorem str_eq {a b : ByteArray} : (a.toList == b.toList) = decide (a = b) := by
  rw [Bool.eq_iff_iff, beq_iff_eq, decide_eq_true_eq]
  constructor
  · intro h
    rw [Lib.toList_data, Lib.toList_data] at h
    obtain ⟨⟨a⟩⟩ := a
    obtain ⟨⟨b⟩⟩ := b
    simp only at h
    rw [h]
  · rintro rfl
    rfl
set_option maxRecDepth 100000 in
set_option maxHeartbeats 4000000 in
theorem rmay13_any (c : Cf) (w : World) (hr : c.Reads w w.heap.size) (hts : c.ts.length ≤ 20) (hbs : c.by'.length ≤ 20) (hsz : ∀ t ∈ c.ts, t.size ≤ 6000) (hsb : ∀ s ∈ c.by', s.size ≤ 6000) :
    Calls Tryz.prog 9 #[c.val] w fun e w' => e = .returned (.int .i64 (mayC c)) ∧ Below w.heap.size w w' := by
  have HR := Lib.hid hr
  have HSZ := Lib.hid hsz
  have HSB := Lib.hid hsb
  have l1 : (c.ts.length : Int) ≤ 20 := by omega
  have l2 : (c.by'.length : Int) ≤ 20 := by omega
  clear hr hsz hsb hts hbs
  have hA := CfAt.new w c
  have hbel := (Below.refl w.heap.size w).alloc (Nat.le_refl _) c.obj
  have hlt : w.heap.size < (w.alloc c.obj).heap.size := by simp
  unfold Cf.obj at hA hbel hlt
  unfold Cf.val
  go_enter Tryz.func9, Tryz.ntmps9
  go_upto_region 1 with fail
  generalize w.alloc (.cells #[.slice c.A c.ts.length c.cap, .int .i64 c.win, .int .i64 c.lat, .slice c.B c.by'.length c.cb, .int .i64 c.ser, .int .i64 c.wins, .int .i64 c.que, .int .i64 c.con, .int .i64 c.bod, .int .i64 c.base, .int .i64 c.most] 25) = w0 at hA hbel hlt ⊢
  have HT := Lib.hid (fun (wr : World) (h : Below w0.heap.size w0 wr) => show CfAt wr w.heap.size c ∧ Below w.heap.size w wr from ⟨hA.below h hlt, hbel.trans (h.mono (Nat.le_of_lt hlt))⟩)
  clear hA hbel hlt
  obtain ⟨hx, hz⟩ := HT.out w0 (Below.refl _ _)
  have HB0 := Lib.hid hz
  obtain ⟨a0, a1, a2, a3, a4, a5, a6, a7, a8, a9, a10⟩ := hx
  clear hz
  by_cases q1 : 1 ≤ (c.ts.length : Int) ∧ (c.ts.length : Int) ≤ 16
  case neg =>
    have HM := Lib.hid (mayC_arg (c := c) (fun h => q1 ⟨by have := h.n; omega, by have := h.n; omega⟩))
    go_wp2_with fail
    refine (rin_no _ _ _ _ q1).mono ?_
    rintro e w1 ⟨rfl, rfl⟩
    clear q1
    go_wp2
    go_ret
    exact ⟨by rw [HM.out]; rfl, HB0.out⟩
  go_wp2_with fail
  refine (rin_yes _ _ _ _ q1).mono ?_
  rintro e w1 ⟨rfl, rfl⟩
  have l3 : (c.ts.length : Int) ≤ 16 := q1.2
  have HQ1 := Lib.hid q1
  clear q1 l1
  go_wp2_with fail
  clear a0 a1 a2 a3 a4 a5 a6 a7 a8 a9 a10
  go_loopw [4] (fun i wr => ∃ k : Nat, k ≤ c.ts.length ∧ i = .int .i64 k ∧ Hid (∀ i, i < k → OneOk c.ts i) ∧ Hid (Below w0.heap.size w0 wr)) (fun i _ => c.ts.length - (intOf i).toNat)
  case atStart => exact ⟨0, by omega, rfl, Lib.hid (fun i h => by omega), Lib.hid (Below.refl _ _)⟩
  case round =>
    obtain ⟨k, hk, rfl, HE, HB⟩ := hrel
    obtain ⟨hx, hz⟩ := HT.out _ HB.out
    have HBW := Lib.hid hz
    obtain ⟨a0, a1, a2, a3, a4, a5, a6, a7, a8, a9, a10⟩ := hx
    by_cases hlt : k < c.ts.length
    · obtain ⟨t, ht⟩ : ∃ t, c.ts[k]? = some t := ⟨_, List.getElem?_eq_getElem hlt⟩
      obtain ⟨b, off, hA, hb, hc⟩ := (HR.out.ts.below hz).at tOk (by omega)
      have HC := Lib.hid hc
      have c0 := hc k t ht 0 _ rfl
      have c1 := hc k t ht 1 _ rfl
      have c2 := hc k t ht 2 _ rfl
      have c3 := hc k t ht 3 _ rfl
      have c4 := hc k t ht 4 _ rfl
      simp only [tK, Nat.add_zero] at c0 c1 c2 c3 c4
      rw [← Nat.add_assoc] at c1 c2 c3 c4
      have HAA := Lib.hid hA
      rw [hA] at a0
      have HTK := Lib.hid ht
      have HBB := Lib.hid hb
      have hlt' : (k : Int) < (c.ts.length : Int) := by omega
      have hk0 : (0 : Int) ≤ (k : Int) := by omega
      have HMT := Lib.hid (fun W => rmayT_any t W (by have := HSZ.out t (List.mem_of_getElem? ht); omega))
      unfold Tg.val at HMT
      obtain ⟨z, hzz⟩ : ∃ z, z = t.may := ⟨_, rfl⟩
      rw [← hzz] at HMT
      have HZ := Lib.hid hzz
      clear hc ht hz hA hb hzz
      go_wp2_with fail
      refine (HMT.out _).mono ?_
      rintro e w2 ⟨rfl, hb2⟩
      have HB2 := Lib.hid (HB.out.trans (hb2.mono HB.out.size))
      clear hb2 a0 a1 a2 a3 a4 a5 a6 a7 a8 a9 a10 c0 c1 c2 c3 c4
      cases z with
      | false =>
        have HM := Lib.hid (mayC_arg (c := c) (fun h => by
          have := (h.ts k t HTK.out).1
          rw [← HZ.out] at this
          cases this))
        go_wp2
        go_ret
        exact ⟨by rw [HM.out]; rfl, (HT.out _ HB2.out).2⟩
      | true =>
        go_wp2_with fail
        go_loopw [5] (fun j wq => ∃ m : Nat, m ≤ k ∧ j = .int .i64 m ∧ Hid (∀ i u, i < m → c.ts[i]? = some u → ¬ (u.job = t.job ∧ u.host = t.host)) ∧ Hid (Below w0.heap.size w0 wq)) (fun j _ => k - (intOf j).toNat)
        case atStart => exact ⟨0, by omega, rfl, Lib.hid (fun i u h => by omega), HB2⟩
        case round =>
          obtain ⟨m, hm, rfl, HE2, HB3⟩ := hrel
          obtain ⟨hx, hz⟩ := HT.out _ HB3.out
          have HBW3 := Lib.hid hz
          obtain ⟨a0, a1, a2, a3, a4, a5, a6, a7, a8, a9, a10⟩ := hx
          by_cases hml : m < k
          · obtain ⟨u, hu⟩ : ∃ u, c.ts[m]? = some u := ⟨_, List.getElem?_eq_getElem (by omega)⟩
            have HUK := Lib.hid hu
            obtain ⟨b', off', hA', hb', hc'⟩ := (HR.out.ts.below hz).at tOk (by omega)
            have c0 := hc' k t HTK.out 0 _ rfl
            have c1 := hc' k t HTK.out 1 _ rfl
            have d0 := hc' m u hu 0 _ rfl
            have d1 := hc' m u hu 1 _ rfl
            simp only [tK, Nat.add_zero] at c0 c1 d0 d1
            rw [← Nat.add_assoc] at c1 d1
            rw [hA'] at a0
            have hml' : (m : Int) < (k : Int) := by omega
            have hml2 : (m : Int) < (c.ts.length : Int) := by omega
            have hm0 : (0 : Int) ≤ (m : Int) := by omega
            clear hc' hu hz hA' hb'
            by_cases e1 : u.job = t.job
            · by_cases e2 : u.host = t.host
              · have e1' : (u.job.toList == t.job.toList) = true := by rw [str_eq, decide_eq_true e1]
                have e2' : (u.host.toList == t.host.toList) = true := by rw [str_eq, decide_eq_true e2]
                have HM := Lib.hid (mayC_arg (c := c) (fun h => (h.ts k t HTK.out).2 m u (by omega) HUK.out ⟨e1, e2⟩))
                clear e1 e2
                go_wp2_with fail
                go_quiet (fail)
                go_wp2
                go_ret
                exact ⟨by rw [HM.out]; rfl, below_drewN HBW3.out _⟩
              · have e1' : (u.job.toList == t.job.toList) = true := by rw [str_eq, decide_eq_true e1]
                have e2' : (u.host.toList == t.host.toList) = false := by rw [str_eq, decide_eq_false e2]
                have HN := Lib.hid (show ∀ i v, i < m + 1 → c.ts[i]? = some v → ¬ (v.job = t.job ∧ v.host = t.host) from fun i v h1 h2 => by
                  rcases Nat.lt_or_ge i m with h | h
                  · exact HE2.out i v h h2
                  · obtain rfl : i = m := by omega
                    rw [HUK.out] at h2
                    cases h2
                    exact fun h => e2 h.2)
                clear e1 e2
                go_wp2_with fail
                go_quiet (fail)
                go_wp2
                go_roundw
                case rel => exact ⟨m + 1, by omega, by go_num, HN, Lib.hid (below_drewN HB3.out _)⟩
                case measure => simp [intOf] <;> omega
            · have e1' : (u.job.toList == t.job.toList) = false := by rw [str_eq, decide_eq_false e1]
              have HN := Lib.hid (show ∀ i v, i < m + 1 → c.ts[i]? = some v → ¬ (v.job = t.job ∧ v.host = t.host) from fun i v h1 h2 => by
                rcases Nat.lt_or_ge i m with h | h
                · exact HE2.out i v h h2
                · obtain rfl : i = m := by omega
                  rw [HUK.out] at h2
                  cases h2
                  exact fun h => e1 h.1)
              clear e1
              go_wp2_with fail
              go_quiet (fail)
              go_wp2
              go_roundw
              case rel => exact ⟨m + 1, by omega, by go_num, HN, Lib.hid (below_drewN HB3.out _)⟩
              case measure => simp [intOf] <;> omega
          · have hge : decide ((m : Int) < (k : Int)) = false := by rw [decide_eq_false_iff_not]; omega
            have hge2 : ¬ ((m : Int) < (k : Int)) := by omega
            have HN := Lib.hid (show ∀ i, i < k + 1 → OneOk c.ts i from fun i h => by
              rcases Nat.lt_or_ge i k with h1 | h1
              · exact HE.out i h1
              · obtain rfl : i = k := by omega
                intro v hv
                rw [HTK.out] at hv
                cases hv
                exact ⟨HZ.out.symm, fun j u hj hu => HE2.out j u (by omega) hu⟩)
            clear hz
            go_wp2
            go_roundw
            case rel => exact ⟨k + 1, by omega, by go_num, HN, HB3⟩
            case measure => simp [intOf] <;> omega
    · have hge : decide ((k : Int) < (c.ts.length : Int)) = false := by rw [decide_eq_false_iff_not]; omega
      have hge2 : ¬ ((k : Int) < (c.ts.length : Int)) := by omega
      have HTS := Lib.hid (show ∀ i, OneOk c.ts i from fun i => by
        rcases Nat.lt_or_ge i k with h | h
        · exact HE.out i h
        · intro t ht
          have := (List.getElem?_eq_some_iff.1 ht).1
          omega)
      clear hz
      by_cases g0 : c.win < 1
      · have HM := Lib.hid (mayC_arg (c := c) (fun h => by have := h.win.1; omega))
        go_wp2
        go_ret
        exact ⟨by rw [HM.out]; rfl, HBW.out⟩
      have g0' : decide (c.win < 1) = false := decide_eq_false g0
      by_cases g1 : 1073741824 < c.win
      · have HM := Lib.hid (mayC_arg (c := c) (fun h => by have := h.win.2; omega))
        go_wp2
        go_ret
        exact ⟨by rw [HM.out]; rfl, HBW.out⟩
      have g1' : decide (1073741824 < c.win) = false := decide_eq_false g1
      by_cases g2 : c.lat < 0
      · have HM := Lib.hid (mayC_arg (c := c) (fun h => by have := h.lat.1; omega))
        go_wp2
        go_ret
        exact ⟨by rw [HM.out]; rfl, HBW.out⟩
      have g2' : decide (c.lat < 0) = false := decide_eq_false g2
      by_cases g3 : 1073741824 < c.lat
      · have HM := Lib.hid (mayC_arg (c := c) (fun h => by have := h.lat.2; omega))
        go_wp2
        go_ret
        exact ⟨by rw [HM.out]; rfl, HBW.out⟩
      have g3' : decide (1073741824 < c.lat) = false := decide_eq_false g3
      by_cases g4 : c.base < 1
      · have HM := Lib.hid (mayC_arg (c := c) (fun h => by have := h.base.1; omega))
        go_wp2
        go_ret
        exact ⟨by rw [HM.out]; rfl, HBW.out⟩
      have g4' : decide (c.base < 1) = false := decide_eq_false g4
      by_cases g5 : c.most < c.base
      · have HM := Lib.hid (mayC_arg (c := c) (fun h => by have := h.base.2; omega))
        go_wp2
        go_ret
        exact ⟨by rw [HM.out]; rfl, HBW.out⟩
      have g5' : decide (c.most < c.base) = false := decide_eq_false g5
      by_cases g6 : 1073741824 < c.most
      · have HM := Lib.hid (mayC_arg (c := c) (fun h => by have := h.most; omega))
        go_wp2
        go_ret
        exact ⟨by rw [HM.out]; rfl, HBW.out⟩
      have g6' : decide (1073741824 < c.most) = false := decide_eq_false g6
      go_wp2_with fail
      by_cases k0 : 1 ≤ c.ser ∧ c.ser ≤ 4096
      case neg =>
        have HM := Lib.hid (mayC_arg (c := c) (fun h => k0 h.ser))
        refine (rin_no _ _ _ _ k0).mono ?_
        rintro e w3 ⟨rfl, rfl⟩
        clear k0
        go_wp2
        go_ret
        exact ⟨by rw [HM.out]; rfl, HBW.out⟩
      refine (rin_yes _ _ _ _ k0).mono ?_
      rintro e w3 ⟨rfl, rfl⟩
      have K0 := Lib.hid k0
      clear k0
      go_wp2_with fail
      by_cases k1 : 1 ≤ c.wins ∧ c.wins ≤ 64
      case neg =>
        have HM := Lib.hid (mayC_arg (c := c) (fun h => k1 h.wins))
        refine (rin_no _ _ _ _ k1).mono ?_
        rintro e w3 ⟨rfl, rfl⟩
        clear k1
        go_wp2
        go_ret
        exact ⟨by rw [HM.out]; rfl, HBW.out⟩
      refine (rin_yes _ _ _ _ k1).mono ?_
      rintro e w3 ⟨rfl, rfl⟩
      have K1 := Lib.hid k1
      clear k1
      go_wp2_with fail
      by_cases k2 : 1 ≤ c.que ∧ c.que ≤ 64
      case neg =>
        have HM := Lib.hid (mayC_arg (c := c) (fun h => k2 h.que))
        refine (rin_no _ _ _ _ k2).mono ?_
        rintro e w3 ⟨rfl, rfl⟩
        clear k2
        go_wp2
        go_ret
        exact ⟨by rw [HM.out]; rfl, HBW.out⟩
      refine (rin_yes _ _ _ _ k2).mono ?_
      rintro e w3 ⟨rfl, rfl⟩
      have K2 := Lib.hid k2
      clear k2
      go_wp2_with fail
      by_cases k3 : (c.ts.length : Int) ≤ c.con ∧ c.con ≤ 32
      case neg =>
        have HM := Lib.hid (mayC_arg (c := c) (fun h => k3 h.con))
        refine (rin_no _ _ _ _ k3).mono ?_
        rintro e w3 ⟨rfl, rfl⟩
        clear k3
        go_wp2
        go_ret
        exact ⟨by rw [HM.out]; rfl, HBW.out⟩
      refine (rin_yes _ _ _ _ k3).mono ?_
      rintro e w3 ⟨rfl, rfl⟩
      have K3 := Lib.hid k3
      clear k3
      go_wp2_with fail
      by_cases k4 : 1 ≤ c.bod ∧ c.bod ≤ 1048576
      case neg =>
        have HM := Lib.hid (mayC_arg (c := c) (fun h => k4 h.bod))
        refine (rin_no _ _ _ _ k4).mono ?_
        rintro e w3 ⟨rfl, rfl⟩
        clear k4
        go_wp2
        go_ret
        exact ⟨by rw [HM.out]; rfl, HBW.out⟩
      refine (rin_yes _ _ _ _ k4).mono ?_
      rintro e w3 ⟨rfl, rfl⟩
      have K4 := Lib.hid k4
      clear k4
      have HARG := Lib.hid (show ArgOk c from ⟨⟨by have := HQ1.out; omega, by have := HQ1.out; omega⟩, HTS.out, by omega, by omega, by omega, by omega, K0.out, K1.out, K2.out, K3.out, K4.out⟩)
      by_cases n16 : 16 < c.by'.length
      · have n16' : (16 : Int) < (c.by'.length : Int) := by omega
        have HM := Lib.hid (mayC_by HARG.out (fun h => by have := h.n; omega))
        go_wp2
        go_ret
        exact ⟨by rw [HM.out]; rfl, HBW.out⟩
      have n16' : decide ((16 : Int) < (c.by'.length : Int)) = false := by rw [decide_eq_false_iff_not]; omega
      clear g0 g1 g2 g3 g4 g5 g6 g0' g1' g2' g3' g4' g5' g6' hge hge2 hlt
      go_wp2_with fail
      clear a0 a1 a2 a3 a4 a5 a6 a7 a8 a9 a10 n16'
      go_loopw [6] (fun i wq => ∃ m : Nat, m ≤ c.by'.length ∧ i = .int .i64 m ∧ Hid (∀ i, i < m → WordOk c.by' i) ∧ Hid (Below w0.heap.size w0 wq)) (fun i _ => c.by'.length - (intOf i).toNat)
      case atStart => exact ⟨0, by omega, rfl, Lib.hid (fun i h => by omega), HB⟩
      case round =>
        obtain ⟨m, hm, rfl, HE2, HB2⟩ := hrel
        obtain ⟨hx, hz⟩ := HT.out _ HB2.out
        have HBW2 := Lib.hid hz
        obtain ⟨a0, a1, a2, a3, a4, a5, a6, a7, a8, a9, a10⟩ := hx
        by_cases hlt : m < c.by'.length
        · obtain ⟨s, hs⟩ : ∃ s, c.by'[m]? = some s := ⟨_, List.getElem?_eq_getElem hlt⟩
          have HSK := Lib.hid hs
          obtain ⟨b, off, hA, hb, hc⟩ := (HR.out.by'.below hz).at bOk (by omega)
          have c0 := hc m s hs 0 _ rfl
          simp only [bK, Nat.add_zero, Nat.mul_one] at c0
          rw [hA] at a3
          have hlt' : (m : Int) < (c.by'.length : Int) := by omega
          have hm0 : (0 : Int) ≤ (m : Int) := by omega
          have HW := Lib.hid (fun W => rword_any s W (by have := HSB.out s (List.mem_of_getElem? hs); omega))
          obtain ⟨z, hzz⟩ : ∃ z, z = wrdB s.data.toList := ⟨_, rfl⟩
          rw [← hzz] at HW
          have HZ := Lib.hid hzz
          have HC := Lib.hid hc
          clear hzz hs hz hA hb hc
          cases z with
          | false =>
            have HM := Lib.hid (mayC_by HARG.out (fun h => by
              have := (h.each m s HSK.out).1
              rw [← HZ.out] at this
              cases this))
            go_wp2_with fail
            go_quiet ((go_at_call 29; exact Calls.quiet_of_same ((HW.out _).mono fun _ _ h => ⟨h.1, h.2.symm⟩)))
            go_wp2
            go_ret
            exact ⟨by rw [HM.out]; rfl, below_drewN HBW2.out _⟩
          | true =>
            rcases Nat.eq_zero_or_pos m with h0 | h0
            · have hz0 : decide ((0 : Int) < (m : Int)) = false := by rw [decide_eq_false_iff_not]; omega
              have hz1 : decide (0 < m) = false := by rw [decide_eq_false_iff_not]; omega
              have HN := Lib.hid (show ∀ i, i < m + 1 → WordOk c.by' i from fun i h => by
                obtain rfl : i = 0 := by omega
                intro v hv
                rw [← h0, HSK.out] at hv
                cases hv
                exact ⟨HZ.out.symm, fun r hr => by omega⟩)
              clear h0
              go_wp2_with fail
              go_quiet ((go_at_call 29; exact Calls.quiet_of_same ((HW.out _).mono fun _ _ h => ⟨h.1, h.2.symm⟩)))
              go_wp2
              go_roundw
              case rel => exact ⟨m + 1, by omega, by go_num, HN, Lib.hid (below_drewN HB2.out _)⟩
              case measure => simp [intOf] <;> omega
            · obtain ⟨p, rfl⟩ : ∃ p, m = p + 1 := ⟨m - 1, by omega⟩
              obtain ⟨r, hr⟩ : ∃ r, c.by'[p]? = some r := ⟨_, List.getElem?_eq_getElem (by omega)⟩
              have HRK := Lib.hid hr
              have d0 := HC.out p r hr 0 _ rfl
              simp only [bK, Nat.add_zero, Nat.mul_one] at d0
              have hp0 : (0 : Int) ≤ (p : Int) := by omega
              have hp1 : (p : Int) < (c.by'.length : Int) := by omega
              have hp2 : (0 : Int) < (p : Int) + 1 := by omega
              have hp3 : (p : Int) + 1 - 1 = (p : Int) := by omega
              have hp4 : (p : Int) + 1 < (c.by'.length : Int) := by omega
              clear hr h0
              cases hL : Op.bytesLess r.toList s.toList with
              | true =>
                have HN := Lib.hid (show ∀ i, i < p + 1 + 1 → WordOk c.by' i from fun i h => by
                  rcases Nat.lt_or_ge i (p + 1) with h1 | h1
                  · exact HE2.out i h1
                  · obtain rfl : i = p + 1 := by omega
                    intro v hv
                    rw [HSK.out] at hv
                    cases hv
                    refine ⟨HZ.out.symm, fun q _ hq => ?_⟩
                    rw [show p + 1 - 1 = p by omega, HRK.out] at hq
                    cases hq
                    rw [← hL, Lib.toList_data, Lib.toList_data]
                    rfl)
                go_wp2_with fail
                go_quiet ((go_at_call 29; exact Calls.quiet_of_same ((HW.out _).mono fun _ _ h => ⟨h.1, h.2.symm⟩)))
                go_wp2
                go_roundw
                case rel => exact ⟨p + 1 + 1, by omega, by go_num, HN, Lib.hid (below_drewN HB2.out _)⟩
                case measure => simp [intOf] <;> omega
              | false =>
                have HM := Lib.hid (mayC_by HARG.out (fun h => by
                  have := (h.each (p + 1) s HSK.out).2 r (by omega) (by rw [show p + 1 - 1 = p by omega]; exact HRK.out)
                  rw [Lib.toList_data, Lib.toList_data] at hL
                  have e : ltN r.data.toList s.data.toList = false := hL
                  rw [e] at this
                  cases this))
                go_wp2_with fail
                go_quiet ((go_at_call 29; exact Calls.quiet_of_same ((HW.out _).mono fun _ _ h => ⟨h.1, h.2.symm⟩)))
                go_wp2
                go_ret
                exact ⟨by rw [HM.out]; rfl, below_drewN HBW2.out _⟩
        · have hge : decide ((m : Int) < (c.by'.length : Int)) = false := by rw [decide_eq_false_iff_not]; omega
          have hge2 : ¬ ((m : Int) < (c.by'.length : Int)) := by omega
          have HM := Lib.hid (mayC_ok HARG.out ⟨by omega, fun i => by
            rcases Nat.lt_or_ge i m with h | h
            · exact HE2.out i h
            · intro t ht
              have := (List.getElem?_eq_some_iff.1 ht).1
              omega⟩)
          clear hz
          go_wp2
          go_ret
          exact ⟨by rw [HM.out]; rfl, HBW2.out⟩
end Go.Proofs.YtnbghappfclnjaaGreat
