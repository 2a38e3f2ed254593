/- LabelParses: the walk. -/
import Derived.Test.YtpdmmnhmnmlogaaGreatLabKnown
import Derived.Test.YtpdmmnhmnmlogaaGreatLabOnlyW
namespace Go.Proofs.YtpdmmnhmnmlogaaGreat.labelParses
open Go.RowKit

def Fin (w : World) (e : Ending) (w' : World) : Prop := e = .returned (.bool true) ∧ Below w.heap.size w w'
theorem later {w w0 w1 : World} (h : Below w.heap.size w w0) (h1 : Below w0.heap.size w0 w1) : Below w.heap.size w w1 := h.trans (h1.mono h.size)
set_option maxRecDepth 100000 in
set_option maxHeartbeats 1000000 in
theorem early (s : ByteArray) (A1 A2 : Option Addr) (c1 c2 : Nat) (l : List Lbl) (bs : List (List UInt8)) (w : World) (hs : s.size ≤ 9223372036854775807) (hl : l.length ≤ 9223372036854775807) (hb : bs.length ≤ 9223372036854775807) (hh : hugeL l) (hr : LReads w w.heap.size A1 l) (h : 3000 < s.size ∨ muchP l = true ∨ 20 < bs.length) :
    Calls Tryz.prog 3 #[.string s, .slice A1 l.length c1, .slice A2 bs.length c2] w (Fin w) := by
  have HMU := Lib.hid (much_any A1 c1 l w hl hh hr)
  have HK := fun q => Lib.hid (known_yes w (w.drewN q) (below_drewN (Below.refl _ _) q))
  have HK0 := Lib.hid (known_yes w w (Below.refl _ _))
  clear hh hr
  by_cases h3 : 3000 < s.size
  · have h3' : decide (3000 < (s.size : Int)) = true := by simp; omega
    clear h
    go_enter Tryz.func3, Tryz.ntmps3
    go_wp2_with fail
    refine (Hid.out HK0).mono ?_
    rintro e w1 ⟨rfl, hb1⟩
    go_wp2
    go_ret
    exact ⟨rfl, hb1⟩
  · have h3' : decide (3000 < (s.size : Int)) = false := by simp; omega
    cases hm : muchP l with
    | true =>
      rw [hm] at HMU
      clear hm h
      go_enter Tryz.func3, Tryz.ntmps3
      go_wp2_with fail
      refine (Hid.out HMU).mono ?_
      rintro e w1 ⟨rfl, q, rfl⟩
      go_wp2_with fail
      refine (Hid.out (HK q)).mono ?_
      rintro e w1 ⟨rfl, hb1⟩
      go_wp2
      go_ret
      exact ⟨rfl, hb1⟩
    | false =>
      rw [hm] at HMU
      have h2 : decide (20 < (bs.length : Int)) = true := by
        rcases h with h | h | h
        · exact absurd h h3
        · rw [hm] at h; cases h
        · simp; omega
      clear hm h
      go_enter Tryz.func3, Tryz.ntmps3
      go_wp2_with fail
      refine (Hid.out HMU).mono ?_
      rintro e w1 ⟨rfl, q, rfl⟩
      go_wp2_with fail
      refine (Hid.out (HK q)).mono ?_
      rintro e w1 ⟨rfl, hb1⟩
      go_wp2
      go_ret
      exact ⟨rfl, hb1⟩
set_option maxRecDepth 100000 in
set_option maxHeartbeats 8000000 in
theorem main (s : ByteArray) (A1 A2 : Option Addr) (c1 c2 : Nat) (l : List Lbl) (bs : List (List UInt8)) (mx : Int) (w : World) (hs : s.size ≤ 3000) (hmu : muchP l = false) (hbs : bs.length ≤ 20) (hh : hugeL l) (hr : LReads w w.heap.size A1 l) (hrb : SReads w w.heap.size A2 bs) (hml : ML mx w) :
    Calls Tryz.prog 3 #[.string s, .slice A1 l.length c1, .slice A2 bs.length c2] w (Fin w) := by
  obtain ⟨hl, hsm⟩ := muchP_small hmu
  have HMU := Lib.hid (much_any A1 c1 l w (by omega) hh hr)
  rw [hmu] at HMU
  have HP : Hid (∀ W, Below w.heap.size w W → Calls Tryz.prog 6 #[.string s] W (PsPost (parseP s.data.toList) W)) := Lib.hid (fun W h => parse_any s mx W (by omega) (hml.below h (Nat.le_refl _)))
  have HRP : Hid (∀ W, Calls Tryz.prog 7 #[.string s] W (PsPost (parseP s.data.toList) W)) := Lib.hid (fun W => rparse_any s W hs)
  have HM : Hid (∀ W, Below w.heap.size w W → Calls Tryz.prog 9 #[.string s] W fun e w' => e = .returned (.bool (parseP s.data.toList).isSome) ∧ Below W.heap.size W w') := Lib.hid (fun W h => may_any s mx W (by omega) (hml.below h (Nat.le_refl _)))
  obtain ⟨T, code, HW, HRW⟩ : ∃ (T : ByteArray) (code : Int), Hid (∀ W, Below w.heap.size w W → Calls Tryz.prog 10 #[.string s, .slice A1 l.length c1] W fun e w' => e = .returned (.tuple #[.string T, .int .i64 code]) ∧ Below W.heap.size W w') ∧ Hid (∀ W, Below w.heap.size w W → Calls Tryz.prog 11 #[.string s, .slice A1 l.length c1] W fun e w' => e = .returned (.tuple #[.string T, .int .i64 code]) ∧ Below W.heap.size W w') :=
    ⟨_, _, Lib.hid (fun W h => with_any A1 c1 s l mx W (by omega) (hml.below h (Nat.le_refl _)) (by omega) hsm ((hr.below h).more h.size)), Lib.hid (fun W h => rwith_any A1 c1 s l W (by omega) (by omega) hsm ((hr.below h).more h.size))⟩
  obtain ⟨U, HO, HRO⟩ : ∃ U : ByteArray, Hid (∀ W, Below w.heap.size w W → Calls Tryz.prog 12 #[.string s, .slice A2 bs.length c2] W fun e w' => e = .returned (.string U) ∧ Below W.heap.size W w') ∧ Hid (∀ W, Below w.heap.size w W → Calls Tryz.prog 13 #[.string s, .slice A2 bs.length c2] W fun e w' => e = .returned (.string U) ∧ Below W.heap.size W w') :=
    ⟨_, Lib.hid (fun W h => only_any A2 c2 s bs mx W (by omega) (hml.below h (Nat.le_refl _)) (by omega) ((hrb.below h).more h.size)), Lib.hid (fun W h => ronly_any A2 c2 s bs W (by omega) (by omega) ((hrb.below h).more h.size))⟩
  have HG : Hid (∀ (n : ByteArray), ∃ (G : ByteArray) (g : Bool), (∀ W, Below w.heap.size w W → Calls Tryz.prog 14 #[.string s, .string n] W fun e w' => e = .returned (.tuple #[.string G, .bool g]) ∧ Below W.heap.size W w') ∧ (∀ W, Calls Tryz.prog 15 #[.string s, .string n] W fun e w' => e = .returned (.tuple #[.string G, .bool g]) ∧ Below W.heap.size W w')) :=
    Lib.hid (fun n => ⟨_, _, fun W h => get_any s n mx W (by omega) (hml.below h (Nat.le_refl _)), fun W => rget_any s n W hs⟩)
  have HK := Lib.hid (fun W (h : Below w.heap.size w W) => known_yes w W h)
  have HLL := Lib.hid (fun mm ls (h : parseP s.data.toList = some (mm, ls)) => (parseP_small h).1)
  have HRB := Lib.hid hrb
  obtain ⟨o, ho⟩ : ∃ o, o = parseP s.data.toList := ⟨_, rfl⟩
  rw [← ho] at HP HRP HM HLL
  have h3' : decide (3000 < (s.size : Int)) = false := by simp; omega
  have h2' : decide (20 < (bs.length : Int)) = false := by simp; omega
  clear hmu hh hr hsm hml ho hrb
  go_enter Tryz.func3, Tryz.ntmps3
  go_wp2_with fail
  refine (Hid.out HMU).mono ?_
  rintro e w1 ⟨rfl, q, rfl⟩
  have HB0 := Lib.hid (below_drewN (Below.refl w.heap.size w) q)
  obtain ⟨w0, hw0⟩ : ∃ w0, w0 = w.drewN q := ⟨_, rfl⟩
  rw [← hw0] at HB0 ⊢
  clear hw0
  go_wp2_with fail
  refine (HP.out w0 HB0.out).mono ?_
  rintro e w1 ⟨h1, hb1⟩
  have HB1 := Lib.hid (later HB0.out hb1)
  rcases h1 with ⟨mm, ls, v1, rfl, rfl, hown1⟩ | ⟨rfl, rfl⟩
  · have hls := HLL.out mm ls rfl
    obtain ⟨A3, c3, rfl, hrd3, _, _⟩ := hown1.reads
    have HR3 := Lib.hid hrd3
    clear hb1 hown1 hrd3
    go_wp2_with fail
    refine (HRP.out w1).mono ?_
    rintro e w2 ⟨h2, hb2⟩
    rcases h2 with ⟨mm', ls', v2, he, rfl, hown2⟩ | ⟨he, _⟩
    · cases he
      have HB2 := Lib.hid (later HB1.out hb2)
      obtain ⟨A4, c4, rfl, hrd4, _, _⟩ := hown2.reads
      have HSA := Lib.hid (same_any A3 A4 c3 c4 ls w2 (by omega) ((HR3.out.below hb2).more hb2.size) hrd4)
      clear hb2 hown2 hrd4
      go_wp2_with fail
      refine (Hid.out HSA).mono ?_
      rintro e w3 ⟨rfl, q3, rfl⟩
      have HB3 := Lib.hid (below_drewN HB2.out q3)
      obtain ⟨w3, hw3⟩ : ∃ w3, w3 = w2.drewN q3 := ⟨_, rfl⟩
      rw [← hw3] at HB3 ⊢
      clear hw3 HSA
      go_wp2_with fail
      refine (HM.out w3 HB3.out).mono ?_
      rintro e w4 ⟨rfl, hb4⟩
      have HB4 := Lib.hid (later HB3.out hb4)
      clear hb4
      go_wp2_with fail
      refine (HW.out w4 HB4.out).mono ?_
      rintro e w5 ⟨rfl, hb5⟩
      have HB5 := Lib.hid (later HB4.out hb5)
      clear hb5
      go_wp2_with fail
      refine (HRW.out w5 HB5.out).mono ?_
      rintro e w6 ⟨rfl, hb6⟩
      have HB6 := Lib.hid (later HB5.out hb6)
      clear hb6
      go_wp2_with fail
      refine (HO.out w6 HB6.out).mono ?_
      rintro e w7 ⟨rfl, hb7⟩
      have HB7 := Lib.hid (later HB6.out hb7)
      clear hb7
      go_wp2_with fail
      refine (HRO.out w7 HB7.out).mono ?_
      rintro e w8 ⟨rfl, hb8⟩
      have HB8 := Lib.hid (later HB7.out hb8)
      clear hb8 HP HRP HM HW HRW HO HRO HMU
      go_wp2
      go_loopw [17] (fun iv wr => ∃ k : Nat, k ≤ bs.length ∧ iv = .int .i64 k ∧ Hid (Below w.heap.size w wr)) (fun iv _ => bs.length - (intOf iv).toNat)
      case atStart => exact ⟨0, Nat.zero_le _, rfl, HB8⟩
      case round =>
        obtain ⟨k, hk, rfl, HBR⟩ := hrel
        by_cases hlt : k < bs.length
        · have hlt' : (k : Int) < (bs.length : Int) := by omega
          have hk0 : (0 : Int) ≤ (k : Int) := by omega
          obtain ⟨y, hy⟩ : ∃ y, bs[k]? = some y := ⟨_, List.getElem?_eq_getElem hlt⟩
          obtain ⟨b, off, rfl, hb, hc⟩ := HRB.out.at (by omega)
          have hc0 := hc k y hy
          unfold strV at hc0
          have HC0 := Lib.hid hc0
          have hc1 := (HBR.out.cell (p := ⟨b, off + k, none⟩) hb).trans hc0
          obtain ⟨G, g, hg1, hg2⟩ := HG.out ⟨y.toArray⟩
          have HG1 := Lib.hid (hg1 wr HBR.out)
          have HG2 := Lib.hid hg2
          clear hc hy hc0 hg1 hg2
          go_wp2_with fail
          refine (Hid.out HG1).mono ?_
          rintro e wa ⟨rfl, hba⟩
          have HBa := Lib.hid (later HBR.out hba)
          have hca := (HBa.out.cell (p := ⟨b, off + k, none⟩) hb).trans HC0.out
          clear hba
          go_wp2_with fail
          refine (HG2.out wa).mono ?_
          rintro e wb ⟨rfl, hbb⟩
          have HBb := Lib.hid (later HBa.out hbb)
          clear hbb hca hc1
          go_wp2
          go_roundw
          case rel => exact ⟨k + 1, by omega, by go_num, HBb⟩
          case measure => simp [intOf] <;> omega
        · have hge : decide ((k : Int) < (bs.length : Int)) = false := by simp; omega
          go_wp2_with fail
          refine (HK.out wr HBR.out).mono ?_
          rintro e w9 ⟨rfl, hb9⟩
          go_wp2
          go_ret
          exact ⟨rfl, hb9⟩
    · cases he
  · clear hb1
    go_wp2_with fail
    refine (HRP.out w1).mono ?_
    rintro e w2 ⟨h2, hb2⟩
    rcases h2 with ⟨mm', ls', v2, he, _⟩ | ⟨_, rfl⟩
    · cases he
    · have HB2 := Lib.hid (later HB1.out hb2)
      have HSA := Lib.hid (same_any none none 0 0 [] w2 (by simp) (.inl rfl) (.inl rfl))
      change Hid (Calls _ _ #[.slice none 0 0, .slice none 0 0] _ _) at HSA
      clear hb2
      go_wp2_with fail
      refine (Hid.out HSA).mono ?_
      rintro e w3 ⟨rfl, q3, rfl⟩
      have HB3 := Lib.hid (below_drewN HB2.out q3)
      obtain ⟨w3, hw3⟩ : ∃ w3, w3 = w2.drewN q3 := ⟨_, rfl⟩
      rw [← hw3] at HB3 ⊢
      clear hw3 HSA
      go_wp2_with fail
      refine (HM.out w3 HB3.out).mono ?_
      rintro e w4 ⟨rfl, hb4⟩
      have HB4 := Lib.hid (later HB3.out hb4)
      clear hb4
      go_wp2_with fail
      refine (HW.out w4 HB4.out).mono ?_
      rintro e w5 ⟨rfl, hb5⟩
      have HB5 := Lib.hid (later HB4.out hb5)
      clear hb5
      go_wp2_with fail
      refine (HRW.out w5 HB5.out).mono ?_
      rintro e w6 ⟨rfl, hb6⟩
      have HB6 := Lib.hid (later HB5.out hb6)
      clear hb6
      go_wp2_with fail
      refine (HO.out w6 HB6.out).mono ?_
      rintro e w7 ⟨rfl, hb7⟩
      have HB7 := Lib.hid (later HB6.out hb7)
      clear hb7
      go_wp2_with fail
      refine (HRO.out w7 HB7.out).mono ?_
      rintro e w8 ⟨rfl, hb8⟩
      have HB8 := Lib.hid (later HB7.out hb8)
      clear hb8 HP HRP HM HW HRW HO HRO HMU
      go_wp2
      go_loopw [17] (fun iv wr => ∃ k : Nat, k ≤ bs.length ∧ iv = .int .i64 k ∧ Hid (Below w.heap.size w wr)) (fun iv _ => bs.length - (intOf iv).toNat)
      case atStart => exact ⟨0, Nat.zero_le _, rfl, HB8⟩
      case round =>
        obtain ⟨k, hk, rfl, HBR⟩ := hrel
        by_cases hlt : k < bs.length
        · have hlt' : (k : Int) < (bs.length : Int) := by omega
          have hk0 : (0 : Int) ≤ (k : Int) := by omega
          obtain ⟨y, hy⟩ : ∃ y, bs[k]? = some y := ⟨_, List.getElem?_eq_getElem hlt⟩
          obtain ⟨b, off, rfl, hb, hc⟩ := HRB.out.at (by omega)
          have hc0 := hc k y hy
          unfold strV at hc0
          have HC0 := Lib.hid hc0
          have hc1 := (HBR.out.cell (p := ⟨b, off + k, none⟩) hb).trans hc0
          obtain ⟨G, g, hg1, hg2⟩ := HG.out ⟨y.toArray⟩
          have HG1 := Lib.hid (hg1 wr HBR.out)
          have HG2 := Lib.hid hg2
          clear hc hy hc0 hg1 hg2
          go_wp2_with fail
          refine (Hid.out HG1).mono ?_
          rintro e wa ⟨rfl, hba⟩
          have HBa := Lib.hid (later HBR.out hba)
          have hca := (HBa.out.cell (p := ⟨b, off + k, none⟩) hb).trans HC0.out
          clear hba
          go_wp2_with fail
          refine (HG2.out wa).mono ?_
          rintro e wb ⟨rfl, hbb⟩
          have HBb := Lib.hid (later HBa.out hbb)
          clear hbb hca hc1
          go_wp2
          go_roundw
          case rel => exact ⟨k + 1, by omega, by go_num, HBb⟩
          case measure => simp [intOf] <;> omega
        · have hge : decide ((k : Int) < (bs.length : Int)) = false := by simp; omega
          go_wp2_with fail
          refine (HK.out wr HBR.out).mono ?_
          rintro e w9 ⟨rfl, hb9⟩
          go_wp2
          go_ret
          exact ⟨rfl, hb9⟩
end Go.Proofs.YtpdmmnhmnmlogaaGreat.labelParses
