/- WheelPlays, walked. -/
import Derived.Test.YtaepgcicgmbbeaaWhDo1
import Derived.Test.YtaepgcicgmbbeaaWhDo2
import Derived.Test.YtaepgcicgmbbeaaWhDo3
import Derived.Test.YtaepgcicgmbbeaaWhDo4
import Derived.Test.YtaepgcicgmbbeaaWhLook
namespace Go.Proofs.Ytaepgcicgmbbeaa
open Go.RowKit

abbrev Ac := Int × Int × Int
def aK : EK Ac := ⟨22, 32, 3, 24, .agg #[.int .i64 0, .int .i64 0, .int .i64 0], fun x => [.int .i64 x.1, .int .i64 x.2.1, .int .i64 x.2.2]⟩
theorem aOk : aK.Ok Try.prog := ⟨Try.underlying22, by kernel_rfl, rfl, by decide, by decide, fun _ => rfl, fun x u hu => by simp [aK] at hu; rcases hu with rfl | rfl | rfl <;> rfl⟩
def In64 (x : Int) : Prop := -9223372036854775808 ≤ x ∧ x ≤ 9223372036854775807
def Acts (l : List Ac) : Prop := ∀ x ∈ l, In64 x.1 ∧ In64 x.2.1 ∧ In64 x.2.2
theorem do_any {w : Base} {X : World} {bw rv : Nat} {T : Int} {L : List Fi} (h : PairW w X bw rv T L) (hok : WOk T L) (hL : L.length ≤ 900) (x : Ac) (hx : In64 x.1 ∧ In64 x.2.1 ∧ In64 x.2.2) :
    Calls Try.prog 9 #[.pointer (some ⟨bw, 0, none⟩), .pointer (some ⟨rv, 0, none⟩), .agg #[.int .i64 x.1, .int .i64 x.2.1, .int .i64 x.2.2]] X (DoP w bw rv L) := by
  obtain ⟨k, i, a⟩ := x
  obtain ⟨_, hi, ha⟩ := hx
  by_cases h1 : k = 1
  · subst h1; exact do_1 h hok hL i a hi ha
  by_cases h2 : k = 2
  · subst h2; exact do_2 h hok hL i a hi
  by_cases h3 : k = 3
  · subst h3; exact do_3 h hok hL i a ha
  by_cases h4 : k = 4
  · subst h4; exact do_4 h hok hL i a hi
  exact do_x h hok k i a h1 h2 h3 h4
/-- Both made. -/
theorem pair_start {w X : World} {bw : Nat} {T : Int} (h : Lone w X bw T []) : PairW (.plain w) (X.alloc (.cells #[.int .i64 T, .slice none 0 0] 29)) bw X.heap.size T [] := by
  obtain ⟨F, a, b⟩ := h
  have ht : Turns [] X (X.alloc (.cells #[.int .i64 T, .slice none 0 0] 29)) := Turns.alloc _ _
  exact ⟨F, none, 0, a.pre ht, ⟨heap_alloc_new X _, .inl rfl, b.size, .inl ⟨rfl, rfl⟩, Nat.le_refl _⟩, fun hm => by have := (a.1 _ hm).2; omega, by simp [blkA], b.then ht, Stay.plain (b.then ht).size _⟩
set_option maxRecDepth 100000 in
set_option maxHeartbeats 2000000 in
theorem plays_early (T : Int) (A0 : Option Addr) (n c : Nat) (w : World) (h : 80 < n) :
    Calls Try.prog 3 #[.int .i64 T, .slice A0 n c] w (Fin w) := by
  have HK := Lib.hid (known_any w)
  have e1 : decide ((80 : Int) < (n : Int)) = true := by simp; omega
  clear h
  go_enter Try.func3, Try.ntmps3
  go_wp2_with fail
  refine (Hid.out HK).mono ?_
  rintro e w1 ⟨rfl, t1⟩
  have HT := Lib.hid t1
  clear t1
  go_wp2
  go_ret
  exact ⟨rfl, HT.out⟩
set_option maxRecDepth 100000 in
set_option maxHeartbeats 8000000 in
theorem plays_main (T : Int) (A0 : Option Addr) (c : Nat) (l : List Ac) (w : World) (hl : l.length ≤ 80) (hr : aK.Reads w w.heap.size A0 l) (ha : Acts l) (hT : In64 T) :
    Calls Try.prog 3 #[.int .i64 T, .slice A0 l.length c] w (Fin w) := by
  have e1 : decide ((80 : Int) < (l.length : Int)) = false := by simp; omega
  have HN := Lib.hid (lone_new (w := w) (W := w) T (Turns.refl _ _))
  have HR := Lib.hid hr
  have HA := Lib.hid ha
  have HT := Lib.hid hT
  have HLE := Lib.hid hl
  clear hr ha hT hl
  go_enter Try.func3, Try.ntmps3
  go_wp2_with fail
  refine (Hid.out HN).mono ?_
  rintro e W1 ⟨rfl, h1⟩
  have HP0 := Lib.hid (pair_start h1)
  clear h1 HN e1
  go_wp2
  go_loopw [7] (fun u wr => ∃ k : Nat, u = .int .i64 (k : Int) ∧ k ≤ l.length ∧ Hid (∃ T' L, PairW (.plain w) wr w.heap.size W1.heap.size T' L ∧ WOk T' L ∧ L.length ≤ k)) (fun u _ => l.length - (intOf u).toNat)
  case atStart => exact ⟨0, rfl, Nat.zero_le _, Lib.hid ⟨T, [], HP0.out, ok_nil HT.out, Nat.le_refl _⟩⟩
  case round =>
    obtain ⟨k, rfl, hk, HQ⟩ := hrel
    obtain ⟨T', L, q1, q2, q3⟩ := HQ.out
    by_cases hlt : k < l.length
    · obtain ⟨x, hx⟩ : ∃ x, l[k]? = some x := ⟨_, List.getElem?_eq_getElem hlt⟩
      obtain ⟨b, o, rfl, hb, hcl⟩ := HR.out.at aOk (by omega)
      have hcx : ∀ Y, Turns [] w Y → Y.cell? ⟨b, o + k * 3, none⟩ = some (.int .i64 x.1) ∧ Y.cell? ⟨b, o + k * 3 + 1, none⟩ = some (.int .i64 x.2.1) ∧ Y.cell? ⟨b, o + k * 3 + 2, none⟩ = some (.int .i64 x.2.2) := fun Y ht =>
        ⟨(ht.cell hb (by simp) _).trans (hcl k x hx 0 _ rfl), (ht.cell hb (by simp) _).trans (hcl k x hx 1 _ rfl), (ht.cell hb (by simp) _).trans (hcl k x hx 2 _ rfl)⟩
      obtain ⟨d0, d1, d2⟩ := hcx wr q1.turns
      have HCX := Lib.hid hcx
      have hax := HA.out x (List.mem_of_getElem? hx)
      have HDO := Lib.hid (do_any q1 q2 (by have := HLE.out; omega) x hax)
      have HLK := Lib.hid (fun Y T2 L2 (hp : PairW (.plain w) Y w.heap.size W1.heap.size T2 L2) (ho : WOk T2 L2) (hl2 : L2.length ≤ L.length + 1) => look_any hp ho (by have := HLE.out; omega) x.2.1 hax.2.1)
      have HWK := Lib.hid (wrapS (i := k) (by have := HLE.out; omega))
      have HKL := Lib.hid hlt
      have HQ3 := Lib.hid q3
      have f2 : (k : Int) < (l.length : Int) := by omega
      have f3 : (0 : Int) ≤ (k : Int) := by omega
      clear hx hcl hax q1 q2 q3 hlt hb HQ hcx HP0
      go_wp2_with fail
      refine (Hid.out HDO).mono ?_
      rintro e Y ⟨rfl, T2, L2, p1, p2, p3⟩
      have HP1 := Lib.hid p1
      have HP2 := Lib.hid p2
      have HP3 := Lib.hid p3
      obtain ⟨-, d4, -⟩ := HCX.out Y p1.turns
      clear p1 p2 p3 d0 d1 d2 HDO
      go_wp2_with fail
      refine (HLK.out _ _ _ HP1.out HP2.out HP3.out).mono ?_
      rintro e Z ⟨rfl, tz⟩
      have HZ := Lib.hid (HP1.out.pre tz)
      clear tz d4
      go_wp2
      go_roundw
      case rel => exact ⟨k + 1, congrArg (Value.int .i64) HWK.out, HKL.out, Lib.hid ⟨T2, L2, HZ.out, HP2.out, by have := HP3.out; have := HQ3.out; omega⟩⟩
      case measure => exact measS HKL.out HWK.out
    · have hge : decide ((k : Int) < (l.length : Int)) = false := by simp; omega
      have HK := Lib.hid (known_any wr)
      have HTT := Lib.hid q1.turns
      clear q1 q2 q3 HQ HP0
      go_wp2_with fail
      refine (Hid.out HK).mono ?_
      rintro e Y ⟨rfl, ty⟩
      have HY := Lib.hid ty
      clear ty
      go_wp2
      go_ret
      exact ⟨rfl, HTT.out.then HY.out⟩
end Go.Proofs.Ytaepgcicgmbbeaa
