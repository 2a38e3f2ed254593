/- ConfigNames' walk, over what the program's Labels, Name and the law's known answer. -/
import Derived.Test.YtnbghappfclnjaaCfNamesP
import Derived.Test.YtnbghappfclnjaaCfRName
import Derived.Deep.RegionHeld3
namespace Go.Proofs.Ytnbghappfclnjaa
open Go.RowKit

/-- Both boxes are there. -/
structure Boxed2 (w : World) (g : Nat) (t : Tg) (w' : World) : Prop where
  box : Boxed w t w'
  lt : g < w'.heap.size
  at_ : TlAt w' g t
theorem Boxed2.next {w W W' : World} {g : Nat} {t : Tg} (h : Boxed2 w g t W) (hb : Below W.heap.size W W') : Boxed2 w g t W' :=
  ⟨h.box.next hb, Nat.lt_of_lt_of_le h.lt hb.size, h.at_.keep hb h.lt⟩
theorem Boxed2.call {w : World} {t : Tg} {g f : Nat} {args : Array Value} {v : Ending} (h : ∀ W, Calls Try.prog f args W fun e w' => e = v ∧ Below W.heap.size W w') (W : World) (hq : Hid (Boxed2 w g t W)) : Calls Try.prog f args W fun e w' => e = v ∧ Hid (Boxed2 w g t w') :=
  (h W).mono fun _ _ ⟨h1, h2⟩ => ⟨h1, hq.out.next h2⟩
theorem Boxed2.drew {w W : World} {g : Nat} {t : Tg} (h : Boxed2 w g t W) : Boxed2 w g t W.drew := ⟨h.box.drew, h.lt, h.at_⟩

set_option maxRecDepth 100000 in
set_option maxHeartbeats 1000000 in
theorem names_early (HK : Known13) (m : ByteArray) (t : Tg) (w : World) (h : 3000 < (m.size : Int) + (t.job.size : Int) + (t.host.size : Int)) (hm : (m.size : Int) ≤ 281474976710656) (hj : (t.job.size : Int) ≤ 281474976710656) (hh : (t.host.size : Int) ≤ 281474976710656) :
    Calls Try.prog 4 #[.string m, t.val] w (Fin w) := by
  have HK1 := Lib.hid HK
  clear HK
  unfold Tg.val
  have h2 : (m.size : Int) + (t.job.size : Int) ≤ 562949953421312 := by omega
  have h3 : (m.size : Int) + (t.job.size : Int) + (t.host.size : Int) ≤ 844424930131968 := by omega
  go_enter Try.func4, Try.ntmps4
  go_wp2_with fail
  refine (HK1.out _).mono ?_
  rintro e w1 ⟨rfl, hb⟩
  have hbel : Below w.heap.size w w1 := Below.box hb
  clear hb
  go_wp2
  go_ret
  exact ⟨rfl, hbel⟩
set_option maxRecDepth 100000 in
set_option maxHeartbeats 4000000 in
theorem names_main (HL : LabelsP) (HN : NameP13) (HK : Known13) (m : ByteArray) (t : Tg) (w : World) (h : m.size + t.job.size + t.host.size ≤ 3000) :
    Calls Try.prog 4 #[.string m, t.val] w (Fin w) := by
  have h1 : decide (3000 < (m.size : Int) + (t.job.size : Int) + (t.host.size : Int)) = false := by rw [decide_eq_false_iff_not]; omega
  have h2 : (m.size : Int) + (t.job.size : Int) ≤ 3000 := by omega
  have h3 : (m.size : Int) + (t.job.size : Int) + (t.host.size : Int) ≤ 3000 := by omega
  obtain ⟨T, hT⟩ : ∃ T : ByteArray, T = ⟨(nameS (nameP m.data.toList (tlabs t))).toArray⟩ := ⟨_, rfl⟩
  have HN1 := Lib.hid (fun W => HN m t W (by omega) (by omega) (by omega))
  have HN2 := Lib.hid (fun W => rname13_any m t W (by omega) (by omega) (by omega))
  rw [← hT] at HN1 HN2
  have HL1 := Lib.hid (fun W => HL t W (by omega) (by omega))
  have HK1 := Lib.hid HK
  clear hT HL HN HK h
  obtain ⟨j, h, p, iv, tm⟩ := t
  unfold Tg.val at *
  simp only at *
  have HQ0 : Hid (Boxed w ⟨j, h, p, iv, tm⟩ (w.alloc (.cells #[.string j, .string h, .string p, .int .i64 iv, .int .i64 tm] 23))) := Lib.hid ⟨TgAt.new w ⟨j, h, p, iv, tm⟩, Below.box (Below.refl _ _), by simp⟩
  go_enter Try.func4, Try.ntmps4
  go_wp2_with fail
  refine (HL1.out _).mono ?_
  rintro e w1 ⟨⟨g, cap, rfl, hg, hat⟩, hb⟩
  have HQ1 : Hid (Boxed2 w g ⟨j, h, p, iv, tm⟩ w1) := Lib.hid ⟨HQ0.out.next hb, hg, hat⟩
  have HQ1d : Hid (Boxed2 w g ⟨j, h, p, iv, tm⟩ w1.drew) := Lib.hid HQ1.out.drew
  clear hb hg hat
  have HN1 := Lib.hid (Boxed2.call (w := w) (g := g) (t := ⟨j, h, p, iv, tm⟩) HN1.out)
  have HN2 := Lib.hid (Boxed2.call (w := w) (g := g) (t := ⟨j, h, p, iv, tm⟩) HN2.out)
  have HK1 := Lib.hid (Boxed2.call (w := w) (g := g) (t := ⟨j, h, p, iv, tm⟩) HK1.out)
  have HSK := Lib.hid (fun (w' : World) (hq : Hid (Boxed2 w g ⟨j, h, p, iv, tm⟩ w')) => show w'.cell? ⟨w.heap.size, 0, none⟩ = some (.string j) ∧ w'.cell? ⟨w.heap.size, 1, none⟩ = some (.string h) ∧ w'.cell? ⟨w.heap.size, 2, none⟩ = some (.string p) ∧ w'.cell? ⟨w.heap.size, 3, none⟩ = some (.int .i64 iv) ∧ w'.cell? ⟨w.heap.size, 4, none⟩ = some (.int .i64 tm) ∧ w'.cell? ⟨g, 0, none⟩ = some (.string ⟨#[105, 110, 115, 116, 97, 110, 99, 101]⟩) ∧ w'.cell? ⟨g, 1, none⟩ = some (.string h) ∧ w'.cell? ⟨g, 2, none⟩ = some (.string ⟨#[106, 111, 98]⟩) ∧ w'.cell? ⟨g, 3, none⟩ = some (.string j) ∧ Hid (Boxed2 w g ⟨j, h, p, iv, tm⟩ w') from ⟨hq.out.box.at_.1, hq.out.box.at_.2.1, hq.out.box.at_.2.2.1, hq.out.box.at_.2.2.2.1, hq.out.box.at_.2.2.2.2, hq.out.at_.1, hq.out.at_.2.1, hq.out.at_.2.2.1, hq.out.at_.2.2.2, hq⟩)
  obtain ⟨a0, a1, a2, a3, a4, b0, b1, b2, b3, -⟩ := HSK.out _ HQ1
  go_wp2_with fail
  refine wp_region_noPanic ?_
  first | go_region_held (fun w' => w'.cell? ⟨w.heap.size, 0, none⟩ = some (.string j) ∧ w'.cell? ⟨w.heap.size, 1, none⟩ = some (.string h) ∧ w'.cell? ⟨w.heap.size, 2, none⟩ = some (.string p) ∧ w'.cell? ⟨w.heap.size, 3, none⟩ = some (.int .i64 iv) ∧ w'.cell? ⟨w.heap.size, 4, none⟩ = some (.int .i64 tm) ∧ w'.cell? ⟨g, 0, none⟩ = some (.string ⟨#[105, 110, 115, 116, 97, 110, 99, 101]⟩) ∧ w'.cell? ⟨g, 1, none⟩ = some (.string h) ∧ w'.cell? ⟨g, 2, none⟩ = some (.string ⟨#[106, 111, 98]⟩) ∧ w'.cell? ⟨g, 3, none⟩ = some (.string j) ∧ Hid (Boxed2 w g ⟨j, h, p, iv, tm⟩ w')) (first | exact HSK.out _ HQ1d | (refine HSK.out _ ?_; assumption) | (refine HSK.out _ ?_; go_split_ands; assumption)) ((first | (go_at_call 13; refine (HN1.out _ (by go_split_ands; assumption)).mono ?_; rintro e w2 ⟨rfl, hq2⟩) | (go_at_call 14; refine (HN2.out _ (by go_split_ands; assumption)).mono ?_; rintro e w3 ⟨rfl, hq3⟩) | (go_at_call 6; refine (HK1.out _ (by go_split_ands; assumption)).mono ?_; rintro e w4 ⟨rfl, hq4⟩))) | fail "region"
  all_goals
    refine NoPanic.normal ?_
    go_wp2
    go_ret
    exact ⟨by first | rfl | simp, hq4.out.box.below⟩
end Go.Proofs.Ytnbghappfclnjaa
