/- The program's Labels and Name. -/
import Derived.Test.YtnbghappfclnjaaCfNamesP
import Derived.Test.YtnbghappfclnjaaCloneStr
import Derived.Deep.RegionHeld3
namespace Go.Proofs.Ytnbghappfclnjaa
open Go.RowKit

theorem tlAt_reads {w : World} {g n : Nat} {t : Tg} (h : TlAt w g t) (hg : g < n) : LReads w n (some ⟨g, 0, none⟩) (tlabs t) := by
  obtain ⟨h0, h1, h2, h3⟩ := h
  refine .inr ⟨g, 0, rfl, hg, fun i u hi => ?_⟩
  match i, hi with
  | 0, hi => cases hi; simpa [strV] using h0
  | 1, hi =>
    have e : u = strV t.host.data.toList := by cases hi; rfl
    rw [e, strV_of]
    simpa using h1
  | 2, hi => cases hi; simpa [strV] using h2
  | 3, hi =>
    have e : u = strV t.job.data.toList := by cases hi; rfl
    rw [e, strV_of]
    simpa using h3
  | i + 4, hi => cases hi
set_option maxRecDepth 100000 in
set_option maxHeartbeats 2000000 in
theorem labels_any : LabelsP := by
  intro t w hj hh
  have HC1 := Lib.hid (Boxed.call (w := w) (t := t) (fun W => clone_str t.host W (by omega)))
  have HC2 := Lib.hid (Boxed.call (w := w) (t := t) (fun W => clone_str t.job W (by omega)))
  have HQ0 : Hid (Boxed w t (w.alloc (.cells #[.string t.job, .string t.host, .string t.path, .int .i64 t.iv, .int .i64 t.tm] 23))) := Lib.hid ⟨TgAt.new w t, Below.box (Below.refl _ _), by simp⟩
  have HE := Lib.hid (fun (W : World) (h : Hid (Boxed w t W)) => show (∃ g cap, Ending.returned (.slice (some ⟨W.heap.size, 0, none⟩) 2 2) = .returned (.slice (some ⟨g, 0, none⟩) 2 cap) ∧ g < (W.alloc (.cells #[.string ⟨#[105, 110, 115, 116, 97, 110, 99, 101]⟩, .string t.host, .string ⟨#[106, 111, 98]⟩, .string t.job] 33)).heap.size ∧ TlAt (W.alloc (.cells #[.string ⟨#[105, 110, 115, 116, 97, 110, 99, 101]⟩, .string t.host, .string ⟨#[106, 111, 98]⟩, .string t.job] 33)) g t) ∧ Below w.heap.size w (W.alloc (.cells #[.string ⟨#[105, 110, 115, 116, 97, 110, 99, 101]⟩, .string t.host, .string ⟨#[106, 111, 98]⟩, .string t.job] 33)) from
    ⟨⟨W.heap.size, 2, rfl, by simp, by unfold TlAt; simp⟩, h.out.below.alloc (Nat.le_of_lt h.out.more) _⟩)
  clear hj hh
  obtain ⟨j, h, p, iv, tm⟩ := t
  unfold Tg.val
  simp only at *
  have HSK := Lib.hid (fun (w' : World) (hq : Hid (Boxed w ⟨j, h, p, iv, tm⟩ w')) => show w'.cell? ⟨w.heap.size, 0, none⟩ = some (.string j) ∧ w'.cell? ⟨w.heap.size, 1, none⟩ = some (.string h) ∧ Hid (Boxed w ⟨j, h, p, iv, tm⟩ w') from ⟨hq.out.at_.1, hq.out.at_.2.1, hq⟩)
  go_enter Try.func12, Try.ntmps12
  go_upto_region 1 with fail
  generalize w.alloc (.cells #[.string j, .string h, .string p, .int .i64 iv, .int .i64 tm] 23) = w0 at HQ0 ⊢
  have HQd : Hid (Boxed w ⟨j, h, p, iv, tm⟩ w0.drew) := Lib.hid HQ0.out.drew
  obtain ⟨a0, a1, -⟩ := HSK.out _ HQ0
  go_region_law ((first | (go_simp; go_at_call_of 23 (Value.string h); refine (HC1.out _ (by assumption)).mono ?_; rintro e w2 ⟨rfl, hq2⟩; obtain ⟨c0, c1, -⟩ := HSK.out _ hq2) | (go_simp; go_at_call 23; refine (HC2.out _ (by assumption)).mono ?_; rintro e w3 ⟨rfl, hq3⟩; obtain ⟨d0, d1, -⟩ := HSK.out _ hq3)))
  all_goals
    go_wp2
    go_ret
    exact HE.out _ (by assumption)
set_option maxRecDepth 100000 in
set_option maxHeartbeats 2000000 in
theorem name13_any : NameP13 := by
  intro m t w hm hj hh
  have HL := Lib.hid (fun W => labels_any t W (by omega) (by omega))
  have HN := Lib.hid (fun g cap W (h : TlAt W g t) hg => name_any (some ⟨g, 0, none⟩) cap m (tlabs t) W (by omega) (by simp [tlabs]) (tlabs_small (by omega) (by omega)) (tlAt_reads h hg))
  obtain ⟨r, hr⟩ : ∃ r, r = nameP m.data.toList (tlabs t) := ⟨_, rfl⟩
  rw [← hr] at HN ⊢
  clear hr hm hj hh
  obtain ⟨j, h, p, iv, tm⟩ := t
  unfold Tg.val at *
  simp only at *
  go_enter Try.func13, Try.ntmps13
  go_wp2_with fail
  refine (HL.out _).mono ?_
  rintro e w1 ⟨⟨g, cap, rfl, hg, hat⟩, hb⟩
  have HB1 : Hid (Below w.heap.size w w1) := Lib.hid (Below.box hb)
  have HS1 : Hid (w.heap.size ≤ w1.heap.size) := Lib.hid HB1.out.size
  have HN1 := Lib.hid (HN.out g cap w1 hat hg)
  change Hid (Calls _ _ #[.string m, .slice (some ⟨g, 0, none⟩) 2 cap] _ _) at HN1
  clear hg hat hb
  go_wp2_with fail
  refine HN1.out.mono ?_
  rintro e w2 ⟨rfl, hb⟩
  have HB2 := Lib.hid (HB1.out.trans (hb.mono HS1.out))
  clear hb
  go_wp2
  go_ret
  exact ⟨rfl, HB2.out⟩
end Go.Proofs.Ytnbghappfclnjaa
