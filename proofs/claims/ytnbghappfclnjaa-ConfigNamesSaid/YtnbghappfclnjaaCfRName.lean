/- The document's Name of a target's series. -/
import Derived.Test.YtnbghappfclnjaaRefName
import Derived.Test.YtnbghappfclnjaaCfTlabs
namespace Go.Proofs.Ytnbghappfclnjaa
open Go.RowKit

theorem tlabs_perm (m : List UInt8) (t : Tg) : nameP m (tlabsR t) = nameP m (tlabs t) := nameP_perm (List.Perm.swap _ _ _)
theorem tlabsR_reads (w : World) (b : Nat) (j h : ByteArray) (p : ByteArray) (iv tm : Int) (hb : b = w.heap.size) : LReads (w.alloc (.cells #[.string ⟨#[106, 111, 98]⟩, .string j, .string ⟨#[105, 110, 115, 116, 97, 110, 99, 101]⟩, .string h] 33)) (w.alloc (.cells #[.string ⟨#[106, 111, 98]⟩, .string j, .string ⟨#[105, 110, 115, 116, 97, 110, 99, 101]⟩, .string h] 33)).heap.size (some ⟨b, 0, none⟩) (tlabsR ⟨j, h, p, iv, tm⟩) := by
  subst hb
  refine .inr ⟨w.heap.size, 0, rfl, by simp, fun i u hi => ?_⟩
  match i, hi with
  | 0, hi => cases hi; simp [strV]
  | 1, hi =>
    have e : u = strV j.data.toList := by cases hi; rfl
    rw [e, strV_of]
    simp
  | 2, hi => cases hi; simp [strV]
  | 3, hi =>
    have e : u = strV h.data.toList := by cases hi; rfl
    rw [e, strV_of]
    simp
  | i + 4, hi => cases hi
set_option maxRecDepth 100000 in
set_option maxHeartbeats 1000000 in
theorem rname13_any (m : ByteArray) (t : Tg) (w : World) (hm : m.size ≤ 1000000) (hj : t.job.size ≤ 1000000) (hh : t.host.size ≤ 1000000) :
    Calls Try.prog 14 #[.string m, t.val] w fun e w' => e = .returned (.string ⟨(nameS (nameP m.data.toList (tlabs t))).toArray⟩) ∧ Below w.heap.size w w' := by
  obtain ⟨N, hN⟩ : ∃ N, N = nameP m.data.toList (tlabs t) := ⟨_, rfl⟩
  have HN := Lib.hid (fun W hr => rname_any (some ⟨w.heap.size + 1, 0, none⟩) 2 m (tlabsR t) W hm (by simp [tlabsR]) (tlabsR_small hj hh) hr)
  rw [tlabs_perm, ← hN] at HN
  rw [← hN]
  clear hN hj hh
  obtain ⟨j, h, p, iv, tm⟩ := t
  have HR := Lib.hid (tlabsR_reads (w.alloc (.cells #[.string j, .string h, .string p, .int .i64 iv, .int .i64 tm] 23)) (w.heap.size + 1) j h p iv tm (by simp))
  unfold Tg.val
  go_enter Try.func14, Try.ntmps14
  go_wp2_with fail
  refine (HN.out _ HR.out).mono ?_
  rintro e w1 ⟨rfl, hb⟩
  have hbel : Below w.heap.size w w1 := (((Below.refl w.heap.size w).alloc (Nat.le_refl _) _).alloc (by simp) _).trans (hb.mono (by simp; omega))
  clear hb
  go_wp2
  go_ret
  exact ⟨rfl, hbel⟩
end Go.Proofs.Ytnbghappfclnjaa
