/- The program's apart: are no two targets of one Job and Host? -/
import Derived.Test.YtnbghappfclnjaaGreatCfWho
namespace Go.Proofs.YtnbghappfclnjaaGreat
open Go.RowKit

def AppL (l : List Tg) (k : Nat) : Prop := ∀ (i : Nat) (t : Tg) (j : Nat) (u : Tg), i < k → l[i]? = some t → j < i → l[j]? = some u → ¬ (u.job = t.job ∧ u.host = t.host)
def SeenP (l : List Tg) (k : Nat) (j h : ByteArray) : Prop := ∃ (i : Nat) (t : Tg), i < k ∧ l[i]? = some t ∧ t.job = j ∧ t.host = h
theorem seen_step {l : List Tg} {k : Nat} {t : Tg} (ht : l[k]? = some t) (j h : ByteArray) : ((j = t.job ∧ h = t.host) ∨ SeenP l k j h) ↔ SeenP l (k + 1) j h := by
  constructor
  · rintro (⟨rfl, rfl⟩ | ⟨i, u, h1, h2, h3⟩)
    · exact ⟨k, t, by omega, ht, rfl, rfl⟩
    · exact ⟨i, u, by omega, h2, h3⟩
  · rintro ⟨i, u, h1, h2, rfl, rfl⟩
    by_cases e : i = k
    · subst e
      rw [ht] at h2
      cases h2
      exact .inl ⟨rfl, rfl⟩
    · exact .inr ⟨i, u, by omega, h2, rfl, rfl⟩
theorem app_step {l : List Tg} {k : Nat} {t : Tg} (h : AppL l k) (ht : l[k]? = some t) (hn : ¬ SeenP l k t.job t.host) : AppL l (k + 1) := by
  intro i u j v hi hu hj hv ⟨e1, e2⟩
  by_cases e : i = k
  · subst e
    rw [ht] at hu
    cases hu
    exact hn ⟨j, v, hj, hv, e1, e2⟩
  · exact h i u j v (by omega) hu hj hv ⟨e1, e2⟩
theorem app_not {l : List Tg} {k : Nat} {t : Tg} (ht : l[k]? = some t) (hk : k < l.length) (hn : SeenP l k t.job t.host) : ¬ AppL l l.length := by
  intro h
  obtain ⟨j, u, hj, hu, e1, e2⟩ := hn
  exact h k t j u hk ht hj hu ⟨e1, e2⟩
open Classical in
noncomputable def appB (l : List Tg) : Bool := decide (AppL l l.length)
theorem appB_iff {l : List Tg} : appB l = true ↔ AppL l l.length := by unfold appB; simp
theorem appB_no {l : List Tg} (h : ¬ AppL l l.length) : appB l = false := by
  cases e : appB l with
  | false => rfl
  | true => exact absurd (appB_iff.1 e) h
set_option maxRecDepth 100000 in
set_option maxHeartbeats 4000000 in
theorem apart_any (A : Option Addr) (l : List Tg) (cap : Nat) (w : World) (hr : tK.Reads w w.heap.size A l) (hlen : l.length ≤ 1000) (hsz : ∀ t ∈ l, t.size ≤ 6000) :
    Calls Tryz.prog 43 #[.slice A l.length cap] w fun e w' => e = .returned (.bool (appB l)) ∧ Below w.heap.size w w' := by
  have HR := Lib.hid hr
  have HZ := Lib.hid hsz
  clear hr hsz
  obtain ⟨n, hn⟩ : ∃ n, n = l.length := ⟨_, rfl⟩
  rw [← hn] at hlen ⊢
  have HN := Lib.hid hn
  clear hn
  have hmm := @run_makeMap Tryz.prog
  go_enter Tryz.func43, Tryz.ntmps43
  go_wp2_with fail
  have HS0 : Hid (SetV (w.alloc (.map #[] 0)) w.heap.size (SeenP l 0) 0) := Lib.hid ((SetV.made w).congr fun j h => ⟨fun e => e.elim, fun ⟨i, t, hi, _⟩ => absurd hi (by omega)⟩)
  have HB0 := Lib.hid ((Below.refl w.heap.size w).alloc (Nat.le_refl _) (.map #[] 0))
  go_loopw [12] (fun i wr => ∃ k : Nat, k ≤ n ∧ i = .int .i64 k ∧ Hid (Below w.heap.size w wr) ∧ Hid (SetV wr w.heap.size (SeenP l k) k) ∧ Hid (AppL l k)) (fun i _ => n - (intOf i).toNat)
  case atStart => exact ⟨0, Nat.zero_le _, rfl, HB0, HS0, Lib.hid fun i t j u hi => absurd hi (by omega)⟩
  case round =>
    obtain ⟨k, hk, rfl, HB, HS, HP⟩ := hrel
    by_cases hlt : k < n
    · obtain ⟨t, ht⟩ : ∃ t, l[k]? = some t := ⟨_, List.getElem?_eq_getElem (by rw [← HN.out]; exact hlt)⟩
      have hts := HZ.out t (List.mem_of_getElem? ht)
      obtain ⟨b, off, hA, hb, hc⟩ := (HR.out.below HB.out).at tOk (by rw [← HN.out]; omega)
      have c0 := hc k t ht 0 _ rfl
      have c1 := hc k t ht 1 _ rfl
      have c2 := hc k t ht 2 _ rfl
      have c3 := hc k t ht 3 _ rfl
      have c4 := hc k t ht 4 _ rfl
      simp only [tK, Nat.add_zero] at c0 c1 c2 c3 c4
      rw [← Nat.add_assoc] at c1 c2 c3 c4
      have HT := Lib.hid ht
      subst hA
      clear hc ht hb
      have hlt' : (k : Int) < (n : Int) := by omega
      have hj : t.job.size ≤ maxLen := by unfold Tg.size at hts; unfold maxLen; omega
      have hh : t.host.size ≤ maxLen := by unfold Tg.size at hts; unfold maxLen; omega
      have t1 := Turns.alloc (F := []) wr (.cells #[.string t.job, .string t.host, .string t.path, .int .i64 t.iv, .int .i64 t.tm] 30)
      have t2 := Turns.alloc (F := []) (wr.alloc (.cells #[.string t.job, .string t.host, .string t.path, .int .i64 t.iv, .int .i64 t.tm] 30)) (.cells #[.string t.job, .string t.host] 71)
      have t3 := Turns.alloc (F := []) ((wr.alloc (.cells #[.string t.job, .string t.host, .string t.path, .int .i64 t.iv, .int .i64 t.tm] 30)).alloc (.cells #[.string t.job, .string t.host] 71)) (.cells #[] 72)
      have s2 := (HS.out.turns t1 (by simp)).turns t2 (by simp)
      have s3 := s2.turns t3 (by simp)
      obtain ⟨r, hlook, hr⟩ := s2.look hj hh
      obtain ⟨w4, hst, s4, t4⟩ := s3.store (by unfold maxLen; omega) hj hh
      have HNO := Lib.hid (fun e : r = true => show appB l = false from appB_no (app_not HT.out (by rw [← HN.out]; exact hlt) (hr.1 e)))
      have HST := Lib.hid (fun e : r = false => app_step HP.out HT.out (fun h => by rw [hr.2 h] at e; cases e))
      have hlow := HB.out.size
      have HB3 := Lib.hid (HB.out.trans ((((t1.trans t2 (by simp)).trans t3 (by simp)).below (B := w.heap.size) (by simp) hlow)))
      have HS4 := Lib.hid (s4.congr (seen_step HT.out))
      have HB4 := Lib.hid (HB.out.trans (Turns.below (B := w.heap.size) ((((t1.trans t2 (by simp)).trans t3 (by simp)).mono (G := [w.heap.size]) (by simp)).trans t4 (fun i hi => .inl hi)) (by simp) hlow))
      clear t1 t2 t3 s2 s3 s4 t4 hr hts hlow
      have hxx := Tryz.underlying72
      cases r with
      | true =>
        have HE := Lib.hid (HNO.out rfl)
        go_wp2_with fail
        go_ret
        exact ⟨by rw [HE.out]; rfl, HB3.out⟩
      | false =>
        have HE := Lib.hid (HST.out rfl)
        go_wp2_with fail
        go_roundw
        case rel => exact ⟨k + 1, by omega, by go_num, HB4, HS4, HE⟩
        case measure => simp [intOf] <;> omega
    · have hge : decide ((k : Int) < (n : Int)) = false := by simp; omega
      have HE := Lib.hid (show appB l = true from appB_iff.2 (by
        obtain rfl : k = n := by omega
        rw [← HN.out]
        exact HP.out))
      go_wp2_with fail
      go_ret
      exact ⟨by rw [HE.out]; rfl, HB.out⟩
end Go.Proofs.YtnbghappfclnjaaGreat
