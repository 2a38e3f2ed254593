/- Which of the targets may not be: the program's slices.ContainsFunc over them. -/
import Derived.Test.YtnbghappfclnjaaGreatCfMayT13
import Derived.Test.YtnbghappfclnjaaGreatCfMem
namespace Go.Proofs.YtnbghappfclnjaaGreat
open Go.RowKit

theorem allT_step {l : List Tg} {k : Nat} {t : Tg} (h : l[k]? = some t) : (l.take (k + 1)).all Tg.may = ((l.take k).all Tg.may && t.may) := by
  rw [List.take_add_one, h]
  simp
theorem allT_no {l : List Tg} {k : Nat} {t : Tg} (h : l[k]? = some t) (hn : t.may = false) : l.all Tg.may = false := by
  cases hb : l.all Tg.may with
  | false => rfl
  | true => rw [List.all_eq_true.1 hb t (List.mem_of_getElem? h)] at hn; cases hn
set_option maxRecDepth 100000 in
set_option maxHeartbeats 1000000 in
theorem notT_any (t : Tg) (w : World) (hs : t.size ≤ 6000) :
    Calls Tryz.prog 41 #[t.val] w fun e w' => e = .returned (.bool (!t.may)) ∧ Below w.heap.size w w' := by
  have HM := Lib.hid (fun W => mayT_any t W hs)
  generalize t.may = z at HM ⊢
  clear hs
  obtain ⟨j, h, p, iv, tm⟩ := t
  unfold Tg.val at *
  go_enter Tryz.func41, Tryz.ntmps41
  go_wp2_with fail
  refine (HM.out _).mono ?_
  rintro e w1 ⟨rfl, hb⟩
  have HB := Lib.hid (Below.box hb)
  clear hb
  go_wp2
  go_ret
  exact ⟨rfl, HB.out⟩
set_option maxRecDepth 100000 in
set_option maxHeartbeats 4000000 in
theorem indexT_any (A : Option Addr) (l : List Tg) (cap : Nat) (w : World) (hr : tK.Reads w w.heap.size A l) (hlen : l.length ≤ 1000) (hsz : ∀ t ∈ l, t.size ≤ 6000) :
    Calls Tryz.prog 64 #[.slice A l.length cap, .func (.func 41) #[] #[]] w fun e w' => (∃ r : Int, e = .returned (.int .i64 r) ∧ decide (0 ≤ r) = !(l.all Tg.may)) ∧ Below w.heap.size w w' := by
  have HR := Lib.hid hr
  have HZ := Lib.hid hsz
  clear hr hsz
  obtain ⟨n, hn⟩ : ∃ n, n = l.length := ⟨_, rfl⟩
  rw [← hn] at hlen ⊢
  have HN := Lib.hid hn
  clear hn
  have HB0 := Lib.hid (Below.refl w.heap.size w)
  go_enter Tryz.func64, Tryz.ntmps64
  go_wp2_with fail
  go_loopw [8] (fun i wr => ∃ k : Nat, k ≤ n ∧ i = .int .i64 k ∧ Hid (Below w.heap.size w wr) ∧ Hid ((l.take k).all Tg.may = true)) (fun i _ => n - (intOf i).toNat)
  case atStart => exact ⟨0, Nat.zero_le _, rfl, HB0, Lib.hid rfl⟩
  case round =>
    obtain ⟨k, hk, rfl, HB, HP⟩ := hrel
    by_cases hlt : k < n
    · obtain ⟨t, ht⟩ : ∃ t, l[k]? = some t := ⟨_, List.getElem?_eq_getElem (by rw [← HN.out]; exact hlt)⟩
      have HM := Lib.hid (fun W => notT_any t W (HZ.out t (List.mem_of_getElem? ht)))
      obtain ⟨b, off, hA, hb, hc⟩ := (HR.out.below HB.out).at tOk (by rw [← HN.out]; omega)
      have c0 := hc k t ht 0 _ rfl
      have c1 := hc k t ht 1 _ rfl
      have c2 := hc k t ht 2 _ rfl
      have c3 := hc k t ht 3 _ rfl
      have c4 := hc k t ht 4 _ rfl
      simp only [tK, Nat.add_zero] at c0 c1 c2 c3 c4
      rw [← Nat.add_assoc] at c1 c2 c3 c4
      have HS := Lib.hid (allT_step ht)
      have HF := Lib.hid (fun h => allT_no ht h)
      subst hA
      clear hc ht hb
      have hlt' : (k : Int) < (n : Int) := by omega
      obtain ⟨z, hz⟩ : ∃ z, z = t.may := ⟨_, rfl⟩
      rw [← hz] at HM HS HF
      clear hz
      unfold Tg.val at HM
      cases z with
      | true =>
        have HP1 := Lib.hid (show (l.take (k + 1)).all Tg.may = true by rw [HS.out, HP.out]; rfl)
        go_wp2_with fail
        refine (HM.out _).mono ?_
        rintro e w1 ⟨rfl, hb⟩
        have HB1 := Lib.hid (HB.out.trans (hb.mono HB.out.size))
        clear hb c0 c1 c2 c3 c4
        go_wp2_with fail
        go_roundw
        case rel => exact ⟨k + 1, by omega, by go_num, HB1, HP1⟩
        case measure => simp [intOf] <;> omega
      | false =>
        have HP1 := Lib.hid (HF.out rfl)
        go_wp2_with fail
        refine (HM.out _).mono ?_
        rintro e w1 ⟨rfl, hb⟩
        have HB1 := Lib.hid (HB.out.trans (hb.mono HB.out.size))
        clear hb c0 c1 c2 c3 c4
        go_wp2_with fail
        go_ret
        exact ⟨⟨k, rfl, by rw [HP1.out]; exact decide_eq_true (by omega)⟩, HB1.out⟩
    · have hge : decide ((k : Int) < (n : Int)) = false := by simp; omega
      have HP1 := Lib.hid (show l.all Tg.may = true by
        rw [← HP.out, List.take_of_length_le (by rw [← HN.out]; omega)])
      go_wp2_with fail
      go_ret
      exact ⟨⟨-1, rfl, by rw [HP1.out]; rfl⟩, HB.out⟩
set_option maxRecDepth 100000 in
set_option maxHeartbeats 1000000 in
theorem containsT_any (A : Option Addr) (l : List Tg) (cap : Nat) (w : World) (hr : tK.Reads w w.heap.size A l) (hlen : l.length ≤ 1000) (hsz : ∀ t ∈ l, t.size ≤ 6000) :
    Calls Tryz.prog 40 #[.slice A l.length cap, .func (.func 41) #[] #[]] w fun e w' => e = .returned (.bool (!(l.all Tg.may))) ∧ Below w.heap.size w w' := by
  have HI := Lib.hid (indexT_any A l cap w hr hlen hsz)
  generalize (!(l.all Tg.may)) = z at HI ⊢
  generalize l.length = n at HI ⊢
  clear hr hlen hsz
  go_enter Tryz.func40, Tryz.ntmps40
  go_wp2_with fail
  refine HI.out.mono ?_
  rintro e w1 ⟨⟨r, rfl, hr⟩, hb⟩
  have HB := Lib.hid hb
  clear hb
  have HE := Lib.hid hr
  clear hr
  go_wp2_with fail
  all_goals
    go_ret
    exact ⟨by rw [← HE.out]; first | rfl | simp_all, HB.out⟩
end Go.Proofs.YtnbghappfclnjaaGreat
