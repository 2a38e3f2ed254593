/- Two connections, side by side: is the same told of both? -/
import Derived.Test.YtlelemjmknbnaaaNetOps
import Derived.Test.YtlelemjmknbnaaaDoMore
namespace Go.Proofs.Ytlelemjmknbnaaa
open Go.RowKit

theorem txt_eq {a b : List UInt8} : ((⟨a.toArray⟩ : ByteArray).toList == (⟨b.toArray⟩ : ByteArray).toList) = (a == b) := by
  rw [Lib.toList_data, Lib.toList_data]
set_option maxRecDepth 100000 in
set_option maxHeartbeats 2000000 in
theorem conn_same (h1 h2 : List UInt8) (s1 s2 : Int) (va1 vs1 va2 vs2 : Value) (i1 o1 i2 o2 : List UInt8) (w : World) (ha1 : Owned 0 w va1 i1) (hs1 : Owned 0 w vs1 o1) (ha2 : Owned 0 w va2 i2) (hs2 : Owned 0 w vs2 o2) :
    Calls Try.prog 36 #[.agg #[.string ⟨h1.toArray⟩, .int .i64 s1, va1, vs1], .agg #[.string ⟨h2.toArray⟩, .int .i64 s2, va2, vs2]] w fun e w' => (∃ b, e = .returned (.bool b) ∧ (b = true ↔ h1 = h2 ∧ s1 = s2 ∧ i1 = i2 ∧ o1 = o2)) ∧ Turns [] w w' := by
  have HC : Hid (∀ W, Turns [] w W → (Calls Try.prog 52 #[va1, va2] W fun e w' => e = .returned (.bool (i1 == i2)) ∧ w' = W) ∧ (Calls Try.prog 52 #[vs1, vs2] W fun e w' => e = .returned (.bool (o1 == o2)) ∧ w' = W)) := Lib.hid (fun W hW => ⟨by
    have := Try.bytes_Equal_strs va1 va2 _ _ W (ha1.turns hW (by simp)).conv (ha2.turns hW (by simp)).conv
    rwa [txt_eq] at this, by
    have := Try.bytes_Equal_strs vs1 vs2 _ _ W (hs1.turns hW (by simp)).conv (hs2.turns hW (by simp)).conv
    rwa [txt_eq] at this⟩)
  obtain ⟨A1, c1, rfl, _⟩ : ∃ A c, va1 = .slice A i1.length c ∧ True := by
    rcases ha1.form with ⟨e1, e2⟩ | ⟨g, cap, e1, _⟩
    · exact ⟨none, 0, by rw [e1, e2]; rfl, trivial⟩
    · exact ⟨_, _, e1, trivial⟩
  obtain ⟨A2, c2, rfl, _⟩ : ∃ A c, va2 = .slice A i2.length c ∧ True := by
    rcases ha2.form with ⟨e1, e2⟩ | ⟨g, cap, e1, _⟩
    · exact ⟨none, 0, by rw [e1, e2]; rfl, trivial⟩
    · exact ⟨_, _, e1, trivial⟩
  obtain ⟨A3, c3, rfl, _⟩ : ∃ A c, vs1 = .slice A o1.length c ∧ True := by
    rcases hs1.form with ⟨e1, e2⟩ | ⟨g, cap, e1, _⟩
    · exact ⟨none, 0, by rw [e1, e2]; rfl, trivial⟩
    · exact ⟨_, _, e1, trivial⟩
  obtain ⟨A4, c4, rfl, _⟩ : ∃ A c, vs2 = .slice A o2.length c ∧ True := by
    rcases hs2.form with ⟨e1, e2⟩ | ⟨g, cap, e1, _⟩
    · exact ⟨none, 0, by rw [e1, e2]; rfl, trivial⟩
    · exact ⟨_, _, e1, trivial⟩
  obtain ⟨n1, hn1⟩ : ∃ n, n = i1.length := ⟨_, rfl⟩
  obtain ⟨n2, hn2⟩ : ∃ n, n = i2.length := ⟨_, rfl⟩
  obtain ⟨n3, hn3⟩ : ∃ n, n = o1.length := ⟨_, rfl⟩
  obtain ⟨n4, hn4⟩ : ∃ n, n = o2.length := ⟨_, rfl⟩
  rw [← hn1, ← hn2, ← hn3, ← hn4] at HC ⊢
  clear ha1 ha2 hs1 hs2 hn1 hn2 hn3 hn4
  have HT := Lib.hid (fun o o2 => (Turns.alloc (F := []) w o).trans (Turns.alloc (F := []) _ o2) (by simp))
  by_cases k0 : h1 = h2
  · obtain ⟨f1, f2, f3⟩ : ((⟨h1.toArray⟩ : ByteArray).toList == (⟨h2.toArray⟩ : ByteArray).toList) = true ∧ (h1 == h2) = true ∧ True := by rw [txt_eq]; simp [k0]
    by_cases k1 : s1 = s2
    · have g1 : (s1 == s2) = true := by rw [beq_iff_eq]; exact k1
      have HK := Lib.hid (And.intro k0 k1)
      clear k0 k1
      cases k2 : (i1 == i2) with
      | true =>
        have HK2 := Lib.hid k2
        clear k2
        rw [HK2.out] at HC
        go_enter Try.func36, Try.ntmps36
        go_wp2_with fail
        refine (HC.out _ (HT.out _ _)).1.mono ?_
        rintro e w1 ⟨rfl, rfl⟩
        go_wp2_with fail
        refine (HC.out _ (HT.out _ _)).2.mono ?_
        rintro e w1 ⟨rfl, rfl⟩
        go_wp2
        go_ret
        exact ⟨⟨_, rfl, by have h9 := HK2.out; rw [beq_iff_eq] at h9 ⊢; simp [HK.out.1, HK.out.2, h9]⟩, HT.out _ _⟩
      | false =>
        have HK2 := Lib.hid k2
        clear k2
        rw [HK2.out] at HC
        go_enter Try.func36, Try.ntmps36
        go_wp2_with fail
        refine (HC.out _ (HT.out _ _)).1.mono ?_
        rintro e w1 ⟨rfl, rfl⟩
        go_wp2_with fail
        go_ret
        exact ⟨⟨_, rfl, by have h9 := HK2.out; rw [beq_eq_false_iff_ne] at h9; simp [h9]⟩, HT.out _ _⟩
    · have g1 : (s1 == s2) = false := by rw [beq_eq_false_iff_ne]; exact k1
      have HK := Lib.hid k1
      clear k0 k1
      go_enter Try.func36, Try.ntmps36
      go_wp2_with fail
      go_ret
      exact ⟨⟨_, rfl, by simp [HK.out]⟩, HT.out _ _⟩
  · obtain ⟨f1, f2, f3⟩ : ((⟨h1.toArray⟩ : ByteArray).toList == (⟨h2.toArray⟩ : ByteArray).toList) = false ∧ (h1 == h2) = false ∧ True := by rw [txt_eq]; simp [k0]
    have HK := Lib.hid k0
    clear k0
    go_enter Try.func36, Try.ntmps36
    go_wp2_with fail
    go_ret
    exact ⟨⟨_, rfl, by simp [HK.out]⟩, HT.out _ _⟩
end Go.Proofs.Ytlelemjmknbnaaa
