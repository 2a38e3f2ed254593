/- Both look the same. -/
import Derived.Test.YtaepgcicgmbbeaaWhDoQ
namespace Go.Proofs.Ytaepgcicgmbbeaa
open Go.RowKit

theorem now_q {B : Nat} {w : World} {bw : Nat} {T : Int} {L : List Fi} {F : List Nat} (h : WhAt B w bw T L F) (q : Nat) :
    Calls Try.prog 20 #[.pointer (some ⟨bw, 0, none⟩)] (w.drewN q) fun e w' => e = .returned (.int .i64 T) ∧ w' = w.drewN q :=
  (now_any (h.pre ((Turns.refl [] w).drewN q))).mono fun _ _ h => ⟨h.1, h.2.symm⟩
section
variable {w : Base} {X : World} {bw rv : Nat} {T : Int} {L : List Fi}
theorem of_none {B : Nat} {w : World} {rv : Nat} {A : Option Addr} {c : Nat} (h : RefW B w rv A c T L) (hL : L.length ≤ 1000) (id : Int) (hg : getL id L = none) :
    Calls Try.prog 25 #[.pointer (some ⟨rv, 0, none⟩), .int .i64 id] w fun e w' => e = .returned (.int .i64 (-1)) ∧ w = w' :=
  (of_any h hL id).mono (by
    rintro e w' ⟨⟨k, rfl, hk⟩, rfl⟩
    rcases hk with ⟨rfl, h0⟩ | ⟨j, y, rfl, hj, hy⟩
    · exact ⟨rfl, rfl⟩
    · rw [hg] at hy; cases hy)
theorem of_some {B : Nat} {w : World} {rv : Nat} {A : Option Addr} {c : Nat} (h : RefW B w rv A c T L) (hi : Ids L) (hL : L.length ≤ 1000) (id : Int) {x : Fi} {i : Nat} (hx : L[i]? = some x) (hg : getL id L = some x) :
    Calls Try.prog 25 #[.pointer (some ⟨rv, 0, none⟩), .int .i64 id] w fun e w' => e = .returned (.int .i64 (i : Int)) ∧ w = w' :=
  (of_any h hL id).mono (by
    rintro e w' ⟨⟨k, rfl, hk⟩, rfl⟩
    rcases hk with ⟨_, h0⟩ | ⟨j, y, rfl, hj, hy⟩
    · rw [hg] at h0; cases h0
    · rw [hg] at hy
      cases hy
      have := at_inj hi.nodup hj hx
      subst this
      exact ⟨rfl, rfl⟩)
set_option maxRecDepth 100000 in
set_option maxHeartbeats 4000000 in
theorem look_nil (h : PairW w X bw rv T []) (hok : WOk T []) (id : Int) (hid : -9223372036854775808 ≤ id ∧ id ≤ 9223372036854775807) :
    Calls Try.prog 10 #[.pointer (some ⟨bw, 0, none⟩), .pointer (some ⟨rv, 0, none⟩), .int .i64 id] X fun e Y => e = .returned (.bool true) ∧ Turns [] X Y := by
  obtain ⟨F, A, c, a, b, d, e', f⟩ := h
  obtain ⟨q0, q1, _⟩ := b.cells
  have HN := Lib.hid (next_any a hok (by simp))
  have HG := Lib.hid (fun Y (ht : Turns [] X Y) => get_any (a.pre ht) hok.ids id hid (by simp) (by simp))
  have HO := Lib.hid (fun Y (ht : Turns [] X Y) => of_none (b.pre ht) (by simp) id rfl)
  have HC := Lib.hid (fun Y (ht : Turns [] X Y) => (b.pre ht).cells)
  have HNL : Hid (∀ Y, Turns [] X Y → (∀ q, Calls Try.prog 20 #[.pointer (some ⟨bw, 0, none⟩)] (Y.drewN q) fun e w' => e = .returned (.int .i64 T) ∧ w' = Y.drewN q) ∧ ∀ q, Calls Try.prog 21 #[.pointer (some ⟨bw, 0, none⟩)] (Y.drewN q) fun e w' => e = .returned (.int .i64 (0 : Nat)) ∧ w' = Y.drewN q) := Lib.hid (fun Y ht => ⟨now_q (a.pre ht), len_q (a.pre ht)⟩)
  clear a b d e' f hok hid
  change Hid (Calls _ _ _ _ fun e w' => e = .returned (.tuple #[.int .i64 0, .bool false]) ∧ Turns [] X w') at HN
  change Hid (∀ Y, Turns [] X Y → Calls _ _ _ _ fun e w' => e = .returned (.tuple #[.int .i64 0, .bool false]) ∧ Turns [] Y w') at HG
  go_enter Try.func10, Try.ntmps10
  go_wp2_with fail
  refine (Hid.out HN).mono ?_
  rintro e X1 ⟨rfl, t1⟩
  have HT1 := Lib.hid t1
  have r1 := (HC.out X1 t1).2.1
  clear t1 q0 q1
  change X1.cell? ⟨rv, 1, none⟩ = some (.slice A 0 c) at r1
  go_wp2_with fail
  refine (HG.out _ HT1.out).mono ?_
  rintro e X2 ⟨rfl, t2⟩
  have HT2 := Lib.hid (HT1.out.then t2)
  clear t2 r1
  go_wp2_with fail
  refine (HO.out _ HT2.out).mono ?_
  rintro e X3 ⟨rfl, rfl⟩
  have s0 := (HC.out X2 HT2.out).1
  have s1 := (HC.out X2 HT2.out).2.1
  change X2.cell? ⟨rv, 1, none⟩ = some (.slice A 0 c) at s1
  have HN2 := Lib.hid (HNL.out X2 HT2.out).1
  have HL2 := Lib.hid (HNL.out X2 HT2.out).2
  clear HNL HG HO HC HN
  go_wp2
  go_quiet ((first | (go_at_call 20; exact Calls.quiet_of_same (HN2.out _)) | (go_at_call 21; exact Calls.quiet_of_same (HL2.out _))))
  go_wp2
  go_ret
  exact ⟨by first | rfl | simp, HT2.out.drewN _⟩
set_option maxRecDepth 100000 in
set_option maxHeartbeats 8000000 in
theorem look_no {x0 : Fi} {L0 : List Fi} (h : PairW w X bw rv T (x0 :: L0)) (hok : WOk T (x0 :: L0)) (hL : (x0 :: L0).length ≤ 900) (id : Int) (hid : -9223372036854775808 ≤ id ∧ id ≤ 9223372036854775807) (hg : getL id (x0 :: L0) = none) :
    Calls Try.prog 10 #[.pointer (some ⟨bw, 0, none⟩), .pointer (some ⟨rv, 0, none⟩), .int .i64 id] X fun e Y => e = .returned (.bool true) ∧ Turns [] X Y := by
  obtain ⟨F, A, c, a, b, d, e', f⟩ := h
  have HN := Lib.hid (next_any a hok (by omega))
  have HG := Lib.hid (fun Y (ht : Turns [] X Y) => get_any (a.pre ht) hok.ids id hid (hpOf hok) (by omega))
  rw [hg] at HG
  have HO := Lib.hid (fun Y (ht : Turns [] X Y) => of_none (b.pre ht) (by omega) id hg)
  obtain ⟨b0, off, hA, -⟩ := b.at_ (show (x0 :: L0)[0]? = some x0 from rfl)
  subst hA
  obtain ⟨NN, hNN⟩ : ∃ NN, NN = (x0 :: L0).length := ⟨_, rfl⟩
  have hNp : (0 : Int) < (NN : Int) := by rw [hNN]; simp
  have hNp2 : 0 < NN := by rw [hNN]; simp
  have HC : Hid (∀ Y, Turns [] X Y → Y.cell? ⟨rv, 0, none⟩ = some (.int .i64 T) ∧ Y.cell? ⟨rv, 1, none⟩ = some (.slice (some ⟨b0, off, none⟩) NN c) ∧ Y.cell? ⟨b0, off + 1, none⟩ = some (.int .i64 x0.2)) := Lib.hid (fun Y ht => by
    have h1 := (b.pre ht).cells
    rw [← hNN] at h1
    obtain ⟨b2, o2, e2, _, k2⟩ := (b.pre ht).at_ (show (x0 :: L0)[0]? = some x0 from rfl)
    cases e2
    exact ⟨h1.1, h1.2.1, by simpa using k2⟩)
  have HNL : Hid (∀ Y, Turns [] X Y → (∀ q, Calls Try.prog 20 #[.pointer (some ⟨bw, 0, none⟩)] (Y.drewN q) fun e w' => e = .returned (.int .i64 T) ∧ w' = Y.drewN q) ∧ ∀ q, Calls Try.prog 21 #[.pointer (some ⟨bw, 0, none⟩)] (Y.drewN q) fun e w' => e = .returned (.int .i64 (NN : Nat)) ∧ w' = Y.drewN q) := Lib.hid (fun Y ht => ⟨now_q (a.pre ht), by rw [hNN]; exact len_q (a.pre ht)⟩)
  clear a b d e' f hok hid hL hNN hg
  change Hid (Calls _ _ _ _ fun e w' => e = .returned (.tuple #[.int .i64 x0.2, .bool true]) ∧ Turns [] X w') at HN
  change Hid (∀ Y, Turns [] X Y → Calls _ _ _ _ fun e w' => e = .returned (.tuple #[.int .i64 0, .bool false]) ∧ Turns [] Y w') at HG
  go_enter Try.func10, Try.ntmps10
  go_wp2_with fail
  refine (Hid.out HN).mono ?_
  rintro e X1 ⟨rfl, t1⟩
  have HT1 := Lib.hid t1
  have r1 := (HC.out X1 t1).2.1
  have r2 := (HC.out X1 t1).2.2
  clear t1
  go_wp2_with fail
  refine (HG.out _ HT1.out).mono ?_
  rintro e X2 ⟨rfl, t2⟩
  have HT2 := Lib.hid (HT1.out.then t2)
  clear t2 r1 r2
  go_wp2_with fail
  refine (HO.out _ HT2.out).mono ?_
  rintro e X3 ⟨rfl, rfl⟩
  have s0 := (HC.out X2 HT2.out).1
  have s1 := (HC.out X2 HT2.out).2.1
  have HN2 := Lib.hid (HNL.out X2 HT2.out).1
  have HL2 := Lib.hid (HNL.out X2 HT2.out).2
  clear HNL HG HO HC HN
  go_wp2
  go_quiet ((first | (go_at_call 20; exact Calls.quiet_of_same (HN2.out _)) | (go_at_call 21; exact Calls.quiet_of_same (HL2.out _))))
  go_wp2
  go_ret
  exact ⟨by first | rfl | simp, HT2.out.drewN _⟩
set_option maxRecDepth 100000 in
set_option maxHeartbeats 8000000 in
theorem look_yes {x0 : Fi} {L0 : List Fi} (h : PairW w X bw rv T (x0 :: L0)) (hok : WOk T (x0 :: L0)) (hL : (x0 :: L0).length ≤ 900) (id : Int) (hid : -9223372036854775808 ≤ id ∧ id ≤ 9223372036854775807) {x : Fi} {i : Nat} (hx : (x0 :: L0)[i]? = some x) (hg : getL id (x0 :: L0) = some x) :
    Calls Try.prog 10 #[.pointer (some ⟨bw, 0, none⟩), .pointer (some ⟨rv, 0, none⟩), .int .i64 id] X fun e Y => e = .returned (.bool true) ∧ Turns [] X Y := by
  obtain ⟨F, A, c, a, b, d, e', f⟩ := h
  have HN := Lib.hid (next_any a hok (by omega))
  have HG := Lib.hid (fun Y (ht : Turns [] X Y) => get_any (a.pre ht) hok.ids id hid (hpOf hok) (by omega))
  rw [hg] at HG
  have HO := Lib.hid (fun Y (ht : Turns [] X Y) => of_some (b.pre ht) hok.ids (by omega) id hx hg)
  obtain ⟨b0, off, hA, -⟩ := b.at_ (show (x0 :: L0)[0]? = some x0 from rfl)
  subst hA
  obtain ⟨NN, hNN⟩ : ∃ NN, NN = (x0 :: L0).length := ⟨_, rfl⟩
  have hNp : (0 : Int) < (NN : Int) := by rw [hNN]; simp
  have hNp2 : 0 < NN := by rw [hNN]; simp
  have hi1 : (i : Int) < (NN : Int) := by have := (List.getElem?_eq_some_iff.1 hx).1; omega
  have hi0 : (0 : Int) ≤ (i : Int) := by omega
  have HC : Hid (∀ Y, Turns [] X Y → Y.cell? ⟨rv, 0, none⟩ = some (.int .i64 T) ∧ Y.cell? ⟨rv, 1, none⟩ = some (.slice (some ⟨b0, off, none⟩) NN c) ∧ Y.cell? ⟨b0, off + 1, none⟩ = some (.int .i64 x0.2) ∧ Y.cell? ⟨b0, off + i * 2 + 1, none⟩ = some (.int .i64 x.2)) := Lib.hid (fun Y ht => by
    have h1 := (b.pre ht).cells
    rw [← hNN] at h1
    obtain ⟨b2, o2, e2, _, k2⟩ := (b.pre ht).at_ (show (x0 :: L0)[0]? = some x0 from rfl)
    cases e2
    obtain ⟨b3, o3, e3, _, k3⟩ := (b.pre ht).at_ hx
    cases e3
    exact ⟨h1.1, h1.2.1, by simpa using k2, k3⟩)
  have HNL : Hid (∀ Y, Turns [] X Y → (∀ q, Calls Try.prog 20 #[.pointer (some ⟨bw, 0, none⟩)] (Y.drewN q) fun e w' => e = .returned (.int .i64 T) ∧ w' = Y.drewN q) ∧ ∀ q, Calls Try.prog 21 #[.pointer (some ⟨bw, 0, none⟩)] (Y.drewN q) fun e w' => e = .returned (.int .i64 (NN : Nat)) ∧ w' = Y.drewN q) := Lib.hid (fun Y ht => ⟨now_q (a.pre ht), by rw [hNN]; exact len_q (a.pre ht)⟩)
  clear a b d e' f hok hid hL hNN hg hx
  change Hid (Calls _ _ _ _ fun e w' => e = .returned (.tuple #[.int .i64 x0.2, .bool true]) ∧ Turns [] X w') at HN
  change Hid (∀ Y, Turns [] X Y → Calls _ _ _ _ fun e w' => e = .returned (.tuple #[.int .i64 x.2, .bool true]) ∧ Turns [] Y w') at HG
  go_enter Try.func10, Try.ntmps10
  go_wp2_with fail
  refine (Hid.out HN).mono ?_
  rintro e X1 ⟨rfl, t1⟩
  have HT1 := Lib.hid t1
  have r1 := (HC.out X1 t1).2.1
  have r2 := (HC.out X1 t1).2.2.1
  clear t1
  go_wp2_with fail
  refine (HG.out _ HT1.out).mono ?_
  rintro e X2 ⟨rfl, t2⟩
  have HT2 := Lib.hid (HT1.out.then t2)
  clear t2 r1 r2
  go_wp2_with fail
  refine (HO.out _ HT2.out).mono ?_
  rintro e X3 ⟨rfl, rfl⟩
  have s0 := (HC.out X2 HT2.out).1
  have s1 := (HC.out X2 HT2.out).2.1
  have s2 := (HC.out X2 HT2.out).2.2.2
  have HN2 := Lib.hid (HNL.out X2 HT2.out).1
  have HL2 := Lib.hid (HNL.out X2 HT2.out).2
  clear HNL HG HO HC HN
  go_wp2
  go_quiet ((first | (go_at_call 20; exact Calls.quiet_of_same (HN2.out _)) | (go_at_call 21; exact Calls.quiet_of_same (HL2.out _))))
  go_wp2
  go_ret
  exact ⟨by first | rfl | simp, HT2.out.drewN _⟩
theorem look_any (h : PairW w X bw rv T L) (hok : WOk T L) (hL : L.length ≤ 900) (id : Int) (hid : -9223372036854775808 ≤ id ∧ id ≤ 9223372036854775807) :
    Calls Try.prog 10 #[.pointer (some ⟨bw, 0, none⟩), .pointer (some ⟨rv, 0, none⟩), .int .i64 id] X fun e Y => e = .returned (.bool true) ∧ Turns [] X Y := by
  cases L with
  | nil => exact look_nil h hok id hid
  | cons x0 L0 =>
    cases hg : getL id (x0 :: L0) with
    | none => exact look_no h hok hL id hid hg
    | some x =>
      obtain ⟨i, hi⟩ := List.getElem?_of_mem (getL_some hg).1
      exact look_yes h hok hL id hid hi hg
end
end Go.Proofs.Ytaepgcicgmbbeaa
