/- The program's Cancel and Set. -/
import Derived.Test.YtaepgcicgmbbeaaWhTakeW
namespace Go.Proofs.Ytaepgcicgmbbeaa
open Go.RowKit

theorem Laid.perm_ {B : Nat} {w : World} {bw : Nat} {T : Int} {L L' : List Fi} {F : List Nat} {bs bp : Nat} {S : Sl} {P : Pc} (h : Laid B w bw T L F bs bp S P) (hp : L.Perm L') : Laid B w bw T L' F bs bp S P :=
  ⟨h.head, h.slots, by rw [← hp.length_eq]; exact h.places, h.own, h.apart, h.heads, fun k => (h.perm k).trans (hp.filter _), h.place⟩
theorem WhAt.perm {B : Nat} {w : World} {bw : Nat} {T : Int} {L L' : List Fi} {F : List Nat} (h : WhAt B w bw T L F) (hp : L.Perm L') : WhAt B w bw T L' F := by
  obtain ⟨h1, h2, h3⟩ := h
  refine ⟨h1, h2, ?_⟩
  rcases h3 with ⟨h3, h4⟩ | ⟨bs, bp, S, P, h3⟩
  · exact .inl ⟨h3, by subst h4; exact List.nil_perm.1 hp⟩
  · exact .inr ⟨bs, bp, S, P, h3.perm_ hp⟩
theorem take_any {B : Nat} {w : World} {bw : Nat} {T : Int} {L L' : List Fi} {F : List Nat} (h : WhAt B w bw T L F) (hok : WOk T L) {x : Fi} (hp : L.Perm (x :: L')) (hL : L.length ≤ 1000) :
    Calls Try.prog 28 #[.pointer (some ⟨bw, 0, none⟩), .int .i64 x.1] w (TakeP B w bw T L' F) := by
  have hx : x ∈ L := hp.symm.subset (List.mem_cons_self ..)
  rcases h.2.2 with ⟨_, h0⟩ | ⟨bs, bp, S, P, h3⟩
  · rw [h0] at hx; cases hx
  · exact take_laid h h3 hok.ids hp (hok.wf x hx) (by have := hok.low x hx; have := hok.high x hx; have := hok.now; omega) hok.wf hL
/-- What a call that may change the wheel leaves. -/
def OpP (B : Nat) (w : World) (bw : Nat) (T' : Int) (L' : List Fi) (F : List Nat) (v : Value) (e : Ending) (w' : World) : Prop :=
  e = .returned v ∧ ∃ F', WhAt B w' bw T' L' F' ∧ Turns F w w' ∧ ∀ i ∈ F', i ∈ F ∨ w.heap.size ≤ i
theorem OpP.refl {B : Nat} {w : World} {bw : Nat} {T : Int} {L : List Fi} {F : List Nat} (h : WhAt B w bw T L F) (v : Value) : OpP B w bw T L F v (.returned v) w := ⟨rfl, F, h, Turns.refl _ _, fun _ h => .inl h⟩
theorem WhAt.pre {B : Nat} {w w1 : World} {bw : Nat} {T : Int} {L : List Fi} {F : List Nat} (h : WhAt B w bw T L F) (ht : Turns [] w w1) : WhAt B w1 bw T L F := h.turns ht (by simp)
theorem OpP.pre {B : Nat} {w w1 w2 : World} {bw : Nat} {T' : Int} {L' : List Fi} {F : List Nat} {v : Value} {e : Ending} (ht : Turns [] w w1) (h : OpP B w1 bw T' L' F v e w2) : OpP B w bw T' L' F v e w2 := by
  obtain ⟨rfl, F', a, b, c⟩ := h
  exact ⟨rfl, F', a, (ht.mono (by simp)).then b, fun i hi => (c i hi).imp id fun h => Nat.le_trans ht.size h⟩
theorem hpOf {T : Int} {L : List Fi} (hok : WOk T L) : ∀ x ∈ L, -9223372036854775808 ≤ x.2 ∧ x.2 ≤ 9223372036854775807 := fun x hx => by
  have := hok.low x hx; have := hok.high x hx; have := hok.now; omega
set_option maxRecDepth 100000 in
set_option maxHeartbeats 2000000 in
theorem cancel_any {B : Nat} {w : World} {bw : Nat} {T : Int} {L : List Fi} {F : List Nat} (h : WhAt B w bw T L F) (hok : WOk T L) (id : Int) (hid : -9223372036854775808 ≤ id ∧ id ≤ 9223372036854775807) (hL : L.length ≤ 1000) :
    Calls Try.prog 19 #[.pointer (some ⟨bw, 0, none⟩), .int .i64 id] w (OpP B w bw T (canL id L) F (.bool (getL id L).isSome)) := by
  have HG := Lib.hid (get_any h hok.ids id hid (hpOf hok) hL)
  cases hg : getL id L with
  | none =>
    rw [hg] at HG
    have HE := Lib.hid (fun w1 (ht : Turns [] w w1) => (OpP.refl (h.pre ht) (.bool false)).pre ht)
    rw [canL_none hg]
    change Hid (Calls _ _ _ _ fun e w' => e = .returned (.tuple #[.int .i64 0, .bool false]) ∧ Turns [] w w') at HG
    show Calls _ _ _ _ (OpP B w bw T L F (.bool false))
    clear hg h hok hid hL
    go_enter Try.func19, Try.ntmps19
    go_wp2_with fail
    refine (Hid.out HG).mono ?_
    rintro e w1 ⟨rfl, ht⟩
    have HT := Lib.hid ht
    clear ht
    go_wp2
    go_ret
    exact HE.out _ HT.out
  | some x =>
    rw [hg] at HG
    obtain ⟨hx, rfl⟩ := getL_some hg
    have HT := Lib.hid (fun w1 (ht : Turns [] w w1) => take_any (h.pre ht) hok (canL_perm hok.ids hg) hL)
    have HE : Hid (∀ w1 w2, Turns [] w w1 → TakeP B w1 bw T (canL x.1 L) F (.returned (.tuple #[])) w2 → OpP B w bw T (canL x.1 L) F (.bool true) (.returned (.bool true)) w2) := Lib.hid (fun w1 w2 ht h2 => ⟨rfl, F, h2.2.1, (ht.mono (by simp)).then h2.2.2, fun _ h => .inl h⟩)
    change Hid (Calls _ _ _ _ fun e w' => e = .returned (.tuple #[.int .i64 x.2, .bool true]) ∧ Turns [] w w') at HG
    show Calls _ _ _ _ (OpP B w bw T (canL x.1 L) F (.bool true))
    clear hg h hok hid hL hx
    go_enter Try.func19, Try.ntmps19
    go_wp2_with fail
    refine (Hid.out HG).mono ?_
    rintro e w1 ⟨rfl, ht⟩
    have HT1 := Lib.hid ht
    clear ht
    go_wp2_with fail
    refine (HT.out _ HT1.out).mono ?_
    rintro e w2 h2
    have HT2 := Lib.hid h2
    obtain ⟨rfl, -, -⟩ := h2
    go_wp2
    go_ret
    exact HE.out _ _ HT1.out HT2.out
set_option maxRecDepth 100000 in
set_option maxHeartbeats 2000000 in
theorem set_any {B : Nat} {w : World} {bw : Nat} {T : Int} {L : List Fi} {F : List Nat} (h : WhAt B w bw T L F) (hok : WOk T L) (id at' : Int) (hid : -9223372036854775808 ≤ id ∧ id ≤ 9223372036854775807) (hat : -9223372036854775808 ≤ at' ∧ at' ≤ 9223372036854775807) (hL : L.length ≤ 1000) :
    Calls Try.prog 15 #[.pointer (some ⟨bw, 0, none⟩), .int .i64 id, .int .i64 at'] w (OpP B w bw T (setL T L id at').2 F (.int .i64 (setL T L id at').1)) := by
  have c0 := h.cells.1
  unfold setL
  by_cases h1 : at' < T
  · rw [if_pos (.inl h1)]
    have HE := Lib.hid (OpP.refl h (.int .i64 2))
    clear h hok
    go_enter Try.func15, Try.ntmps15
    go_wp2
    go_ret
    exact HE.out
  · have e1 : decide (at' < T) = false := by simpa using h1
    by_cases h2 : 1125899906842624 < at'
    · rw [if_pos (.inr h2)]
      have HE := Lib.hid (OpP.refl h (.int .i64 2))
      clear h hok
      go_enter Try.func15, Try.ntmps15
      go_wp2
      go_ret
      exact HE.out
    · rw [if_neg (by omega)]
      have e2 : decide (1125899906842624 < at') = false := by simpa using h2
      have HC := Lib.hid (cancel_any h hok id hid hL)
      have hcl : (canL id L).length ≤ 1000 := Nat.le_trans (List.length_filter_le _ _) hL
      have HP := Lib.hid (fun w1 F1 (h1 : WhAt B w1 bw T (canL id L) F1) => put_any h1 (id, at') (fun y hy => (mem_canL.1 hy).2) hid hat hcl)
      have HE : Hid (∀ w1 w2 F1, WhAt B w1 bw T (canL id L) F1 → Turns F w w1 → (∀ i ∈ F1, i ∈ F ∨ w.heap.size ≤ i) → PutP B w1 bw T (canL id L) F1 (id, at') (.returned (.tuple #[])) w2 → OpP B w bw T (insL (id, at') (canL id L)) F (.int .i64 0) (.returned (.int .i64 0)) w2) := Lib.hid (fun w1 w2 F1 a b c d => by
        obtain ⟨_, F', d1, d2, d3⟩ := d
        refine ⟨rfl, F', d1.perm (insL_perm _ _), b.trans d2 c, fun i hi => ?_⟩
        rcases d3 i hi with h' | h'
        · exact c i h'
        · exact .inr (Nat.le_trans b.size h'))
      clear h hok h1 h2 hid hat hL hcl
      show Calls _ _ _ _ (OpP B w bw T (insL (id, at') (canL id L)) F (.int .i64 0))
      go_enter Try.func15, Try.ntmps15
      go_wp2_with fail
      refine (Hid.out HC).mono ?_
      rintro e w1 ⟨rfl, F1, a1, a2, a3⟩
      have HA1 := Lib.hid a1
      have HA2 := Lib.hid a2
      have HA3 := Lib.hid a3
      clear a1 a2 a3 HC
      go_wp2_with fail
      refine (HP.out _ _ HA1.out).mono ?_
      rintro e w2 hp2
      have HP2 := Lib.hid hp2
      obtain ⟨rfl, -⟩ := hp2
      go_wp2
      go_ret
      exact HE.out _ _ _ HA1.out HA2.out HA3.out HP2.out
end Go.Proofs.Ytaepgcicgmbbeaa
