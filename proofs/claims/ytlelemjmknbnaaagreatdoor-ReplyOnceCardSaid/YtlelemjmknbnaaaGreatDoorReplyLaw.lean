/- What the law asks of two readers, plainly; the document's Same. -/
import Derived.Test.YtlelemjmknbnaaaGreatDoorReplyPush
namespace Go.Proofs.YtlelemjmknbnaaaGreatDoor
open Go.RowKit

theorem fail_seven (d : Dc) (e : Nat) (h : e ≠ 7) : (d.fail e).wrong ≠ 7 := h
theorem sized_seven (d : Dc) (l : List UInt8) (h : d.wrong ≠ 7) : (d.sized l).wrong ≠ 7 := by
  unfold Dc.sized
  split
  · exact fail_seven _ _ (by decide)
  · split
    · exact fail_seven _ _ (by decide)
    · split
      · exact h
      · exact h
theorem take1_seven (d : Dc) (c : UInt8) (h : d.wrong ≠ 7) : (d.take1 c).wrong ≠ 7 := by
  unfold Dc.take1
  split
  · exact h
  · unfold Dc.step
    split
    · exact h
    · unfold Dc.size1
      split
      · exact h
      · exact sized_seven _ _ h
    · exact fail_seven _ _ (by decide)
    · unfold Dc.trail1
      split
      · exact fail_seven _ _ (by decide)
      · split
        · exact h
        · split
          · exact h
          · split
            · exact h
            · exact fail_seven _ _ (by decide)
    · split
      · exact h
      · exact fail_seven _ _ (by decide)
    · split
      · exact h
      · exact fail_seven _ _ (by decide)
theorem push_seven : ∀ (l : List UInt8) (d : Dc), d.wrong ≠ 7 → (d.push l).2.wrong ≠ 7
  | [], d, h => h
  | c :: l, d, h => by
    cases ho : d.over with
    | true => rw [Dc.push_over ho]; exact h
    | false =>
      rw [Dc.push_one ho]
      exact push_seven l _ (take1_seven d c h)
theorem made_seven (len : Int) (ch : Bool) (room : Nat) : (Dc.made len ch room).wrong ≠ 7 := by
  unfold Dc.made
  split
  · simp
  · split
    · simp
    · split <;> simp
theorem ended_seven (d : Dc) (h : d.wrong ≠ 7) : d.ended.wrong ≠ 7 := by
  unfold Dc.ended
  split
  · exact h
  · split
    · exact h
    · exact fail_seven _ _ (by decide)
theorem ended_body (d : Dc) : d.ended.body = d.body := by
  unfold Dc.ended
  split
  · rfl
  · split <;> rfl
theorem endSaid_seven (room : Nat) (t : List UInt8) : (endSaid room t).1 ≠ 7 := by
  unfold endSaid
  split
  · simp
  · rename_i e hp
    have := parseL_err hp
    show e ≠ 7
    omega
  · split
    · exact ended_seven _ (push_seven _ _ (made_seven _ _ _))
    · simp
theorem Got.over {room : Nat} {t : List UInt8} {r : Rp} (h : Got room t r) : r.fin.came ≠ 7 := by
  have h1 := congrArg Prod.fst h.fin.1
  have h2 := endSaid_seven room t
  rw [← h1] at h2
  exact h2
theorem Got.finBody {room : Nat} {t : List UInt8} {r : Rp} (h : Got room t r) (ht : t.length ≤ 50000) (hr : room < 9223372036854775808) : ∀ d, r.fin.body = some d → d.body.length ≤ 1000000 := by
  intro d hd
  cases hb : r.body with
  | none =>
    by_cases h0 : r.wrong = 0
    · rw [fin_none hb h0] at hd; cases hd
    · rw [fin_wrong hb h0] at hd
      change r.body = some d at hd
      rw [hb] at hd
      cases hd
  | some d0 =>
    rw [fin_some hb] at hd
    cases hd
    rw [ended_body]
    have := (h.bnd (k := 0) (by omega) hr d0 hb).body
    omega
/-- What Reply's answer shows, of a reader. -/
def stR (r : Rp) : Nat := if r.came = 0 then r.hd.status else 0
def bodyR (r : Rp) : List UInt8 := if r.came = 0 then (match r.body with | some d => d.body | none => []) else []
theorem said_same {r o : Rp} (h : r.said = o.said) : r.came = o.came ∧ stR r = stR o ∧ bodyR r = bodyR o := by
  have h1 : r.came = o.came := congrArg Prod.fst h
  have h2 := congrArg Prod.snd h
  unfold Rp.said at h2
  simp only [] at h2
  unfold stR bodyR
  rw [h1] at h2 ⊢
  by_cases h0 : o.came = 0
  · rw [if_pos h0, if_pos h0] at h2
    rw [if_pos h0, if_pos h0, if_pos h0, if_pos h0]
    exact ⟨rfl, congrArg Prod.fst h2, congrArg Prod.snd h2⟩
  · rw [if_neg h0, if_neg h0, if_neg h0, if_neg h0]
    exact ⟨rfl, rfl, rfl⟩
/-- Reply behind the connection's end. -/
theorem RyP.ended {w w' : World} {r : Rp} {e : Ending} (h : RyP w r e w') (he : r.ended = true) : (∃ A c, e = .returned (.tuple #[.agg #[.int .i64 (stR r : Int), .slice A (bodyR r).length c, .bool false], .int .i64 (r.came : Int)]) ∧ Owned w.heap.size w' (.slice A (bodyR r).length c) (bodyR r)) ∧ Below w.heap.size w w' := by
  obtain ⟨⟨v, rfl, ho⟩, hb⟩ := h
  have ho : Owned w.heap.size w' v (bodyR r) := ho
  obtain ⟨A, c, rfl, -⟩ := ho.reads
  have hre : decide (r.came = 0 ∧ r.hd.close = false ∧ r.rest = 0 ∧ r.ended = false) = false := by rw [he]; simp
  rw [hre]
  exact ⟨⟨A, c, rfl, ho⟩, hb⟩
set_option maxRecDepth 100000 in
set_option maxHeartbeats 2000000 in
theorem rsame_any (st : Nat) (A1 A2 : Option Addr) (n c1 c2 : Nat) (l : List UInt8) (w : World) {B1 B2 : Nat} (h1 : Owned B1 w (.slice A1 n c1) l) (h2 : Owned B2 w (.slice A2 n c2) l) :
    Calls Tryz.prog 10 #[.agg #[.int .i64 (st : Int), .slice A1 n c1, .bool false], .agg #[.int .i64 (st : Int), .slice A2 n c2, .bool false]] w fun e w' => e = .returned (.bool true) ∧ Below w.heap.size w w' := by
  have hba := below_alloc (B := w.heap.size) (w := w) (Nat.le_refl _) (.cells #[.int .i64 (st : Int), .slice A1 n c1, .bool false] 28)
  have hbb := hba.alloc (by simp) (.cells #[.int .i64 (st : Int), .slice A2 n c2, .bool false] 28)
  have cv {B : Nat} {A : Option Addr} {c : Nat} (h : Owned B w (.slice A n c) l) : (convert 22 9 (.slice A n c)).run Tryz.prog ((w.alloc (.cells #[.int .i64 (st : Int), .slice A1 n c1, .bool false] 28)).alloc (.cells #[.int .i64 (st : Int), .slice A2 n c2, .bool false] 28)) = .ok (.string ⟨l.toArray⟩) ((w.alloc (.cells #[.int .i64 (st : Int), .slice A1 n c1, .bool false] 28)).alloc (.cells #[.int .i64 (st : Int), .slice A2 n c2, .bool false] 28)) := by
    obtain ⟨A', c', hv, hcv⟩ := owned_text (h.below hbb)
    cases hv
    exact hcv
  have cv1 := cv h1
  have cv2 := cv h2
  have HB := Lib.hid hbb
  clear cv h1 h2 hba hbb
  go_enter Tryz.func10, Tryz.ntmps10
  go_wp2
  go_ret
  exact ⟨rfl, HB.out⟩
end Go.Proofs.YtlelemjmknbnaaaGreatDoor
