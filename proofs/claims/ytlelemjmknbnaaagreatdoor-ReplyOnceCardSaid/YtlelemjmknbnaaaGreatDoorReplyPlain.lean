/- A whole answer, plainly: what a reader does with bytes; it does not matter how they are cut. -/
import Derived.Test.YtlelemjmknbnaaaGreatDoorReplyHead
import Derived.Test.YtlelemjmknbnaaaGreatDoorBodyEnd
import Derived.Test.YtlelemjmknbnaaaGreatDoorBodyLit
namespace Go.Proofs.YtlelemjmknbnaaaGreatDoor

def hd0 : Hd := ⟨0, 0, false, false⟩
structure Rp where
  ahead : List UInt8
  hd : Hd
  whole : Bool
  body : Option Dc
  wrong : Nat
  room : Nat
  rest : Nat
  ended : Bool
/-- What it came to: 0, the answer is there; 7, it is not over; else what is wrong. -/
def Rp.came (r : Rp) : Nat :=
  match r.body with
  | none => if r.wrong = 0 then 7 else r.wrong
  | some d => if d.wrong = 0 ∧ d.over = false then 7 else d.wrong
/-- What is the head's of bytes; what stands behind it. -/
def Rp.head1 (r : Rp) (b : List UInt8) : Rp × List UInt8 :=
  if (10 : UInt8) ∉ b.take (8192 - r.ahead.length) ∧ (r.ahead ++ b.take (8192 - r.ahead.length)).length < 8192 then ({ r with ahead := r.ahead ++ b.take (8192 - r.ahead.length) }, [])
  else match parseL (r.ahead ++ b.take (8192 - r.ahead.length)) with
    | .err e => ({ r with ahead := [], hd := hd0, whole := false, body := none, wrong := e }, [])
    | .part => ({ r with ahead := r.ahead ++ b.take (8192 - r.ahead.length) }, [])
    | .whole h n => if h.status = 200 then ({ r with ahead := [], hd := h, whole := true, body := some (Dc.made h.length h.chunked r.room), wrong := 0 }, b.drop (n - r.ahead.length))
        else ({ r with ahead := [], hd := h, whole := true, body := none, wrong := 14 }, [])
def Rp.toBody (r : Rp) (b : List UInt8) : Rp :=
  match r.body with
  | none => { r with rest := r.rest + b.length }
  | some d => { r with body := some (d.push b).2, rest := r.rest + (b.length - (d.push b).1) }
def Rp.push (r : Rp) (b : List UInt8) : Rp :=
  if r.body.isNone = true ∧ r.wrong = 0 then (r.head1 b).1.toBody (r.head1 b).2 else r.toBody b
def Rp.fin (r : Rp) : Rp :=
  match r.body with
  | some d => { r with body := some d.ended, ended := true }
  | none => if r.wrong = 0 then { r with ahead := [], hd := hd0, whole := false, body := none, wrong := 15, ended := true } else { r with ended := true }
def Rp.made (room : Nat) : Rp := ⟨[], hd0, false, none, 0, room, 0, false⟩
/-- A reader that got these bytes, however they were cut. -/
def Got (room : Nat) (t : List UInt8) (r : Rp) : Prop :=
  r.room = room ∧ match parseL t with
  | .part => r.ahead = t ∧ r.hd = hd0 ∧ r.body = none ∧ r.wrong = 0
  | .err e => r.ahead = [] ∧ r.body = none ∧ r.wrong = e
  | .whole h n => r.ahead = [] ∧ r.hd = h ∧ if h.status = 200 then r.wrong = 0 ∧ r.body = some ((Dc.made h.length h.chunked room).push (t.drop n)).2 else r.body = none ∧ r.wrong = 14
theorem parseL_nil : parseL [] = .part := by rfl
theorem Got.made (room : Nat) : Got room [] (Rp.made room) := by
  unfold Got
  rw [parseL_nil]
  exact ⟨rfl, rfl, rfl, rfl, rfl⟩
theorem toBody_none {r : Rp} (h : r.body = none) (b : List UInt8) : r.toBody b = { r with rest := r.rest + b.length } := by
  unfold Rp.toBody
  rw [h]
theorem toBody_some {r : Rp} {d : Dc} (h : r.body = some d) (b : List UInt8) : r.toBody b = { r with body := some (d.push b).2, rest := r.rest + (b.length - (d.push b).1) } := by
  unfold Rp.toBody
  rw [h]
theorem Got.push {room : Nat} {t : List UInt8} {r : Rp} (h : Got room t r) (b : List UInt8) : Got room (t ++ b) (r.push b) := by
  obtain ⟨h0, h⟩ := h
  have hm := parseL_more t b
  cases hp : parseL t with
  | err e =>
    rw [hp] at h hm
    simp only [] at h hm
    obtain ⟨h1, h2, h3⟩ := h
    have he := parseL_err hp
    have e1 : r.push b = { r with rest := r.rest + b.length } := by
      unfold Rp.push
      rw [if_neg (by rw [h3]; rintro ⟨-, h⟩; omega)]
      exact toBody_none h2 b
    rw [e1]
    unfold Got
    rw [hm]
    exact ⟨h0, h1, h2, h3⟩
  | whole hh n =>
    have hle := parseL_le hp
    rw [hp] at h hm
    simp only [] at h hm
    obtain ⟨h1, h2, h3⟩ := h
    by_cases hs : hh.status = 200
    · rw [if_pos hs] at h3
      obtain ⟨h3, h4⟩ := h3
      have e1 : r.push b = { r with body := some (((Dc.made hh.length hh.chunked room).push (t.drop n)).2.push b).2, rest := r.rest + (b.length - (((Dc.made hh.length hh.chunked room).push (t.drop n)).2.push b).1) } := by
        unfold Rp.push
        rw [if_neg (by rw [h4]; rintro ⟨h, -⟩; cases h)]
        exact toBody_some h4 b
      rw [e1]
      unfold Got
      rw [hm]
      refine ⟨h0, h1, h2, ?_⟩
      rw [if_pos hs]
      refine ⟨h3, ?_⟩
      rw [List.drop_append_of_le_length hle.2, Dc.push_append]
    · rw [if_neg hs] at h3
      obtain ⟨h3, h4⟩ := h3
      have e1 : r.push b = { r with rest := r.rest + b.length } := by
        unfold Rp.push
        rw [if_neg (by rw [h4]; rintro ⟨-, h⟩; cases h)]
        exact toBody_none h3 b
      rw [e1]
      unfold Got
      rw [hm]
      refine ⟨h0, h1, h2, ?_⟩
      rw [if_neg hs]
      exact ⟨h3, h4⟩
  | part =>
    rw [hp] at h
    simp only [] at h
    obtain ⟨h1, h2, h3, h4⟩ := h
    have hlt := parseL_lt hp
    have e1 : r.push b = (r.head1 b).1.toBody (r.head1 b).2 := by
      unfold Rp.push
      rw [if_pos ⟨by rw [h3]; rfl, h4⟩]
    rw [e1]
    clear e1
    unfold Rp.head1
    rw [h1]
    have hsp : t ++ b = (t ++ b.take (8192 - t.length)) ++ b.drop (8192 - t.length) := by rw [List.append_assoc, List.take_append_drop]
    have hall : (t ++ b.take (8192 - t.length)).length < 8192 → b.take (8192 - t.length) = b := fun hx => by
      rw [List.length_append, List.length_take] at hx
      exact List.take_of_length_le (by omega)
    by_cases hA : (10 : UInt8) ∉ b.take (8192 - t.length) ∧ (t ++ b.take (8192 - t.length)).length < 8192
    · rw [if_pos hA]
      obtain ⟨hA, hB⟩ := hA
      have hb := hall hB
      rw [hb] at hA hB ⊢
      simp only []
      rw [toBody_none (by exact h3)]
      unfold Got
      rw [parseL_none hp hB hA]
      exact ⟨h0, rfl, h2, h3, h4⟩
    · rw [if_neg hA]
      clear hA
      have hm2 := parseL_more (t ++ b.take (8192 - t.length)) (b.drop (8192 - t.length))
      rw [← hsp] at hm2
      cases hq : parseL (t ++ b.take (8192 - t.length)) with
      | err e =>
        rw [hq] at hm2
        simp only [] at hm2 ⊢
        rw [toBody_none rfl]
        unfold Got
        rw [hm2]
        exact ⟨h0, rfl, rfl, rfl⟩
      | part =>
        have hb := hall (parseL_lt hq)
        rw [hb] at hq ⊢
        simp only []
        rw [toBody_none (by exact h3)]
        unfold Got
        rw [hq]
        exact ⟨h0, rfl, h2, h3, h4⟩
      | whole hh n =>
        have hn := parseL_cut hp hq
        rw [hq] at hm2
        simp only [] at hm2 ⊢
        by_cases hs : hh.status = 200
        · rw [if_pos hs]
          rw [toBody_some rfl]
          unfold Got
          rw [hm2]
          refine ⟨h0, rfl, rfl, ?_⟩
          rw [if_pos hs]
          refine ⟨rfl, ?_⟩
          have e : (t ++ b).drop n = b.drop (n - t.length) := by rw [List.drop_append, List.drop_eq_nil_of_le (by omega), List.nil_append]
          rw [e, h0]
        · rw [if_neg hs]
          rw [toBody_none rfl]
          unfold Got
          rw [hm2]
          refine ⟨h0, rfl, rfl, ?_⟩
          rw [if_neg hs]
          exact ⟨rfl, rfl⟩
/-- What is answered behind the connection's end. -/
def Rp.said (r : Rp) : Nat × Nat × List UInt8 := (r.came, if r.came = 0 then (r.hd.status, match r.body with | some d => d.body | none => []) else (0, []))
theorem ended_came (d : Dc) : ¬ (d.ended.wrong = 0 ∧ d.ended.over = false) := by
  unfold Dc.ended
  split
  · rename_i h
    rintro ⟨-, h2⟩
    rw [h] at h2
    cases h2
  · split
    · rintro ⟨-, h2⟩
      simp [Dc.over] at h2
    · rintro ⟨h2, -⟩
      simp [Dc.fail] at h2
def endSaid (room : Nat) (t : List UInt8) : Nat × Nat × List UInt8 :=
  match parseL t with
  | .part => (15, 0, [])
  | .err e => (e, 0, [])
  | .whole h n => if h.status = 200 then
      ((((Dc.made h.length h.chunked room).push (t.drop n)).2.ended).wrong, if (((Dc.made h.length h.chunked room).push (t.drop n)).2.ended).wrong = 0 then (h.status, (((Dc.made h.length h.chunked room).push (t.drop n)).2.ended).body) else (0, []))
      else (14, 0, [])
/-- Behind the connection's end all is told by the bytes. -/
theorem Got.fin {room : Nat} {t : List UInt8} {r : Rp} (h : Got room t r) : r.fin.said = endSaid room t ∧ r.fin.ended = true := by
  obtain ⟨h0, h⟩ := h
  unfold endSaid
  cases hp : parseL t with
  | err e =>
    rw [hp] at h
    obtain ⟨h1, h2, h3⟩ := h
    have he := parseL_err hp
    have e0 : r.fin = { r with ended := true } := by
      unfold Rp.fin
      rw [h2]
      simp only []
      rw [if_neg (by omega)]
      
    rw [e0]
    refine ⟨?_, rfl⟩
    have e1 : ({ r with ended := true } : Rp).came = e := by
      unfold Rp.came
      simp only [h2, h3]
      rw [if_neg (by omega)]
    unfold Rp.said
    rw [e1, if_neg (by omega)]
  | part =>
    rw [hp] at h
    obtain ⟨h1, h2, h3, h4⟩ := h
    have e0 : r.fin = { r with ahead := [], hd := hd0, whole := false, body := none, wrong := 15, ended := true } := by
      unfold Rp.fin
      rw [h3]
      simp only []
      rw [if_pos h4]
    rw [e0]
    exact ⟨rfl, rfl⟩
  | whole hh n =>
    rw [hp] at h
    simp only [] at h ⊢
    obtain ⟨h1, h2, h3⟩ := h
    by_cases hs : hh.status = 200
    · rw [if_pos hs] at h3 ⊢
      obtain ⟨h3, h4⟩ := h3
      generalize ((Dc.made hh.length hh.chunked room).push (t.drop n)).2 = d at h4 ⊢
      have e0 : r.fin = { r with body := some d.ended, ended := true } := by
        unfold Rp.fin
        rw [h4]
      rw [e0]
      refine ⟨?_, rfl⟩
      have e1 : ({ r with body := some d.ended, ended := true } : Rp).came = d.ended.wrong := by
        unfold Rp.came
        simp only []
        rw [if_neg (ended_came d)]
      unfold Rp.said
      rw [e1, h2]
    · rw [if_neg hs] at h3 ⊢
      obtain ⟨h3, h4⟩ := h3
      have e0 : r.fin = { r with ended := true } := by
        unfold Rp.fin
        rw [h3]
        simp only []
        rw [if_neg (by omega)]
        
      rw [e0]
      refine ⟨?_, rfl⟩
      have e1 : ({ r with ended := true } : Rp).came = 14 := by
        unfold Rp.came
        simp only [h3, h4]
        rfl
      unfold Rp.said
      rw [e1, if_neg (by omega)]
theorem Bnd.take1 {d : Dc} {k : Nat} (h : Bnd d (k + 1)) (c : UInt8) : Bnd (d.take1 c) k := by
  unfold Dc.take1
  split
  · exact ⟨by have := h.body; simp; omega, by have := h.line; show d.line.length + k ≤ _; omega, by have := h.trail; show d.trail + k ≤ _; omega, by have := h.left; show d.left - 1 < _; omega, h.room⟩
  · exact h.step c
theorem Bnd.push : ∀ (l : List UInt8) {d : Dc} {k : Nat}, Bnd d (k + l.length) → Bnd (d.push l).2 k
  | [], d, k, h => h
  | c :: l, d, k, h => by
    cases ho : d.over with
    | true => rw [Dc.push_over ho]; exact h.less (by omega)
    | false =>
      rw [Dc.push_one ho]
      exact Bnd.push l (Bnd.take1 (k := k + l.length) (by rw [List.length_cons] at h; rwa [← Nat.add_assoc] at h) c)
theorem Got.seven {room : Nat} {t : List UInt8} {r : Rp} (h : Got room t r) : r.wrong ≠ 7 := by
  obtain ⟨h0, h⟩ := h
  cases hp : parseL t with
  | err e =>
    rw [hp] at h
    have := parseL_err hp
    have := h.2.2
    omega
  | part =>
    rw [hp] at h
    have := h.2.2.2
    omega
  | whole hh n =>
    rw [hp] at h
    have h := h.2.2
    split at h
    · have := h.1; omega
    · have := h.2; omega
/-- A reader without a body, with nothing wrong: the head is not whole. -/
theorem Got.open {room : Nat} {t : List UInt8} {r : Rp} (h : Got room t r) (hb : r.body = none) (hw : r.wrong = 0) : parseL r.ahead = .part ∧ r.ahead = t := by
  obtain ⟨h0, h⟩ := h
  cases hp : parseL t with
  | err e =>
    rw [hp] at h
    have := parseL_err hp
    have := h.2.2
    omega
  | part =>
    rw [hp] at h
    rw [h.1]
    exact ⟨hp, rfl⟩
  | whole hh n =>
    rw [hp] at h
    have h := h.2.2
    split at h
    · rw [hb] at h
      cases h.2
    · have := h.2; omega
theorem Got.bnd {room : Nat} {t : List UInt8} {r : Rp} (h : Got room t r) {k : Nat} (ht : t.length + k ≤ 50000) (hr : room < 9223372036854775808) : ∀ d, r.body = some d → Bnd d k := by
  intro d hd
  obtain ⟨h0, h⟩ := h
  cases hp : parseL t with
  | err e =>
    rw [hp] at h
    rw [h.2.1] at hd
    cases hd
  | part =>
    rw [hp] at h
    rw [h.2.2.1] at hd
    cases hd
  | whole hh n =>
    rw [hp] at h
    have h := h.2.2
    split at h
    · rw [h.2] at hd
      cases hd
      refine Bnd.push _ (bnd_made hr ?_)
      rw [List.length_drop]
      omega
    · rw [h.1] at hd
      cases hd
theorem Got.bnd1 {room : Nat} {t : List UInt8} {r : Rp} (h : Got room t r) (hb : r.body = none) (hw : r.wrong = 0) {l : List UInt8} (ht : t.length + l.length ≤ 50000) (hr : room < 9223372036854775808) : ∀ d, (r.head1 l).1.body = some d → Bnd d (r.head1 l).2.length := by
  intro d hd
  have h0 := h.1
  unfold Rp.head1 at hd ⊢
  split at hd
  · rw [hb] at hd; cases hd
  · rename_i hx
    rw [if_neg hx]
    split at hd
    · cases hd
    · rw [hb] at hd; cases hd
    · rename_i hh n hp
      split at hd
      · rename_i hs
        rw [if_pos hs]
        cases hd
        refine bnd_made (by rw [h0]; exact hr) ?_
        rw [List.length_drop]
        omega
      · cases hd
theorem Rp.push_rest (r : Rp) (l : List UInt8) : (r.push l).rest ≤ r.rest + l.length := by
  have key : ∀ (x : Rp) (b : List UInt8), (x.toBody b).rest ≤ x.rest + b.length := by
    intro x b
    unfold Rp.toBody
    split
    · exact Nat.le_refl _
    · show x.rest + (b.length - _) ≤ _
      omega
  unfold Rp.push
  split
  · have h1 := key (r.head1 l).1 (r.head1 l).2
    have h2 : (r.head1 l).2.length ≤ l.length ∧ (r.head1 l).1.rest = r.rest := by
      unfold Rp.head1
      split
      · exact ⟨by simp, rfl⟩
      · split
        · exact ⟨by simp, rfl⟩
        · exact ⟨by simp, rfl⟩
        · split
          · exact ⟨by simp, rfl⟩
          · exact ⟨by simp, rfl⟩
    omega
  · exact key r l
end Go.Proofs.YtlelemjmknbnaaaGreatDoor
