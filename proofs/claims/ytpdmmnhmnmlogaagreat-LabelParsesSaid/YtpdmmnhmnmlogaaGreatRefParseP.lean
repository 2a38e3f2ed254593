/- The document's Parse as a plain function over what is left of the text; no walk. -/
import Derived.Test.YtpdmmnhmnmlogaaGreatRefQuoted
import Derived.Test.YtpdmmnhmnmlogaaGreatRefName
namespace Go.Proofs.YtpdmmnhmnmlogaaGreat
open Go.RowKit

def rP : Nat → List Lbl → List UInt8 → Option (List Lbl)
  | _, acc, [] => some acc
  | 0, _, _ :: _ => none
  | k + 1, acc, _ :: r =>
    match r.dropWhile (· != 61) with
    | _ :: 34 :: q =>
      if 16 < acc.length then none else
      match qix q with
      | none => none
      | some e => match unescP (q.take e) with
        | none => none
        | some v => if q.drop (e + 1) = [125] then some (acc ++ [(r.takeWhile (· != 61), v)]) else if (q.drop (e + 1)).head? = some 44 then rP k (acc ++ [(r.takeWhile (· != 61), v)]) (q.drop (e + 1)) else none
    | _ => none
theorem upTo_behind {c : UInt8} {m r : List UInt8} (h : c ∉ m) : (m ++ c :: r).takeWhile (· != c) = m ∧ (m ++ c :: r).dropWhile (· != c) = c :: r := by
  induction m with
  | nil => simp
  | cons d m ih =>
    have hd : d ≠ c := fun e => h (e ▸ List.mem_cons_self ..)
    have := ih (fun hm => h (List.mem_cons_of_mem _ hm))
    simp [hd, this]
theorem upTo_none {c : UInt8} {m : List UInt8} (h : c ∉ m) : m.takeWhile (· != c) = m ∧ m.dropWhile (· != c) = [] := by
  induction m with
  | nil => simp
  | cons d m ih =>
    have hd : d ≠ c := fun e => h (e ▸ List.mem_cons_self ..)
    have := ih (fun hm => h (List.mem_cons_of_mem _ hm))
    simp [hd, this]
theorem labT_rest (x : Lbl) (s : List UInt8) : labT x ++ s = x.1 ++ 61 :: 34 :: (escL x.2 ++ 34 :: s) := by simp [labT]
theorem rP_text : ∀ (l : List Lbl) (x : Lbl) (c : UInt8) (acc : List Lbl) (k : Nat), labB x = true → labsB l = true → acc.length + l.length ≤ 15 → l.length ≤ k →
    rP (k + 1) acc (c :: (labT x ++ restT l)) = some (acc ++ x :: l)
  | l, x, c, acc, k, hx, hl, ha, hk => by
    have hw : (61 : UInt8) ∉ x.1 := by
      unfold labB at hx
      rw [Bool.and_eq_true] at hx
      exact wrdB_no hx.1 (by decide)
    have hq := qix_esc (restT l) x.2
    have ht : (escL x.2 ++ 34 :: restT l).take (escL x.2).length = escL x.2 := List.take_left
    have hd : (escL x.2 ++ 34 :: restT l).drop ((escL x.2).length + 1) = restT l := by
      rw [← List.drop_drop, List.drop_left]
      rfl
    rw [labT_rest, rP, (upTo_behind hw).1, (upTo_behind hw).2]
    simp only [if_neg (show ¬ 16 < acc.length by omega), hq, ht, unescP_esc, hd]
    cases l with
    | nil => simp [restT]
    | cons y l =>
      have e1 : ¬ restT (y :: l) = [125] := by simp [restT]
      have e2 : (restT (y :: l)).head? = some 44 := rfl
      rw [if_neg e1, if_pos e2]
      unfold labsB at hl
      rw [List.all_cons, Bool.and_eq_true] at hl
      simp only [List.length_cons] at ha hk
      obtain ⟨j, rfl⟩ : ∃ j, k = j + 1 := ⟨k - 1, by omega⟩
      have ih := rP_text l y 44 (acc ++ [x]) j hl.1 hl.2 (by simp; omega) (by omega)
      rw [show restT (y :: l) = 44 :: (labT y ++ restT l) from rfl]
      rw [show (acc ++ [(x.1, x.2)]) = acc ++ [x] from rfl, ih]
      simp
theorem refP_text {m : List UInt8} {l : List Lbl} (h : validB m l = true) : (textT m l).takeWhile (· != 123) = m ∧ rP 18 [] ((textT m l).dropWhile (· != 123)) = some l := by
  unfold validB at h
  rw [Bool.and_eq_true, decide_eq_true_eq] at h
  have hm : (123 : UInt8) ∉ m := metB_no (checkB_met h.1) (by decide)
  cases l with
  | nil =>
    have e : textT m [] = m := by simp [textT, bodyT]
    rw [e, (upTo_none hm).1, (upTo_none hm).2]
    exact ⟨rfl, rfl⟩
  | cons x l =>
    have e : textT m (x :: l) = m ++ 123 :: (labT x ++ restT l) := rfl
    have hl := checkB_labs h.1
    unfold labsB at hl
    rw [List.all_cons, Bool.and_eq_true] at hl
    rw [e, (upTo_behind hm).1, (upTo_behind hm).2]
    have h2 := h.2
    simp only [List.length_cons] at h2
    exact ⟨rfl, rP_text l x 123 [] 17 hl.1 hl.2 (by simp; omega) (by omega)⟩
/-- What the document's Parse answers. -/
def refC (s : List UInt8) : Option (List UInt8 × List Lbl) :=
  match rP 18 [] (s.dropWhile (· != 123)) with
  | none => none
  | some l => if nameP (s.takeWhile (· != 123)) l = some s then some (s.takeWhile (· != 123), l) else none
theorem nameP_parse {m t : List UInt8} {l : List Lbl} (h : nameP m l = some t) : parseP t = some (m, sortP l) := by
  unfold nameP at h
  split at h
  · rename_i hc
    cases h
    refine parseP_text ?_
    unfold validB
    rw [hc.2, decide_eq_true (by rw [sortP_len]; exact hc.1)]
    rfl
  · cases h
theorem refC_parse (s : List UInt8) : refC s = parseP s := by
  cases hp : parseP s with
  | some p =>
    obtain ⟨m, l⟩ := p
    obtain ⟨hv, hs⟩ := parseP_sound hp
    unfold refC
    rw [hs, (refP_text hv).1, (refP_text hv).2]
    simp [nameP_valid hv]
  | none =>
    unfold refC
    split
    · rfl
    · rw [if_neg]
      intro hn
      rw [nameP_parse hn] at hp
      cases hp
end Go.Proofs.YtpdmmnhmnmlogaaGreat
