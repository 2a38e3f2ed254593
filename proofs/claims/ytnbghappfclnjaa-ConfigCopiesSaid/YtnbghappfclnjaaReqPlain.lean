/- Requests, plainly: which bytes may be, a request's text, what stands ahead. -/
import Derived.Lib.IndexMore
import Derived.Lib.IndexLaws
namespace Go.Proofs.Ytnbghappfclnjaa

def hostB (c : UInt8) : Bool := decide ((97 ≤ c.toNat ∧ c.toNat ≤ 122) ∨ (65 ≤ c.toNat ∧ c.toNat ≤ 90) ∨ (48 ≤ c.toNat ∧ c.toNat ≤ 57) ∨ c.toNat = 45 ∨ c.toNat = 46 ∨ c.toNat = 58 ∨ c.toNat = 91 ∨ c.toNat = 93)
def pathB (c : UInt8) : Bool := decide (33 ≤ c.toNat ∧ c.toNat ≤ 126 ∧ c.toNat ≠ 35)
def slashB (l : List UInt8) : Bool := match l with | [] => false | c :: _ => decide (c.toNat = 47)
def mayHost (l : List UInt8) : Bool := decide (0 < l.length) && decide (l.length ≤ 255) && l.all hostB
def mayPath (l : List UInt8) : Bool := slashB l && decide (l.length ≤ 1024) && l.all pathB
def tGet : List UInt8 := [71, 69, 84, 32]
def tHttp : List UInt8 := [32, 72, 84, 84, 80, 47, 49, 46, 49]
def tEnd : List UInt8 := [13, 10]
def tHost : List UInt8 := [72, 111, 115, 116, 58, 32]
def tRest : List UInt8 := [13, 10, 85, 115, 101, 114, 45, 65, 103, 101, 110, 116, 58, 32, 111, 100, 111, 109, 101, 116, 101, 114, 13, 10, 65, 99, 99, 101, 112, 116, 58, 32, 116, 101, 120, 116, 47, 112, 108, 97, 105, 110, 59, 118, 101, 114, 115, 105, 111, 110, 61, 48, 46, 48, 46, 52, 13, 10, 67, 111, 110, 110, 101, 99, 116, 105, 111, 110, 58, 32, 107, 101, 101, 112, 45, 97, 108, 105, 118, 101, 13, 10, 13, 10]
/-- A request of a host and a path. -/
def textL (h p : List UInt8) : List UInt8 := tGet ++ (p ++ (tHttp ++ (tEnd ++ (tHost ++ (h ++ tRest)))))
theorem textL_len (h p : List UInt8) : (textL h p).length = p.length + h.length + 105 := by
  unfold textL
  simp only [List.length_append]
  have e1 : tGet.length = 4 := rfl
  have e2 : tHttp.length = 9 := rfl
  have e3 : tEnd.length = 2 := rfl
  have e4 : tHost.length = 6 := rfl
  have e5 : tRest.length = 84 := rfl
  omega
theorem hostB_ne {c : UInt8} (h : hostB c = true) : (c != 13) = true := by
  unfold hostB at h
  rw [decide_eq_true_eq] at h
  rw [bne_iff_ne]
  rintro rfl
  simp at h
theorem pathB_ne {c : UInt8} (h : pathB c = true) : (c != 32) = true ∧ (c != 13) = true := by
  unfold pathB at h
  rw [decide_eq_true_eq] at h
  constructor
  · rw [bne_iff_ne]; rintro rfl; simp at h
  · rw [bne_iff_ne]; rintro rfl; simp at h
theorem mayHost_iff {l : List UInt8} : mayHost l = true ↔ 0 < l.length ∧ l.length ≤ 255 ∧ ∀ c ∈ l, hostB c = true := by
  unfold mayHost
  simp [and_assoc]
theorem mayPath_iff {l : List UInt8} : mayPath l = true ↔ slashB l = true ∧ l.length ≤ 1024 ∧ ∀ c ∈ l, pathB c = true := by
  unfold mayPath
  simp [and_assoc]
/-- The request of h and p stands ahead in s. -/
structure Ahd (s h p : List UInt8) : Prop where
  host : mayHost h = true
  path : mayPath p = true
  text : textL h p <+: s
theorem Ahd.le {s h p : List UInt8} (a : Ahd s h p) : (textL h p).length ≤ s.length := a.text.length_le
theorem takeWhile_stop {l : List UInt8} {p : UInt8 → Bool} {c : UInt8} (r : List UInt8) (h : ∀ x ∈ l, p x = true) (hc : p c = false) : (l ++ c :: r).takeWhile p = l := by
  induction l with
  | nil => simp [hc]
  | cons a l ih =>
    rw [List.cons_append, List.takeWhile_cons, if_pos (h a (List.mem_cons_self ..)), ih (fun x hx => h x (List.mem_cons.2 (.inr hx)))]
def pathOf (s : List UInt8) : List UInt8 := (s.drop 4).takeWhile (· != 32)
def hostOf (s : List UInt8) : List UInt8 := (s.drop (21 + (pathOf s).length)).takeWhile (· != 13)
theorem Ahd.pathOf {s h p : List UInt8} (a : Ahd s h p) : pathOf s = p := by
  obtain ⟨r, rfl⟩ := a.text
  unfold Go.Proofs.Ytnbghappfclnjaa.pathOf textL
  rw [show tGet ++ (p ++ (tHttp ++ (tEnd ++ (tHost ++ (h ++ tRest))))) ++ r = tGet ++ (p ++ 32 :: (tHttp.tail ++ (tEnd ++ (tHost ++ (h ++ tRest))) ++ r)) by simp [tHttp], List.drop_left' (by rfl)]
  exact takeWhile_stop _ (fun x hx => (pathB_ne ((mayPath_iff.1 a.path).2.2 x hx)).1) (by rfl)
theorem Ahd.hostOf {s h p : List UInt8} (a : Ahd s h p) : hostOf s = h := by
  have hp := a.pathOf
  obtain ⟨r, rfl⟩ := a.text
  unfold Go.Proofs.Ytnbghappfclnjaa.hostOf
  rw [hp]
  have e : textL h p ++ r = (tGet ++ p ++ tHttp ++ tEnd ++ tHost) ++ (h ++ 13 :: (tRest.tail ++ r)) := by
    unfold textL
    simp [tRest]
  rw [e, List.drop_left' (by simp [tGet, tHttp, tEnd, tHost]; omega)]
  exact takeWhile_stop _ (fun x hx => hostB_ne ((mayHost_iff.1 a.host).2.2 x hx)) (by rfl)
/-- The request that stands ahead. -/
def firstB (s : List UInt8) : Option (List UInt8 × List UInt8) :=
  if mayHost (hostOf s) = true ∧ mayPath (pathOf s) = true ∧ textL (hostOf s) (pathOf s) <+: s then some (hostOf s, pathOf s) else none
theorem firstB_iff {s h p : List UInt8} : firstB s = some (h, p) ↔ Ahd s h p := by
  unfold firstB
  constructor
  · intro he
    split at he
    · rename_i hc
      cases he
      exact ⟨hc.1, hc.2.1, hc.2.2⟩
    · cases he
  · intro a
    have e1 := a.hostOf
    have e2 := a.pathOf
    rw [if_pos, e1, e2]
    rw [e1, e2]
    exact ⟨a.host, a.path, a.text⟩
theorem firstB_none {s : List UInt8} (h : ∀ x y, ¬ Ahd s x y) : firstB s = none := by
  cases hf : firstB s with
  | none => rfl
  | some q => exact absurd (firstB_iff.1 hf) (h q.1 q.2)
theorem Ahd.uniq {s h p h' p' : List UInt8} (a : Ahd s h p) (b : Ahd s h' p') : h = h' ∧ p = p' := ⟨a.hostOf.symm.trans b.hostOf, a.pathOf.symm.trans b.pathOf⟩
theorem Ahd.more {s h p : List UInt8} (a : Ahd s h p) (r : List UInt8) : Ahd (s ++ r) h p := ⟨a.host, a.path, a.text.trans (List.prefix_append ..)⟩
theorem Ahd.self {h p : List UInt8} (hh : mayHost h = true) (hp : mayPath p = true) : Ahd (textL h p) h p := ⟨hh, hp, List.prefix_refl _⟩
theorem Ahd.up {s s' h p : List UInt8} (a : Ahd s h p) (hs : s <+: s') : Ahd s' h p := ⟨a.host, a.path, a.text.trans hs⟩
theorem Ahd.size {s h p : List UInt8} (a : Ahd s h p) : (textL h p).length ≤ 1384 := by
  have h1 := (mayHost_iff.1 a.host).2.1
  have h2 := (mayPath_iff.1 a.path).2.1
  rw [textL_len]
  omega
theorem Ahd.cut {s h p : List UInt8} (a : Ahd s h p) {n : Nat} (hn : 1384 ≤ n) : Ahd (s.take n) h p :=
  ⟨a.host, a.path, List.prefix_take_iff.2 ⟨a.text, by have := a.size; omega⟩⟩
theorem firstB_take (s : List UInt8) {n : Nat} (hn : 1384 ≤ n) : firstB (s.take n) = firstB s := by
  cases hf : firstB s with
  | none => exact firstB_none fun x y a => by rw [firstB_iff.2 (a.up (List.take_prefix ..))] at hf; cases hf
  | some q => exact firstB_iff.2 ((firstB_iff.1 hf).cut hn)
theorem firstB_self {h p : List UInt8} (hh : mayHost h = true) (hp : mayPath p = true) (r : List UInt8) : firstB (textL h p ++ r) = some (h, p) := firstB_iff.2 ((Ahd.self hh hp).more r)
/-- A beginning of a request is none. -/
theorem firstB_begin {h p : List UInt8} (hh : mayHost h = true) (hp : mayPath p = true) {n : Nat} (hn : n < (textL h p).length) : firstB ((textL h p).take n) = none :=
  firstB_none fun x y a => by
    obtain ⟨rfl, rfl⟩ := (a.up (List.take_prefix ..)).uniq (Ahd.self hh hp)
    have := a.le
    rw [List.length_take] at this
    omega
def sizeB (o : Option (List UInt8 × List UInt8)) : Nat := match o with | some (h, p) => (textL h p).length | none => 0
def hostR (o : Option (List UInt8 × List UInt8)) : List UInt8 := match o with | some (h, _) => h | none => []
def pathR (o : Option (List UInt8 × List UInt8)) : List UInt8 := match o with | some (_, p) => p | none => []
theorem sizeB_le (s : List UInt8) : sizeB (firstB s) ≤ s.length := by
  cases hf : firstB s with
  | none => exact Nat.zero_le _
  | some q => exact (firstB_iff.1 hf).le
theorem sizeB_pos {s : List UInt8} {q : List UInt8 × List UInt8} (h : firstB s = some q) : 105 ≤ sizeB (firstB s) := by
  rw [h]
  show 105 ≤ (textL q.1 q.2).length
  rw [textL_len]
  omega
theorem sizeB_zero {s : List UInt8} (h : sizeB (firstB s) = 0) : firstB s = none := by
  cases hf : firstB s with
  | none => rfl
  | some q => have := sizeB_pos hf; omega
/-- How many bytes are whole requests, with so many steps. -/
def aheadN : Nat → List UInt8 → Nat
  | 0, _ => 0
  | k + 1, s => sizeB (firstB s) + (if sizeB (firstB s) = 0 then 0 else aheadN k (s.drop (sizeB (firstB s))))
theorem aheadN_succ (k : Nat) (s : List UInt8) : aheadN (k + 1) s = sizeB (firstB s) + (if sizeB (firstB s) = 0 then 0 else aheadN k (s.drop (sizeB (firstB s)))) := rfl
theorem aheadN_more (k : Nat) : ∀ (s : List UInt8) (j : Nat), s.length ≤ k → k ≤ j → aheadN j s = aheadN k s := by
  induction k with
  | zero =>
    intro s j hs hj
    obtain rfl : s = [] := List.eq_nil_of_length_eq_zero (by omega)
    have h0 : sizeB (firstB []) = 0 := by have := sizeB_le []; simpa using this
    cases j with
    | zero => rfl
    | succ j => unfold aheadN; rw [h0]; rfl
  | succ k ih =>
    intro s j hs hj
    obtain ⟨j, rfl⟩ : ∃ i, j = i + 1 := ⟨j - 1, by omega⟩
    unfold aheadN
    by_cases h0 : sizeB (firstB s) = 0
    · rw [if_pos h0, if_pos h0]
    · rw [if_neg h0, if_neg h0, ih (s.drop (sizeB (firstB s))) j (by rw [List.length_drop]; omega) (by omega)]
def aheadB (s : List UInt8) : Nat := aheadN s.length s
theorem aheadB_stop {s : List UInt8} (h : sizeB (firstB s) = 0) : aheadB s = 0 := by
  unfold aheadB
  cases s.length with
  | zero => rfl
  | succ k => unfold aheadN; rw [h]; rfl
theorem aheadB_go {s : List UInt8} (h : sizeB (firstB s) ≠ 0) : aheadB s = sizeB (firstB s) + aheadB (s.drop (sizeB (firstB s))) := by
  have hle := sizeB_le s
  obtain ⟨n, hn⟩ : ∃ n, s.length = n + 1 := ⟨s.length - 1, by omega⟩
  unfold aheadB
  rw [hn, aheadN_succ, if_neg h]
  congr 1
  exact aheadN_more (s.drop (sizeB (firstB s))).length _ n (Nat.le_refl _) (by rw [List.length_drop]; omega)
theorem aheadB_le (s : List UInt8) : aheadB s ≤ s.length := by
  unfold aheadB
  suffices ∀ (k : Nat) (s : List UInt8), aheadN k s ≤ s.length from this _ _
  intro k
  induction k with
  | zero => intro s; exact Nat.zero_le _
  | succ k ih =>
    intro s
    unfold aheadN
    have hle := sizeB_le s
    split
    · omega
    · have := ih (s.drop (sizeB (firstB s)))
      rw [List.length_drop] at this
      omega
theorem aheadB_self {h p : List UInt8} (hh : mayHost h = true) (hp : mayPath p = true) (r : List UInt8) : aheadB (textL h p ++ r) = (textL h p).length + aheadB r := by
  have hf := firstB_self hh hp r
  rw [aheadB_go (by rw [hf]; show (textL h p).length ≠ 0; rw [textL_len]; omega), hf]
  show (textL h p).length + aheadB (List.drop (textL h p).length _) = _
  rw [List.drop_left' rfl]

theorem tGet_ok : ∀ c ∈ tGet, (c != 13) = true := by decide
theorem tHttp_ok : ∀ c ∈ tHttp, (c != 13) = true := by decide
theorem tHost_ok : ∀ c ∈ tHost, (c != 13) = true := by decide
/-- What is cut off at sep. -/
def cutL (s : List UInt8) : List UInt8 := if 0 ≤ Lib.index s tEnd then s.take (Lib.index s tEnd).toNat else s
def cutR (s : List UInt8) : List UInt8 := if 0 ≤ Lib.index s tEnd then s.drop ((Lib.index s tEnd).toNat + 2) else []
def trimP (pre s : List UInt8) : List UInt8 := if pre.isPrefixOf s = true then s.drop pre.length else s
def trimS' (suf s : List UInt8) : List UInt8 := if suf.isSuffixOf s = true then s.take (s.length - suf.length) else s
theorem index_end {a r : List UInt8} (h : ∀ c ∈ a, (c != 13) = true) : Lib.index (a ++ (tEnd ++ r)) tEnd = a.length := by
  refine Lib.index_hit (fun j hj => ?_) (by simp) ?_
  · have hc := h a[j] (List.getElem_mem _)
    unfold Lib.occAt
    rw [List.drop_append_of_le_length (by omega), List.drop_eq_getElem_cons hj, List.cons_append]
    show (13 == a[j] && _) = false
    rw [bne_iff_ne] at hc
    rw [Bool.and_eq_false_iff]
    left
    rw [beq_eq_false_iff_ne]
    exact fun e => hc e.symm
  · unfold Lib.occAt
    rw [List.drop_left' rfl]
    rfl
theorem cutL_end {a r : List UInt8} (h : ∀ c ∈ a, (c != 13) = true) : cutL (a ++ (tEnd ++ r)) = a ∧ cutR (a ++ (tEnd ++ r)) = r := by
  unfold cutL cutR
  rw [index_end h, if_pos (by omega), if_pos (by omega)]
  constructor
  · rw [Int.toNat_natCast, List.take_left' rfl]
  · rw [Int.toNat_natCast, ← List.append_assoc, List.drop_left' (by simp [tEnd])]
def pathP (s : List UInt8) : List UInt8 := trimS' tHttp (trimP tGet (cutL s))
def hostP (s : List UInt8) : List UInt8 := trimP tHost (cutL (cutR s))
theorem Ahd.read {s h p : List UInt8} (a : Ahd s h p) : pathP s = p ∧ hostP s = h := by
  obtain ⟨r, rfl⟩ := a.text
  have hp := (mayPath_iff.1 a.path).2.2
  have hh := (mayHost_iff.1 a.host).2.2
  have h1 : ∀ c ∈ tGet ++ (p ++ tHttp), (c != 13) = true := by
    intro c hc
    rcases List.mem_append.1 hc with hc | hc
    · exact tGet_ok c hc
    · rcases List.mem_append.1 hc with hc | hc
      · exact (pathB_ne (hp c hc)).2
      · exact tHttp_ok c hc
  have h2 : ∀ c ∈ tHost ++ h, (c != 13) = true := by
    intro c hc
    rcases List.mem_append.1 hc with hc | hc
    · exact tHost_ok c hc
    · exact hostB_ne (hh c hc)
  have e1 : textL h p ++ r = (tGet ++ (p ++ tHttp)) ++ (tEnd ++ (tHost ++ (h ++ (tRest ++ r)))) := by
    unfold textL
    simp only [List.append_assoc]
  have e2 : tHost ++ (h ++ (tRest ++ r)) = (tHost ++ h) ++ (tEnd ++ (tRest.drop 2 ++ r)) := by
    simp [tRest, tEnd]
  obtain ⟨c1, c2⟩ := cutL_end (r := tHost ++ (h ++ (tRest ++ r))) h1
  obtain ⟨c3, c4⟩ := cutL_end (r := tRest.drop 2 ++ r) h2
  unfold pathP hostP
  rw [e1, c1, c2, e2, c3]
  constructor
  · unfold trimP
    rw [if_pos (by rw [List.isPrefixOf_iff_prefix]; exact List.prefix_append ..), List.drop_left' rfl]
    unfold trimS'
    rw [if_pos (by rw [List.isSuffixOf_iff_suffix]; exact List.suffix_append ..), List.take_left' (by simp)]
  · unfold trimP
    rw [if_pos (by rw [List.isPrefixOf_iff_prefix]; exact List.prefix_append ..), List.drop_left' rfl]
theorem firstB_read (s : List UInt8) : firstB s = if mayHost (hostP s) = true ∧ mayPath (pathP s) = true ∧ textL (hostP s) (pathP s) <+: s then some (hostP s, pathP s) else none := by
  split
  · rename_i h
    exact firstB_iff.2 ⟨h.1, h.2.1, h.2.2⟩
  · rename_i h
    refine firstB_none fun x y a => h ?_
    obtain ⟨e1, e2⟩ := a.read
    rw [e1, e2]
    exact ⟨a.host, a.path, a.text⟩
end Go.Proofs.Ytnbghappfclnjaa
