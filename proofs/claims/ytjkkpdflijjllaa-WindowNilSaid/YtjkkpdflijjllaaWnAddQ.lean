/- Windows' Add and Clock, plainly: what holds stays. -/
import Derived.Test.YtjkkpdflijjllaaWnFirst
namespace Go.Proofs.Ytjkkpdflijjllaa

def isW (n : Int) (L : List Wn) : Bool := L.any fun x => x.num == n
/-- Behind the last window that is ahead of n. -/
def posW (n : Int) : List Wn → Nat
  | [] => 0
  | x :: l => if posW n l = 0 then (if x.num < n then 1 else 0) else posW n l + 1
theorem isW_snoc (n : Int) (l : List Wn) (x : Wn) : isW n (l ++ [x]) = (isW n l || x.num == n) := by
  unfold isW
  simp
theorem posW_snoc (n : Int) (x : Wn) : ∀ l : List Wn, posW n (l ++ [x]) = if x.num < n then l.length + 1 else posW n l
  | [] => by simp [posW]
  | y :: l => by
    simp only [List.cons_append, posW, posW_snoc n x l]
    by_cases h : x.num < n
    · simp [h]
    · simp [h]
theorem posW_le (n : Int) : ∀ l : List Wn, posW n l ≤ l.length
  | [] => Nat.le_refl _
  | x :: l => by
    have := posW_le n l
    simp only [posW, List.length_cons]
    split
    · split <;> omega
    · omega
def SrtW (L : List Wn) : Prop := L.Pairwise fun a b => a.num < b.num
theorem posW_parts (n : Int) : ∀ {l : List Wn}, SrtW l → (∀ x ∈ l.take (posW n l), x.num < n) ∧ ∀ x ∈ l.drop (posW n l), n ≤ x.num
  | [], _ => ⟨by simp, by simp⟩
  | x :: l, h => by
    have h1 := List.pairwise_cons.1 h
    have ih := posW_parts n h1.2
    by_cases hp : posW n l = 0
    · by_cases hx : x.num < n
      · have e : posW n (x :: l) = 1 := by simp [posW, hp, hx]
        rw [e]
        rw [hp] at ih
        refine ⟨fun y hy => ?_, fun y hy => ih.2 y (by simpa using hy)⟩
        have : y = x := by simpa using hy
        rw [this]
        exact hx
      · have e : posW n (x :: l) = 0 := by simp [posW, hp, hx]
        rw [e]
        refine ⟨by simp, fun y hy => ?_⟩
        rcases List.mem_cons.1 (by simpa using hy) with rfl | hy
        · omega
        · have := h1.1 y hy
          omega
    · have e : posW n (x :: l) = posW n l + 1 := by simp [posW, hp]
      rw [e]
      refine ⟨fun y hy => ?_, fun y hy => ih.2 y (by simpa using hy)⟩
      rw [List.take_succ_cons] at hy
      rcases List.mem_cons.1 hy with rfl | hy
      · obtain ⟨z, hz⟩ : ∃ z, z ∈ l.take (posW n l) := by
          cases l with
          | nil => simp [posW] at hp
          | cons a l => exact ⟨a, by
              obtain ⟨k, hk⟩ : ∃ k, posW n (a :: l) = k + 1 := ⟨posW n (a :: l) - 1, by omega⟩
              rw [hk]
              simp⟩
        have h2 := ih.1 z hz
        have h3 := h1.1 z (List.mem_of_mem_take hz)
        omega
      · exact ih.1 y hy
theorem isW_at {n : Int} {l : List Wn} (h : SrtW l) (hi : isW n l = true) : ∃ x, l[posW n l]? = some x ∧ x.num = n := by
  unfold isW at hi
  rw [List.any_eq_true] at hi
  obtain ⟨y, hy, he⟩ := hi
  have he : y.num = n := by simpa using he
  obtain ⟨h1, h2⟩ := posW_parts n h
  have hd : y ∈ l.drop (posW n l) := by
    rw [← List.take_append_drop (posW n l) l] at hy
    rcases List.mem_append.1 hy with h3 | h3
    · have := h1 y h3
      omega
    · exact h3
  have hs : SrtW (l.drop (posW n l)) := h.sublist (List.drop_sublist _ _)
  cases hq : l.drop (posW n l) with
  | nil => rw [hq] at hd; cases hd
  | cons x q =>
    refine ⟨x, ?_, ?_⟩
    · have : (l.drop (posW n l))[0]? = some x := by rw [hq]; rfl
      rwa [List.getElem?_drop, Nat.add_zero] at this
    · rw [hq] at hd hs h2
      have h4 := h2 x (List.mem_cons_self ..)
      rcases List.mem_cons.1 hd with rfl | hd
      · exact he
      · have := (List.pairwise_cons.1 hs).1 y hd
        omega
theorem isW_not {n : Int} {l : List Wn} (hi : isW n l = false) : ∀ x ∈ l, x.num ≠ n := by
  intro x hx e
  have : isW n l = true := by
    unfold isW
    rw [List.any_eq_true]
    exact ⟨x, hx, by simpa using e⟩
  rw [this] at hi
  cases hi
def wnAt (L : List Wn) (k : Nat) : List Cr := ((L[k]?).map Wn.cr).getD []
/-- A gain is credited to the window n, which is at a place, or comes there. -/
def putW (S : Ws) (n : Int) (name : ByteArray) (inc : Int) (is : Bool) (k : Nat) : Ws :=
  { S with cred := S.cred + 1, L := S.L.take k ++ ⟨n, credL name inc (if is then wnAt S.L k else [])⟩ :: S.L.drop (if is then k + 1 else k) }
def lateW (S : Ws) (tm inc : Int) : Bool := decide (tm < 0) || decide (1125899906842624 < tm) || decide (inc < 0) || decide (Int.tdiv tm S.len ≤ S.floor)
def fullW (S : Ws) (n : Int) : Bool := !isW n S.L && ((S.L.length : Int) == S.most)
def addW (S : Ws) (name : ByteArray) (tm inc : Int) : Bool × List Wn × Ws :=
  if lateW S tm inc || (fullW S (Int.tdiv tm S.len) && posW (Int.tdiv tm S.len) S.L == 0) then (true, [], { S with late := S.late + 1 })
  else if fullW S (Int.tdiv tm S.len) then (false, S.L.take 1, putW (firstW S) (Int.tdiv tm S.len) name inc false (posW (Int.tdiv tm S.len) S.L - 1))
  else (false, [], putW S (Int.tdiv tm S.len) name inc (isW (Int.tdiv tm S.len) S.L) (posW (Int.tdiv tm S.len) S.L))
def markW (S : Ws) (now : Int) : Int := if now < S.mark then max now (-1) else S.mark
/-- How many close. -/
def shutW (len lat mark : Int) : List Wn → Nat
  | [] => 0
  | x :: l => if (x.num + 1) * len + lat ≤ mark then shutW len lat mark l + 1 else 0
def firstsW (S : Ws) : Nat → Ws
  | 0 => S
  | k + 1 => firstW (firstsW S k)
def endW (S : Ws) (mark : Int) : Ws := if S.len ≤ mark - S.lat ∧ S.floor < Int.tdiv (mark - S.lat) S.len - 1 then { S with floor := Int.tdiv (mark - S.lat) S.len - 1 } else S
def clockW (S : Ws) (now : Int) : List Wn × Ws :=
  (S.L.take (shutW S.len S.lat (markW S now) S.L), endW (firstsW S (shutW S.len S.lat (markW S now) S.L)) (markW S now))
/-- What holds of all windows that come about; N gains at most have come. -/
structure WsOk (S : Ws) (N : Nat) : Prop where
  len : 1 ≤ S.len ∧ S.len ≤ 1073741824
  lat : 0 ≤ S.lat ∧ S.lat ≤ 1073741824
  most : 1 ≤ S.most ∧ S.most ≤ 64
  room : (S.L.length : Int) ≤ S.most
  mark : -1 ≤ S.mark ∧ S.mark ≤ 1125899906842624
  floor : -1 ≤ S.floor ∧ S.floor ≤ 1125899906842624
  cred : 0 ≤ S.cred ∧ S.cred ≤ N
  late : 0 ≤ S.late ∧ S.late ≤ N
  srt : SrtW S.L
  each : ∀ x ∈ S.L, 0 ≤ x.num ∧ x.num * S.len ≤ 1125899906842624 ∧ S.floor < x.num ∧ x.cr ≠ [] ∧ x.cr.length ≤ N ∧ COk x.cr
theorem WsOk.new {len lat most : Int} (h : mayW len lat most = 0) : WsOk (newW len lat most) 0 := by
  unfold mayW at h
  split at h
  · cases h
  · rename_i hn
    refine ⟨?_, ?_, ?_, ?_, ?_, ?_, ?_, ?_, .nil, fun x hx => by cases hx⟩
    all_goals (simp only [newW, List.length_nil]; omega)
theorem WsOk.note {S : Ws} {N : Nat} (h : WsOk S N) (t : Int) : WsOk (noteW S t) N := by
  unfold noteW
  split
  · rename_i ht
    exact ⟨h.len, h.lat, h.most, h.room, by have := h.mark; simp only; omega, h.floor, h.cred, h.late, h.srt, h.each⟩
  · exact h
theorem WsOk.mono {S : Ws} {N M : Nat} (h : WsOk S N) (hm : N ≤ M) : WsOk S M :=
  ⟨h.len, h.lat, h.most, h.room, h.mark, h.floor, by have := h.cred; omega, by have := h.late; omega, h.srt, fun x hx => by
    obtain ⟨a, b, c, d, e, f⟩ := h.each x hx
    exact ⟨a, b, c, d, by omega, f⟩⟩
theorem WsOk.first {S : Ws} {N : Nat} (h : WsOk S N) {x : Wn} {L : List Wn} (hL : S.L = x :: L) : WsOk (firstW S) N ∧ (firstW S).L = L ∧ (firstW S).floor = x.num ∧ (firstW S).len = S.len ∧ (firstW S).lat = S.lat ∧ (firstW S).most = S.most ∧ (firstW S).mark = S.mark := by
  have hx := h.each x (by rw [hL]; simp)
  have hs : SrtW (x :: L) := by rw [← hL]; exact h.srt
  have e : firstW S = { S with L := L, floor := x.num } := by
    unfold firstW
    rw [hL]
    simp only
    rw [if_pos hx.2.2.1]
  rw [e]
  refine ⟨⟨h.len, h.lat, h.most, ?_, h.mark, ?_, h.cred, h.late, (List.pairwise_cons.1 hs).2, fun y hy => ?_⟩, rfl, rfl, rfl, rfl, rfl, rfl⟩
  · have := h.room
    rw [hL] at this
    simp at this
    show (L.length : Int) ≤ S.most
    omega
  · have h1 := hx.1
    have h2 := hx.2.1
    have h3 := h.len
    simp only
    refine ⟨by omega, ?_⟩
    have : x.num * 1 ≤ x.num * S.len := Int.mul_le_mul_of_nonneg_left h3.1 h1
    omega
  · obtain ⟨a, b, c, d, e, f⟩ := h.each y (by rw [hL]; simp [hy])
    exact ⟨a, b, (List.pairwise_cons.1 hs).1 y hy, d, e, f⟩
theorem credG_len (n : ByteArray) (inc : Int) : ∀ (done : Bool) (l : List Cr), (credG n inc done l).length ≤ l.length + 1 := by
  intro done l
  have h := credT_len n inc done l
  rw [credG_T]
  rw [List.length_append]
  cases hd : (credT n inc done l).2 with
  | true => simp; omega
  | false =>
    simp
    -- nothing was told ahead
    have : ∀ (done : Bool) (l : List Cr), (credT n inc done l).2 = false → (credT n inc done l).1.length = l.length := by
      intro done l
      induction l generalizing done with
      | nil => simp [credT]
      | cons x l ih =>
        have ht : ∀ l : List Cr, (credT n inc true l).2 = true := by
          intro l
          induction l with
          | nil => rfl
          | cons y l ih2 =>
            simp only [credT]
            split
            · exact ih2
            · simp [ih2]
        simp only [credT]
        split
        · intro h; simp only at h; rw [ht] at h; cases h
        · split
          · intro h; simp only at h; rw [ht] at h; cases h
          · intro h; simp only at h ⊢; rw [List.length_cons, List.length_cons, ih done h]
    have := this done l hd
    omega
theorem credG_ne (n : ByteArray) (inc : Int) : ∀ (l : List Cr), credG n inc false l ≠ []
  | [] => by simp [credG]
  | x :: l => by
    unfold credG
    split
    · simp
    · split <;> simp
/-- A gain that is credited to its place. -/
theorem WsOk.put {S : Ws} {N : Nat} (h : WsOk S N) {n inc : Int} {name : ByteArray} (hn : 0 ≤ n) (hl : n * S.len ≤ 1125899906842624) (hf : S.floor < n) (hi : 0 ≤ inc ∧ inc ≤ 9223372036854775807)
    (hr : isW n S.L = true ∨ (S.L.length : Int) < S.most) : WsOk (putW S n name inc (isW n S.L) (posW n S.L)) (N + 1) := by
  obtain ⟨p1, p2⟩ := posW_parts n h.srt
  have hcr : ∀ c : List Cr, COk c → c.length ≤ N → credL name inc c ≠ [] ∧ (credL name inc c).length ≤ N + 1 ∧ COk (credL name inc c) := fun c h1 h2 =>
    ⟨credG_ne _ _ _, by have := credG_len name inc false c; unfold credL; omega, credG_ok hi h1⟩
  have hnew : ∀ is : Bool, isW n S.L = is → credL name inc (if is then wnAt S.L (posW n S.L) else []) ≠ [] ∧ (credL name inc (if is then wnAt S.L (posW n S.L) else [])).length ≤ N + 1 ∧ COk (credL name inc (if is then wnAt S.L (posW n S.L) else [])) := by
    intro is he
    cases is with
    | false => exact hcr [] (fun x hx => by cases hx) (Nat.zero_le _)
    | true =>
      obtain ⟨x, hx, _⟩ := isW_at h.srt he
      have hm := h.each x (List.mem_of_getElem? hx)
      have e : wnAt S.L (posW n S.L) = x.cr := by unfold wnAt; rw [hx]; rfl
      simp only [if_true]
      rw [e]
      exact hcr x.cr hm.2.2.2.2.2 hm.2.2.2.2.1
  have hdrop : ∀ x ∈ S.L.drop (if isW n S.L then posW n S.L + 1 else posW n S.L), n < x.num ∧ x ∈ S.L := by
    intro x hx
    cases hi : isW n S.L with
    | false =>
      rw [hi] at hx
      simp only [Bool.false_eq_true, if_false] at hx
      have h1 := p2 x hx
      have h2 := isW_not hi x (List.mem_of_mem_drop hx)
      exact ⟨by omega, List.mem_of_mem_drop hx⟩
    | true =>
      rw [hi] at hx
      simp only [if_true] at hx
      obtain ⟨y, hy, hyn⟩ := isW_at h.srt hi
      have hs : SrtW (S.L.drop (posW n S.L)) := h.srt.sublist (List.drop_sublist _ _)
      obtain ⟨hlt, hge⟩ := List.getElem?_eq_some_iff.1 hy
      rw [List.drop_eq_getElem_cons hlt, hge] at hs
      have := (List.pairwise_cons.1 hs).1 x hx
      exact ⟨by omega, List.mem_of_mem_drop hx⟩
  have hlen : (((putW S n name inc (isW n S.L) (posW n S.L)).L.length : Nat) : Int) ≤ S.most := by
    have h1 := posW_le n S.L
    have h2 := h.room
    simp only [putW, List.length_append, List.length_cons, List.length_take, List.length_drop]
    rcases hr with hr | hr
    · rw [hr]
      obtain ⟨y, hy, hyn⟩ := isW_at h.srt hr
      obtain ⟨hlt, hge⟩ := List.getElem?_eq_some_iff.1 hy
      simp only [if_true]
      omega
    · split <;> omega
  refine ⟨h.len, h.lat, h.most, hlen, h.mark, h.floor, by have := h.cred; simp only [putW]; omega, by have := h.late; simp only [putW]; omega, ?_, fun x hx => ?_⟩
  · simp only [putW]
    refine List.pairwise_append.2 ⟨h.srt.sublist (List.take_sublist _ _), List.pairwise_cons.2 ⟨fun y hy => (hdrop y hy).1, h.srt.sublist (List.drop_sublist _ _)⟩, fun a ha c hc => ?_⟩
    have h1 := p1 a ha
    rcases List.mem_cons.1 hc with rfl | hc
    · exact h1
    · have := (hdrop c hc).1
      omega
  · simp only [putW] at hx ⊢
    rcases List.mem_append.1 hx with hx | hx
    · obtain ⟨a, b, c, d, e, f⟩ := h.each x (List.mem_of_mem_take hx)
      exact ⟨a, b, c, d, by omega, f⟩
    · rcases List.mem_cons.1 hx with rfl | hx
      · exact ⟨hn, hl, hf, hnew _ rfl⟩
      · obtain ⟨a, b, c, d, e, f⟩ := h.each x (hdrop x hx).2
        exact ⟨a, b, c, d, by omega, f⟩
end Go.Proofs.Ytjkkpdflijjllaa

namespace Go.Proofs.Ytjkkpdflijjllaa

theorem posW_tail {n : Int} {x : Wn} {l : List Wn} (h : posW n (x :: l) ≠ 0) : posW n (x :: l) - 1 = posW n l := by
  simp only [posW] at h ⊢
  split
  · rename_i h0
    rw [if_pos h0] at h
    split
    · omega
    · rename_i h1
      rw [if_neg h1] at h
      omega
  · omega
theorem lateW_no {S : Ws} {N : Nat} {tm inc : Int} (h : WsOk S N) (hl : lateW S tm inc = false) : 0 ≤ tm ∧ tm ≤ 1125899906842624 ∧ 0 ≤ inc ∧ S.floor < Int.tdiv tm S.len ∧ 0 ≤ Int.tdiv tm S.len ∧ Int.tdiv tm S.len * S.len ≤ 1125899906842624 := by
  unfold lateW at hl
  simp only [Bool.or_eq_false_iff, decide_eq_false_iff_not] at hl
  obtain ⟨⟨⟨h1, h2⟩, h3⟩, h4⟩ := hl
  have hlen := h.len.1
  have e : Int.tdiv tm S.len = tm / S.len := Int.tdiv_eq_ediv_of_nonneg (by omega)
  rw [e] at h4 ⊢
  have h5 := Int.ediv_nonneg (a := tm) (b := S.len) (by omega) (by omega)
  have h6 := Int.ediv_mul_le tm (b := S.len) (by omega)
  exact ⟨by omega, by omega, by omega, by omega, h5, by omega⟩
theorem WsOk.add {S : Ws} {N : Nat} (h : WsOk S N) (name : ByteArray) (tm inc : Int) (hi : inc ≤ 9223372036854775807) : WsOk (addW S name tm inc).2.2 (N + 1) := by
  unfold addW
  split
  · have h2 := h.mono (Nat.le_succ N)
    exact ⟨h2.len, h2.lat, h2.most, h2.room, h2.mark, h2.floor, h2.cred, by have := h.late; simp only; omega, h2.srt, h2.each⟩
  · rename_i hn
    simp only [Bool.or_eq_true, not_or, Bool.not_eq_true] at hn
    obtain ⟨hl, hfp⟩ := hn
    obtain ⟨h1, h2, h3, h4, h5, h6⟩ := lateW_no h hl
    generalize Int.tdiv tm S.len = n at *
    split
    · rename_i hf
      rw [hf] at hfp
      have hp : posW n S.L ≠ 0 := by simpa using hfp
      unfold fullW at hf
      simp only [Bool.and_eq_true, Bool.not_eq_true', beq_iff_eq] at hf
      cases hL : S.L with
      | nil => rw [hL] at hp; simp [posW] at hp
      | cons x L =>
        obtain ⟨k1, k2, k3, k4, k5, k6, k7⟩ := h.first hL
        have hni : isW n L = false := by
          have := hf.1
          rw [hL] at this
          unfold isW at this ⊢
          rw [List.any_cons] at this
          simp only [Bool.or_eq_false_iff] at this
          exact this.2
        have hpt : posW n (x :: L) - 1 = posW n L := posW_tail (by rw [← hL]; exact hp)
        have hxn : x.num < n := by
          obtain ⟨q1, _⟩ := posW_parts n h.srt
          refine q1 x ?_
          obtain ⟨k, hk⟩ : ∃ k, posW n S.L = k + 1 := ⟨posW n S.L - 1, by omega⟩
          rw [hk, hL]
          simp
        have := k1.put (n := n) (inc := inc) (name := name) h5 (by rw [k4]; exact h6) (by rw [k3]; exact hxn) ⟨h3, hi⟩ (.inr (by
          rw [k2, k6, ← hf.2, hL, List.length_cons]
          omega))
        rw [k2, hni] at this
        rw [hpt]
        exact this
    · rename_i hf
      refine h.put h5 h6 h4 ⟨h3, hi⟩ ?_
      unfold fullW at hf
      cases hw : isW n S.L with
      | true => exact .inl rfl
      | false =>
        rw [hw] at hf
        simp at hf
        have := h.room
        exact .inr (by omega)
theorem shutW_le (len lat mark : Int) : ∀ l : List Wn, shutW len lat mark l ≤ l.length
  | [] => Nat.le_refl _
  | x :: l => by
    have := shutW_le len lat mark l
    unfold shutW
    split
    · simp; omega
    · exact Nat.zero_le _
theorem shutW_lt {len lat mark : Int} : ∀ {l : List Wn} {k : Nat} {x : Wn}, k < shutW len lat mark l → l[k]? = some x → (x.num + 1) * len + lat ≤ mark
  | [], k, x, h, _ => by simp [shutW] at h
  | y :: l, k, x, h, hx => by
    unfold shutW at h
    split at h
    · rename_i hc
      cases k with
      | zero => simp at hx; rw [← hx]; exact hc
      | succ k =>
        simp at hx
        exact shutW_lt (by omega) hx
    · omega
theorem shutW_at {len lat mark : Int} : ∀ {l : List Wn} {x : Wn}, l[shutW len lat mark l]? = some x → ¬ (x.num + 1) * len + lat ≤ mark
  | [], x, h => by simp at h
  | y :: l, x, h => by
    unfold shutW at h
    split at h
    · rename_i hc
      simp at h
      exact shutW_at h
    · rename_i hc
      simp at h
      rw [← h]
      exact hc
theorem WsOk.firsts {S : Ws} {N : Nat} (h : WsOk S N) : ∀ {k : Nat}, k ≤ S.L.length → WsOk (firstsW S k) N ∧ (firstsW S k).L = S.L.drop k ∧ (firstsW S k).len = S.len ∧ (firstsW S k).lat = S.lat ∧ (firstsW S k).most = S.most ∧ (firstsW S k).mark = S.mark
  | 0, _ => ⟨h, rfl, rfl, rfl, rfl, rfl⟩
  | k + 1, hk => by
    obtain ⟨a, b, c, d, e, f⟩ := h.firsts (k := k) (by omega)
    have hd : (firstsW S k).L = S.L[k] :: S.L.drop (k + 1) := by rw [b]; exact List.drop_eq_getElem_cons (by omega)
    obtain ⟨k1, k2, k3, k4, k5, k6, k7⟩ := a.first hd
    exact ⟨k1, k2, k4.trans c, k5.trans d, k6.trans e, k7.trans f⟩
theorem markW_le {S : Ws} {N : Nat} (h : WsOk S N) (now : Int) : -1 ≤ markW S now ∧ markW S now ≤ S.mark := by
  have := h.mark
  unfold markW
  split <;> omega
theorem WsOk.clock {S : Ws} {N : Nat} (h : WsOk S N) (now : Int) : WsOk (clockW S now).2 N := by
  unfold clockW
  simp only
  obtain ⟨hm1, hm2⟩ := markW_le h now
  generalize markW S now = mark at *
  obtain ⟨a, b, c, d, e, f⟩ := h.firsts (shutW_le S.len S.lat mark S.L)
  have hat := fun x => shutW_at (len := S.len) (lat := S.lat) (mark := mark) (l := S.L) (x := x)
  generalize shutW S.len S.lat mark S.L = k at *
  unfold endW
  split
  · rename_i hc
    have hlen := h.len
    have hmk := h.mark
    have hlat := h.lat
    rw [c, d] at hc
    rw [c, d]
    have e0 : Int.tdiv (mark - S.lat) S.len = (mark - S.lat) / S.len := Int.tdiv_eq_ediv_of_nonneg (by omega)
    have hge : 1 ≤ (mark - S.lat) / S.len := by
      rw [Int.le_ediv_iff_mul_le (by omega)]
      omega
    have hle : (mark - S.lat) / S.len ≤ mark - S.lat := Int.ediv_le_self _ (by omega)
    rw [e0] at hc ⊢
    refine ⟨c ▸ h.len, d ▸ h.lat, e ▸ h.most, a.room, a.mark, ?_, a.cred, a.late, a.srt, fun x hx => ?_⟩
    · simp only
      omega
    · simp only at hx ⊢
      obtain ⟨x1, x2, x3, x4, x5, x6⟩ := a.each x hx
      rw [c] at x2
      refine ⟨x1, by first | exact x2 | (rw [c]; exact x2), ?_, x4, x5, x6⟩
      rw [b] at hx
      have hs : SrtW (S.L.drop k) := h.srt.sublist (List.drop_sublist _ _)
      cases hd : S.L.drop k with
      | nil => rw [hd] at hx; cases hx
      | cons y l =>
        have hy : S.L[k]? = some y := by
          have : (S.L.drop k)[0]? = some y := by rw [hd]; rfl
          rwa [List.getElem?_drop, Nat.add_zero] at this
        have hny := hat y hy
        have h1 : (mark - S.lat) / S.len < y.num + 1 := by
          rw [Int.ediv_lt_iff_lt_mul (by omega)]
          omega
        rw [hd] at hx hs
        rcases List.mem_cons.1 hx with rfl | hx
        · omega
        · have := (List.pairwise_cons.1 hs).1 x hx
          omega
  · exact a
end Go.Proofs.Ytjkkpdflijjllaa
