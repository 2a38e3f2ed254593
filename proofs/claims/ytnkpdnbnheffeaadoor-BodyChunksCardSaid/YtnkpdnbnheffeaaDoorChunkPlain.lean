/- Chunks, plainly: what is sent in chunks is what is sent by its length. -/
import Derived.Test.YtnkpdnbnheffeaaDoorBodyNum
namespace Go.Proofs.YtnkpdnbnheffeaaDoor

def digH (n : Nat) : UInt8 := if n < 10 then UInt8.ofNat (48 + n) else UInt8.ofNat (87 + n)
theorem digH_val : ∀ n : Fin 16, hexV (digH n.val) = n.val := by decide +kernel
theorem digH_hex : ∀ n : Fin 16, hexC (digH n.val).toNat = true := by decide +kernel
theorem digH_ten : ∀ n : Fin 16, digH n.val ≠ 10 := by decide +kernel
def hexS (n : Nat) : List UInt8 := if n < 16 then [digH n] else hexS (n / 16) ++ [digH (n % 16)]
theorem hexS_small {n : Nat} (h : n < 16) : hexS n = [digH n] := by rw [hexS, if_pos h]
theorem hexS_big {n : Nat} (h : ¬ n < 16) : hexS n = hexS (n / 16) ++ [digH (n % 16)] := by rw [hexS, if_neg h]
theorem hexS_num (n : Nat) : hexN (hexS n) = n := by
  induction n using Nat.strongRecOn with
  | ind n ih =>
    by_cases h : n < 16
    · rw [hexS_small h]
      have := digH_val ⟨n, h⟩
      simpa [hexN] using this
    · rw [hexS_big h, hexN_snoc, ih (n / 16) (by omega)]
      have := digH_val ⟨n % 16, by omega⟩
      simp only [] at this
      rw [this]
      omega
theorem hexS_hex (n : Nat) : ∀ c ∈ hexS n, hexC c.toNat = true ∧ c ≠ 10 := by
  induction n using Nat.strongRecOn with
  | ind n ih =>
    by_cases h : n < 16
    · rw [hexS_small h]
      intro c hc
      rw [List.mem_singleton] at hc
      subst hc
      exact ⟨digH_hex ⟨n, h⟩, digH_ten ⟨n, h⟩⟩
    · rw [hexS_big h]
      intro c hc
      rcases List.mem_append.1 hc with h1 | h1
      · exact ih (n / 16) (by omega) c h1
      · rw [List.mem_singleton] at h1
        subst h1
        exact ⟨digH_hex ⟨n % 16, by omega⟩, digH_ten ⟨n % 16, by omega⟩⟩
theorem hexS_pos (n : Nat) : 0 < (hexS n).length := by
  by_cases h : n < 16
  · rw [hexS_small h]; simp
  · rw [hexS_big h]; simp
theorem hexS_len (n : Nat) : ∀ k, n < 16 ^ (k + 1) → (hexS n).length ≤ k + 1 := by
  induction n using Nat.strongRecOn with
  | ind n ih =>
    intro k hk
    by_cases h : n < 16
    · rw [hexS_small h]; simp
    · cases k with
      | zero => simp at hk; omega
      | succ k =>
        rw [hexS_big h, List.length_append, List.length_singleton]
        have := ih (n / 16) (by omega) k (by rw [Nat.pow_succ] at hk; omega)
        omega
theorem drop_all (p : UInt8 → Bool) : ∀ (l : List UInt8), (∀ c ∈ l, p c = true) → l.dropWhile p = []
  | [], _ => rfl
  | c :: l, h => by
    rw [List.dropWhile_cons, if_pos (h c (by simp))]
    exact drop_all p l (fun x hx => h x (by simp [hx]))
theorem take_allT (p : UInt8 → Bool) : ∀ (l : List UInt8), (∀ c ∈ l, p c = true) → l.takeWhile p = l
  | [], _ => rfl
  | c :: l, h => by
    rw [List.takeWhile_cons, if_pos (h c (by simp)), take_allT p l (fun x hx => h x (by simp [hx]))]
/-- A size line of just its digits. -/
theorem sizeL_hex {h : List UInt8} (hh : ∀ c ∈ h, hexC c.toNat = true) (h0 : 0 < h.length) (h8 : h.length ≤ 8) : sizeL (h ++ [13, 10]) = some (hexN h) := by
  have hs : Lib.hasSuffix (h ++ [13, 10]) tEnd = true := by
    unfold Lib.hasSuffix
    rw [List.isSuffixOf_iff_suffix]
    exact List.suffix_append _ _
  have hc : chopL (h ++ [13, 10]) = h := by
    unfold chopL
    rw [if_pos hs, List.length_append]
    exact List.take_left
  have hp : ∀ c ∈ h, (hexL.contains c) = true := fun c hx => by rw [hex_is]; exact hh c hx
  have hr : restL (h ++ [13, 10]) = [] := by
    unfold restL Lib.trimLeftS
    rw [hc]
    exact drop_all _ h hp
  have hd : digitsL (h ++ [13, 10]) = h := by
    unfold digitsL
    rw [hr, hc]
    have := take_drop_suffix (hexL.contains ·) h
    rw [drop_all _ h hp, take_allT _ h hp] at this
    exact this
  have hcut : Lib.cut ([] : List UInt8) [59] = ([], [], false) := by rfl
  unfold sizeL
  rw [hd, hr, hcut]
  rw [if_pos ⟨hs, h8, by rfl, by rfl, by intro e; rw [e] at h0; simp at h0⟩]
/-- Bytes of a size line, up to its last one. -/
theorem feed : ∀ (l : List UInt8) (d : Dc) (rest : List UInt8), d.left = 0 → d.nx = .size → (∀ c ∈ l, c ≠ 10) → d.line.length + l.length < 256 →
    d.push (l ++ rest) = (l.length + (({ d with line := d.line ++ l } : Dc).push rest).1, (({ d with line := d.line ++ l } : Dc).push rest).2)
  | [], d, rest, _, _, _, _ => by simp
  | c :: l, d, rest, hl, hx, hc, hn => by
    have ho : d.over = false := by unfold Dc.over; rw [hx]; simp
    have ht : d.take1 c = { d with line := d.line ++ [c] } := by
      unfold Dc.take1 Dc.step
      rw [if_neg (by omega), hx]
      show d.size1 c = _
      unfold Dc.size1
      rw [if_pos ⟨hc c (by simp), by simp at hn ⊢; omega⟩, ← hx]
    rw [List.cons_append, Dc.push_one ho, ht, feed l { d with line := d.line ++ [c] } rest hl hx (fun x h => hc x (by simp [h])) (by simp at hn ⊢; omega)]
    simp only [List.append_assoc, List.singleton_append, List.length_cons, Prod.mk.injEq]
    exact ⟨by omega, trivial⟩
/-- A decoder of chunks, between two of them. -/
def chD (room : Nat) (body : List UInt8) : Dc := ⟨0, .size, false, room, [], 0, body, 0⟩
/-- A chunk. -/
def enc1 (k : List UInt8) : List UInt8 := hexS k.length ++ [13] ++ (10 :: (k ++ [13, 10]))
theorem enc1_len (k : List UInt8) : (enc1 k).length = (hexS k.length).length + 4 + k.length := by
  unfold enc1
  simp
  omega
theorem chunk_one (k : List UInt8) (room : Nat) (bd rest : List UInt8) (h0 : 0 < k.length) (h6 : k.length < 65536) (hr : k.length ≤ room) :
    (chD room bd).push (enc1 k ++ rest) = ((enc1 k).length + ((chD (room - k.length) (bd ++ k)).push rest).1, ((chD (room - k.length) (bd ++ k)).push rest).2) := by
  have hlen := hexS_len k.length 3 (by omega)
  have hpos := hexS_pos k.length
  have hhx := hexS_hex k.length
  have hfe := feed (hexS k.length ++ [13]) (chD room bd) (10 :: (k ++ [13, 10]) ++ rest) rfl rfl (fun c hc => by
    rcases List.mem_append.1 hc with h | h
    · exact (hhx c h).2
    · rw [List.mem_singleton] at h
      subst h
      decide) (by show ([] : List UInt8).length + _ < _; simp; omega)
  have hsz : sizeL (hexS k.length ++ [13] ++ [10]) = some k.length := by
    rw [List.append_assoc]
    exact (sizeL_hex (fun c hc => (hhx c hc).1) hpos (by omega)).trans (by rw [hexS_num])
  have e1 : enc1 k ++ rest = hexS k.length ++ [13] ++ (10 :: (k ++ [13, 10]) ++ rest) := by
    unfold enc1
    simp
  rw [e1, hfe]
  have d2 : ({ chD room bd with line := (chD room bd).line ++ (hexS k.length ++ [13]) } : Dc).push (10 :: (k ++ [13, 10]) ++ rest) = (1 + k.length + 2 + ((chD (room - k.length) (bd ++ k)).push rest).1, ((chD (room - k.length) (bd ++ k)).push rest).2) := by
    have ho : ({ chD room bd with line := (chD room bd).line ++ (hexS k.length ++ [13]) } : Dc).over = false := rfl
    have ht : ({ chD room bd with line := (chD room bd).line ++ (hexS k.length ++ [13]) } : Dc).take1 10 = ⟨k.length, .cr, false, room - k.length, [], 0, bd, 0⟩ := by
      show Dc.size1 _ 10 = _
      unfold Dc.size1
      rw [if_neg (by simp)]
      show Dc.sized _ (([] ++ (hexS k.length ++ [13])) ++ [10]) = _
      unfold Dc.sized
      rw [List.nil_append, hsz]
      show (if room < k.length then _ else if k.length = 0 then _ else _) = _
      rw [if_neg (by omega), if_neg (by omega)]
      rfl
    rw [List.cons_append, Dc.push_one ho, ht, List.append_assoc, Dc.push_keep k _ _ (Nat.le_refl _)]
    show (((Dc.mk (k.length - k.length) .cr false (room - k.length) [] 0 (bd ++ k) 0).push (13 :: 10 :: rest)).1 + k.length + 1, ((Dc.mk (k.length - k.length) .cr false (room - k.length) [] 0 (bd ++ k) 0).push (13 :: 10 :: rest)).2) = _
    rw [Nat.sub_self]
    have s1 : (Dc.mk 0 .cr false (room - k.length) [] 0 (bd ++ k) 0).take1 13 = ⟨0, .lf, false, room - k.length, [], 0, bd ++ k, 0⟩ := rfl
    have s2 : (Dc.mk 0 .lf false (room - k.length) [] 0 (bd ++ k) 0).take1 10 = chD (room - k.length) (bd ++ k) := rfl
    rw [Dc.push_one (show (Dc.mk 0 .cr false (room - k.length) [] 0 (bd ++ k) 0).over = false from rfl), s1, Dc.push_one (show (Dc.mk 0 .lf false (room - k.length) [] 0 (bd ++ k) 0).over = false from rfl), s2]
    simp only [Prod.mk.injEq, and_true]
    omega
  rw [d2, enc1_len]
  simp only [Prod.mk.injEq, and_true, List.length_append, List.length_singleton]
  omega
def encL (ks : List (List UInt8)) : List UInt8 := ks.flatMap enc1
theorem encL_snoc (ks : List (List UInt8)) (k : List UInt8) : encL (ks ++ [k]) = encL ks ++ enc1 k := by unfold encL; simp
/-- Chunks, one behind another. -/
theorem chunk_all : ∀ (ks : List (List UInt8)) (room : Nat) (bd rest : List UInt8), (∀ k ∈ ks, 0 < k.length ∧ k.length < 65536) → ks.flatten.length ≤ room →
    (chD room bd).push (encL ks ++ rest) = ((encL ks).length + ((chD (room - ks.flatten.length) (bd ++ ks.flatten)).push rest).1, ((chD (room - ks.flatten.length) (bd ++ ks.flatten)).push rest).2)
  | [], room, bd, rest, _, _ => by simp [encL]
  | k :: ks, room, bd, rest, h, hr => by
    have hk := h k (by simp)
    have e : encL (k :: ks) = enc1 k ++ encL ks := rfl
    rw [List.flatten_cons, List.length_append] at hr
    rw [e, List.append_assoc, chunk_one k room bd _ hk.1 hk.2 (by omega), chunk_all ks _ _ rest (fun x hx => h x (by simp [hx])) (by omega)]
    rw [List.flatten_cons, List.length_append, List.length_append, List.append_assoc, Nat.sub_sub]
    simp only [Prod.mk.injEq, and_true]
    omega
/-- The last chunk, and the empty line. -/
theorem chunk_end (room : Nat) (bd rest : List UInt8) : (chD room bd).push ([48, 13, 10, 13, 10] ++ rest) = (5, ⟨0, .none, false, room, [], 2, bd, 0⟩) := by
  have s1 : (chD room bd).take1 48 = ⟨0, .size, false, room, [48], 0, bd, 0⟩ := rfl
  have s2 : (Dc.mk 0 .size false room [48] 0 bd 0).take1 13 = ⟨0, .size, false, room, [48, 13], 0, bd, 0⟩ := rfl
  have s3 : (Dc.mk 0 .size false room [48, 13] 0 bd 0).take1 10 = ⟨0, .trailer, false, room, [], 0, bd, 0⟩ := by
    show Dc.sized _ [48, 13, 10] = _
    unfold Dc.sized
    rw [show sizeL [48, 13, 10] = some 0 by rfl]
    show (if room < 0 then _ else _) = _
    rw [if_neg (by omega)]
    rfl
  have s4 : (Dc.mk 0 .trailer false room [] 0 bd 0).take1 13 = ⟨0, .trailer, false, room, [13], 1, bd, 0⟩ := rfl
  have s5 : (Dc.mk 0 .trailer false room [13] 1 bd 0).take1 10 = ⟨0, .none, false, room, [], 2, bd, 0⟩ := rfl
  show (chD room bd).push (48 :: 13 :: 10 :: 13 :: 10 :: rest) = _
  rw [Dc.push_one (show (chD room bd).over = false from rfl), s1, Dc.push_one (show (Dc.mk 0 .size false room [48] 0 bd 0).over = false from rfl), s2, Dc.push_one (show (Dc.mk 0 .size false room [48, 13] 0 bd 0).over = false from rfl), s3, Dc.push_one (show (Dc.mk 0 .trailer false room [] 0 bd 0).over = false from rfl), s4, Dc.push_one (show (Dc.mk 0 .trailer false room [13] 1 bd 0).over = false from rfl), s5, Dc.push_over (show (Dc.mk 0 .none false room [] 2 bd 0).over = true from rfl)]
/-- What is sent in chunks. -/
theorem chunked_push (ks : List (List UInt8)) (room : Nat) (rest : List UInt8) (h : ∀ k ∈ ks, 0 < k.length ∧ k.length < 65536) (hr : ks.flatten.length ≤ room) :
    (Dc.made (-1) true room).push (encL ks ++ [48, 13, 10, 13, 10] ++ rest) = ((encL ks).length + 5, ⟨0, .none, false, room - ks.flatten.length, [], 2, ks.flatten, 0⟩) := by
  show (chD room []).push _ = _
  rw [List.append_assoc, chunk_all ks room [] _ h hr, chunk_end]
  rfl
/-- What is sent by its length. -/
theorem length_push (b rest : List UInt8) : (Dc.made (b.length : Int) false b.length).push (b ++ rest) = (b.length, ⟨0, .none, false, 0, [], 0, b, 0⟩) := by
  have hm : Dc.made (b.length : Int) false b.length = ⟨b.length, .none, false, 0, [], 0, [], 0⟩ := by
    unfold Dc.made
    rw [if_neg (by decide), if_neg (by omega), if_neg (by omega)]
    rfl
  rw [hm, Dc.push_keep b _ rest (Nat.le_refl _)]
  have hz : (Dc.mk (b.length - b.length) .none false 0 [] 0 ([] ++ b) 0) = ⟨0, .none, false, 0, [], 0, b, 0⟩ := by rw [Nat.sub_self, List.nil_append]
  show (((Dc.mk (b.length - b.length) .none false 0 [] 0 ([] ++ b) 0).push rest).1 + b.length, ((Dc.mk (b.length - b.length) .none false 0 [] 0 ([] ++ b) 0).push rest).2) = _
  rw [hz, Dc.push_over (show (Dc.mk 0 .none false 0 [] 0 b 0).over = true from rfl)]
  simp
end Go.Proofs.YtnkpdnbnheffeaaDoor
