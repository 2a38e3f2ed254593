/- The program's Clock, isLate. -/
import Derived.Test.YtjkkpdflijjllaaWiClose
import Derived.StillTailTactics
namespace Go.Proofs.Ytjkkpdflijjllaa

theorem firsts_floor {S : Ws} {N : Nat} (h : WsOk S N) {last : Int} : ∀ {k : Nat}, k ≤ upW last S.L → ∃ fk, firstsW S k = { S with L := S.L.drop k, floor := fk } ∧ S.floor ≤ fk ∧ fk ≤ max S.floor last
  | 0, _ => ⟨S.floor, by simp [firstsW], by omega, by omega⟩
  | k + 1, hk => by
    obtain ⟨fk, e, h1, h2⟩ := firsts_floor h (last := last) (k := k) (by omega)
    have hle := upW_le last S.L
    have hlt : k < S.L.length := by omega
    have hx : S.L[k]? = some S.L[k] := List.getElem?_eq_getElem hlt
    have hxl := upW_lt (show k < upW last S.L by omega) hx
    have hd : S.L.drop k = S.L[k] :: S.L.drop (k + 1) := List.drop_eq_getElem_cons hlt
    refine ⟨if fk < S.L[k].num then S.L[k].num else fk, ?_, ?_, ?_⟩
    · show firstW (firstsW S k) = _
      rw [e]
      unfold firstW
      simp only [hd]
    · split <;> omega
    · split <;> omega
theorem shut_up {S : Ws} {N : Nat} (h : WsOk S N) (mk : Int) (hm : S.lat ≤ mk) : ∀ l : List Wn, shutW S.len S.lat mk l = upW (Int.tdiv (mk - S.lat) S.len - 1) l
  | [] => rfl
  | x :: l => by
    have ih := shut_up h mk hm l
    have hl := h.len.1
    have e : Int.tdiv (mk - S.lat) S.len = (mk - S.lat) / S.len := Int.tdiv_eq_ediv_of_nonneg (by omega)
    have hiff : (x.num + 1) * S.len + S.lat ≤ mk ↔ x.num ≤ Int.tdiv (mk - S.lat) S.len - 1 := by
      rw [e]
      have := Int.le_ediv_iff_mul_le (a := x.num + 1) (b := mk - S.lat) (c := S.len) (by omega)
      constructor
      · intro h1
        have := this.2 (by omega)
        omega
      · intro h1
        have := this.1 (by omega)
        omega
    unfold shutW upW
    rw [ih]
    by_cases h1 : (x.num + 1) * S.len + S.lat ≤ mk
    · rw [if_pos h1, if_pos (hiff.1 h1)]
    · rw [if_neg h1, if_neg (fun q => h1 (hiff.2 q))]
theorem shut_none {S : Ws} {N : Nat} (h : WsOk S N) {mk : Int} (hm : mk < S.lat) : shutW S.len S.lat mk S.L = 0 := by
  cases hL : S.L with
  | nil => rfl
  | cons x l =>
    obtain ⟨h1, -⟩ := h.each x (by rw [hL]; simp)
    have hl := h.len.1
    unfold shutW
    rw [if_neg]
    have : 0 ≤ (x.num + 1) * S.len := Int.mul_nonneg (by omega) (by omega)
    omega
theorem clock_no {S : Ws} {N : Nat} (h : WsOk S N) {now : Int} (hm : min S.mark now < S.lat) : clockW S now = ([], S) := by
  have hl := h.len.1
  have hlat := h.lat.1
  have hk : markW S now < S.lat := by unfold markW; split <;> omega
  unfold clockW
  rw [shut_none h hk]
  unfold endW
  rw [if_neg]
  · rfl
  · rintro ⟨h1, -⟩
    have h1 : S.len ≤ markW S now - S.lat := h1
    omega
theorem clock_yes {S : Ws} {N : Nat} (h : WsOk S N) {now : Int} (hm : S.lat ≤ min S.mark now) :
    clockW S now = (S.L.take (upW (Int.tdiv (min S.mark now - S.lat) S.len - 1) S.L), { S with L := S.L.drop (upW (Int.tdiv (min S.mark now - S.lat) S.len - 1) S.L), floor := max S.floor (Int.tdiv (min S.mark now - S.lat) S.len - 1) }) := by
  have hl := h.len.1
  have hlat := h.lat.1
  have hk : markW S now = min S.mark now := by unfold markW; split <;> omega
  unfold clockW
  rw [hk, shut_up h _ hm]
  generalize hmk : min S.mark now = mk at *
  obtain ⟨fk, e, h1, h2⟩ := firsts_floor h (last := Int.tdiv (mk - S.lat) S.len - 1) (Nat.le_refl _)
  rw [e]
  have hfl := h.floor.1
  refine Prod.ext rfl ?_
  unfold endW
  simp only
  split
  · rename_i hc
    have : max S.floor (Int.tdiv (mk - S.lat) S.len - 1) = Int.tdiv (mk - S.lat) S.len - 1 := by omega
    rw [this]
  · rename_i hc
    have : fk = max S.floor (Int.tdiv (mk - S.lat) S.len - 1) := by
      by_cases h3 : S.len ≤ mk - S.lat
      · have : ¬ fk < Int.tdiv (mk - S.lat) S.len - 1 := fun q => hc ⟨h3, q⟩
        omega
      · have : Int.tdiv (mk - S.lat) S.len = 0 := by
          rw [Int.tdiv_eq_ediv_of_nonneg (by omega)]
          exact Int.ediv_eq_zero_of_lt (by omega) (by omega)
        omega
    rw [this]
/-! Add -/
theorem room_full {S : Ws} {N : Nat} (h : WsOk S N) (n : Int) : (isW n S.L || decide ((S.L.length : Int) < S.most)) = !fullW S n := by
  unfold fullW
  have := h.room
  cases isW n S.L with
  | true => rfl
  | false =>
    simp only [Bool.false_or, Bool.not_false, Bool.true_and]
    by_cases h1 : (S.L.length : Int) < S.most
    · have h2 : ¬ (S.L.length : Int) = S.most := by omega
      simp [h1, h2]
    · have h2 : (S.L.length : Int) = S.most := by omega
      simp [h2]
theorem full_first {S : Ws} {N : Nat} (h : WsOk S N) {n : Int} (hf : fullW S n = true) : ∃ x L, S.L = x :: L ∧ (decide (n < x.num) = (posW n S.L == 0)) ∧ upW x.num S.L = 1 := by
  unfold fullW at hf
  simp only [Bool.and_eq_true, Bool.not_eq_true', beq_iff_eq] at hf
  cases hL : S.L with
  | nil =>
    rw [hL] at hf
    have := h.most.1
    have h2 := hf.2
    simp at h2
    omega
  | cons x L =>
    have hs := h.srt
    rw [hL] at hs
    have hc := List.pairwise_cons.1 hs
    refine ⟨x, L, rfl, ?_, ?_⟩
    · have hne := isW_not hf.1
      rw [hL] at hne
      have hxn := hne x (by simp)
      by_cases h0 : posW n (x :: L) = 0
      · have h2 := (posW_parts n hs).2
        rw [h0] at h2
        have := h2 x (by simp)
        rw [h0]
        simp
        omega
      · have h1 := (posW_parts n hs).1
        obtain ⟨k, hk⟩ : ∃ k, posW n (x :: L) = k + 1 := ⟨posW n (x :: L) - 1, by omega⟩
        rw [hk] at h1 ⊢
        have := h1 x (by simp)
        simp
        omega
    · unfold upW
      rw [if_pos (Int.le_refl _)]
      cases L with
      | nil => rfl
      | cons y L =>
        have := hc.1 y (by simp)
        unfold upW
        rw [if_neg (by omega)]
def lateB (S : Ws) (n : Int) : Bool := decide (n ≤ S.floor) || (fullW S n && posW n S.L == 0)
theorem add_late {S : Ws} {name : ByteArray} {tm inc : Int} (h : (decide (tm < 0) || decide (1125899906842624 < tm) || decide (inc < 0) || lateB S (Int.tdiv tm S.len)) = true) : addW S name tm inc = (true, [], { S with late := S.late + 1 }) := by
  unfold addW
  rw [if_pos]
  unfold lateW
  unfold lateB at h
  simp only [Bool.or_eq_true] at h ⊢
  rcases h with ((h | h) | h) | h | h
  · exact .inl (.inl (.inl (.inl h)))
  · exact .inl (.inl (.inl (.inr h)))
  · exact .inl (.inl (.inr h))
  · exact .inl (.inr h)
  · exact .inr h
theorem add_ok {S : Ws} {name : ByteArray} {tm inc : Int} (h0 : 0 ≤ tm) (h1 : tm ≤ 1125899906842624) (h2 : 0 ≤ inc) (h : lateB S (Int.tdiv tm S.len) = false) :
    addW S name tm inc = if fullW S (Int.tdiv tm S.len) then (false, S.L.take 1, putW (firstW S) (Int.tdiv tm S.len) name inc false (posW (Int.tdiv tm S.len) S.L - 1)) else (false, [], putW S (Int.tdiv tm S.len) name inc (isW (Int.tdiv tm S.len) S.L) (posW (Int.tdiv tm S.len) S.L)) := by
  unfold addW
  unfold lateB at h
  rw [Bool.or_eq_false_iff] at h
  rw [if_neg]
  unfold lateW
  rw [h.1, h.2, decide_eq_false (by omega), decide_eq_false (by omega), decide_eq_false (by omega)]
  decide
/-- What is put behind the first one's closing. -/
theorem full_put {S : Ws} {N : Nat} (h : WsOk S N) {n : Int} (hf : fullW S n = true) {x : Wn} {L : List Wn} (hL : S.L = x :: L) (hp : posW n S.L ≠ 0) : firstW S = { S with L := L, floor := max S.floor x.num } ∧ isW n L = false ∧ posW n L = posW n S.L - 1 := by
  have hfl := h.each x (by rw [hL]; simp)
  refine ⟨?_, ?_, ?_⟩
  · unfold firstW
    rw [hL]
    have : max S.floor x.num = x.num := by omega
    rw [this]
    simp only
    rw [if_pos hfl.2.2.1]
  · unfold fullW at hf
    simp only [Bool.and_eq_true, Bool.not_eq_true'] at hf
    have := hf.1
    rw [hL] at this
    unfold isW at this ⊢
    rw [List.any_cons] at this
    simp only [Bool.or_eq_false_iff] at this
    exact this.2
  · rw [hL] at hp ⊢
    exact (posW_tail hp).symm
end Go.Proofs.Ytjkkpdflijjllaa

namespace Go.Proofs.Ytjkkpdflijjllaa
open Go.RowKit Go.Maps Go.Sort Go.Shelf

section
variable {B : Nat} {w : World} {p b : Nat} {P : PW} {S : Ws} {N : Nat}
set_option maxRecDepth 100000 in
set_option maxHeartbeats 4000000 in
theorem clock_any (h : WiA B w p b P S) (hok : WsOk S N) (hN : N ≤ 1000) (hB : B ≤ w.heap.size) (now : Int) (hnow : -9223372036854775808 ≤ now ∧ now ≤ 9223372036854775807) :
    Calls Try.prog 17 #[ptrV p, .int .i64 now] w fun e w' => ∃ o H P', e = .returned o ∧ WnL w' H o (clockW S now).1 ∧ WiA B w' p b P' (clockW S now).2 ∧ SubP P' P ∧ Turns [p, b] w w' ∧ ∀ i ∈ H, w.heap.size ≤ i ∧ i < w'.heap.size := by
  have HNO := Lib.hid (isNone_no h.head h.len)
  obtain ⟨c0, c1, -, -, c4, -, -, -, -⟩ := h.head.cells
  have hlen := hok.len
  have hlat := hok.lat
  have hmk := hok.mark
  obtain ⟨mk, hmn⟩ : ∃ mk, min S.mark now = mk := ⟨_, rfl⟩
  by_cases hm : mk < S.lat
  · have hc := clock_no hok (now := now) (by rw [hmn]; exact hm)
    have hd : decide (mk < S.lat) = true := by simpa using hm
    have HF : Hid (∃ H P', WnL w H (.slice none 0 0) (clockW S now).1 ∧ WiA B w p b P' (clockW S now).2 ∧ SubP P' P ∧ Turns [p, b] w w ∧ ∀ i ∈ H, w.heap.size ≤ i ∧ i < w.heap.size) := Lib.hid (by
      rw [hc]
      exact ⟨[], P, .nil, h, fun _ _ q => q, Turns.refl _ _, by simp⟩)
    have HMN := Lib.hid hmn
    clear h hok hB hc hm hmn
    go_enter Try.func17, Try.ntmps17
    go_wp2_with fail
    refine HNO.out.mono ?_
    rintro e w1 ⟨rfl, rfl⟩
    have hmn := HMN.out
    go_wp2_with fail
    go_ret
    obtain ⟨H2, P2, q⟩ := HF.out
    exact ⟨_, H2, P2, rfl, q⟩
  · have hc := clock_yes hok (now := now) (by rw [hmn]; omega)
    rw [hmn] at hc
    have hd : decide (mk < S.lat) = false := by simp; omega
    obtain ⟨last, hlast⟩ : ∃ last, Int.tdiv (mk - S.lat) S.len - 1 = last := ⟨_, rfl⟩
    have HCL : Hid (Calls Try.prog 35 #[ptrV p, .int .i64 last] w.drew fun e w' => ∃ o H P', e = .returned o ∧ WnL w' H o (clockW S now).1 ∧ WiA B w' p b P' (clockW S now).2 ∧ SubP P' P ∧ Turns [p, b] w w' ∧ ∀ i ∈ H, w.heap.size ≤ i ∧ i < w'.heap.size) := Lib.hid (by
      rw [hc, hlast]
      have hT : Turns [] w w.drew := (Turns.refl [] w).drew
      refine (closeTo_any (h.pre hT) (SmallL.of hok (by omega)) hB last).mono ?_
      rintro e w' ⟨o, H, P', rfl, h1, h2, h3, h4, h5⟩
      exact ⟨o, H, P', rfl, h1, h2, h3, (hT.mono (by simp)).then h4, h5⟩)
    have hmk2 : 0 ≤ mk ∧ mk ≤ 1125899906842624 := by omega
    have hw1 : IntKind.i64.wrap (mk - S.lat) = mk - S.lat := IntWalk.i64_in _ (by omega)
    have hq0 : 0 ≤ Int.tdiv (mk - S.lat) S.len := by rw [Int.tdiv_eq_ediv_of_nonneg (by omega)]; exact Int.ediv_nonneg (by omega) (by omega)
    have hq1 : Int.tdiv (mk - S.lat) S.len ≤ mk - S.lat := by
      rw [Int.tdiv_eq_ediv_of_nonneg (by omega)]
      exact Int.ediv_le_self _ (by omega)
    have hw2 : IntKind.i64.wrap (Int.tdiv (mk - S.lat) S.len) = Int.tdiv (mk - S.lat) S.len := IntWalk.i64_in _ (by omega)
    have hw3 : IntKind.i64.wrap (Int.tdiv (mk - S.lat) S.len - 1) = last := by rw [← hlast]; exact IntWalk.i64_in _ (by omega)
    have hne : S.len ≠ 0 := by omega
    have hnb : (S.len == 0) = false := by simp; omega
    have HMN := Lib.hid hmn
    clear h hok hB hc hm hmn
    go_enter Try.func17, Try.ntmps17
    go_wp2_with fail
    refine HNO.out.mono ?_
    rintro e w1 ⟨rfl, rfl⟩
    have hmn := HMN.out
    go_wp2_with fail
    clear hmn
    go_still_tail 15, (by kernel_rfl)
    go_wp2_with fail
    refine HCL.out.mono ?_
    rintro e w2 ⟨o, H2, P2, rfl, q⟩
    have HQ := Lib.hid q
    clear q
    go_wp2_with fail
    go_ret
    exact ⟨_, H2, P2, rfl, HQ.out⟩
set_option maxRecDepth 100000 in
set_option maxHeartbeats 4000000 in
theorem isLate_any (h : WiA B w p b P S) (hok : WsOk S N) (hN : N ≤ 1000) (n : Int) (hn : -9223372036854775808 ≤ n ∧ n ≤ 9223372036854775807) :
    Calls Try.prog 33 #[ptrV p, .int .i64 n] w fun e w' => e = .returned (.bool (lateB S n)) ∧ Turns [] w w' := by
  obtain ⟨-, -, -, c3, -, -, -, c7, -⟩ := h.head.cells
  have HT0 := Lib.hid (Turns.refl [] w)
  have HRM := Lib.hid (hasRoom_any h n hn)
  by_cases hf : n ≤ S.floor
  · have hd : decide (n ≤ S.floor) = true := by simpa using hf
    have HE : Hid (lateB S n = true) := Lib.hid (by unfold lateB; rw [hd]; rfl)
    clear h hok hf
    go_enter Try.func33, Try.ntmps33
    go_wp2_with fail
    go_ret
    exact ⟨by rw [HE.out]; rfl, HT0.out⟩
  · have hd : decide (n ≤ S.floor) = false := by simpa using hf
    have hrf := room_full hok n
    have hrf2 : roomW S n = !fullW S n := hrf
    rw [hrf2] at HRM
    cases hfu : fullW S n with
    | false =>
      have HE : Hid (lateB S n = false) := Lib.hid (by unfold lateB; rw [hd, hfu]; rfl)
      rw [hfu] at HRM
      simp only [Bool.not_false] at HRM
      clear h hok hf hrf hrf2 hfu
      go_enter Try.func33, Try.ntmps33
      go_wp2_with fail
      refine HRM.out.mono ?_
      rintro e w1 ⟨rfl, ht1⟩
      have HT1 := Lib.hid ht1
      clear ht1
      go_wp2_with fail
      go_ret
      exact ⟨by rw [HE.out]; rfl, HT1.out⟩
    | true =>
      obtain ⟨x, L, hL, hx, -⟩ := full_first hok hfu
      have HE : Hid (lateB S n = decide (n < x.num)) := Lib.hid (by unfold lateB; rw [hd, hfu, hx]; rfl)
      rw [hfu] at HRM
      simp only [Bool.not_true] at HRM
      have HR := Lib.hid (fun W (hW : Turns [] w W) => risingI_any (h.pre hW) hok.srt (by have := hok.room; have := hok.most; omega))
      have HC7 := Lib.hid (fun W (hW : Turns [] w W) => (h.pre hW).head.cells.2.2.2.2.2.2.2.1)
      have HLL := Lib.hid hL
      clear h hok hf hrf hrf2 hfu hL hx c7
      go_enter Try.func33, Try.ntmps33
      go_wp2_with fail
      refine HRM.out.mono ?_
      rintro e w1 ⟨rfl, ht1⟩
      have HT1 := Lib.hid ht1
      have c7 := HC7.out w1 ht1
      clear ht1
      go_wp2_with fail
      refine (HR.out w1 HT1.out).mono ?_
      rintro e w2 ⟨⟨kv, rfl, hkv⟩, ht2⟩
      have HT2 := Lib.hid ht2
      obtain ⟨KA, kc, rfl, hkeys⟩ := i64K_cells hkv
      obtain ⟨kb, rfl, -, -, hkc⟩ := hkeys 0 x.num (by rw [HLL.out]; rfl)
      have hln : (S.L.map Wn.num).length = L.length + 1 := by rw [HLL.out]; simp
      rw [hln]
      clear hkv hkeys ht2 hln c7 HR
      go_wp2_with fail
      go_ret
      exact ⟨by rw [HE.out]; rfl, HT1.out.then HT2.out⟩
end
end Go.Proofs.Ytjkkpdflijjllaa
