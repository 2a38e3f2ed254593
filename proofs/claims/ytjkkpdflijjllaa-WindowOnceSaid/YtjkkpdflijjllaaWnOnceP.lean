/- What is credited is in open and closed windows, plainly. -/
import Derived.Test.YtjkkpdflijjllaaWnPlaysW
import Derived.Sort.Walk0
namespace Go.Proofs.Ytjkkpdflijjllaa

def sumC : List Cr → Int
  | [] => 0
  | x :: l => x.inc + sumC l
def totW : List Wn → Int
  | [] => 0
  | x :: l => sumC x.cr + totW l
theorem sumC_append (l m : List Cr) : sumC (l ++ m) = sumC l + sumC m := by
  induction l with
  | nil => simp [sumC]
  | cons x l ih => simp only [List.cons_append, sumC, ih]; omega
theorem totW_append (l m : List Wn) : totW (l ++ m) = totW l + totW m := by
  induction l with
  | nil => simp [totW]
  | cons x l ih => simp only [List.cons_append, totW, ih]; omega
theorem sumC_pos : ∀ {l : List Cr}, COk l → 0 ≤ sumC l
  | [], _ => by simp [sumC]
  | x :: l, h => by
    have h1 := h x (List.mem_cons_self ..)
    have h2 := sumC_pos (l := l) fun y hy => h y (List.mem_cons_of_mem _ hy)
    simp only [sumC]; omega
theorem sumC_mem : ∀ {l : List Cr}, COk l → ∀ x ∈ l, x.inc ≤ sumC l
  | y :: l, h, x, hx => by
    have h1 := h y (List.mem_cons_self ..)
    have hl : COk l := fun z hz => h z (List.mem_cons_of_mem _ hz)
    have h2 := sumC_pos hl
    rcases List.mem_cons.1 hx with rfl | hx
    · simp only [sumC]; omega
    · have := sumC_mem hl x hx
      simp only [sumC]; omega
def LCOk (L : List Wn) : Prop := ∀ x ∈ L, COk x.cr
theorem totW_pos : ∀ {L : List Wn}, LCOk L → 0 ≤ totW L
  | [], _ => by simp [totW]
  | x :: L, h => by
    have h1 := sumC_pos (h x (List.mem_cons_self ..))
    have h2 := totW_pos (L := L) fun y hy => h y (List.mem_cons_of_mem _ hy)
    simp only [totW]; omega
theorem totW_mem : ∀ {L : List Wn}, LCOk L → ∀ x ∈ L, sumC x.cr ≤ totW L
  | y :: L, h, x, hx => by
    have h1 := sumC_pos (h y (List.mem_cons_self ..))
    have hl : LCOk L := fun z hz => h z (List.mem_cons_of_mem _ hz)
    have h2 := totW_pos hl
    rcases List.mem_cons.1 hx with rfl | hx
    · simp only [totW]; omega
    · have := totW_mem hl x hx
      simp only [totW]; omega
theorem eqC_iff {a b : ByteArray} : eqC a b = true ↔ a.toList = b.toList := by
  unfold eqC
  simp
/-- What rises: each name is above the one ahead. -/
def RiseC (l : List Cr) : Prop := l.Pairwise fun a b => a.name.toList < b.name.toList
theorem less_iff (a b : List UInt8) : Op.bytesLess a b = true ↔ a < b := by rw [bytesLess_eq]; simp
theorem credG_true (n : ByteArray) (inc : Int) : ∀ l : List Cr, (∀ x ∈ l, n.toList < x.name.toList) → credG n inc true l = l
  | [], _ => rfl
  | x :: l, h => by
    have h1 := h x (List.mem_cons_self ..)
    have ih := credG_true n inc l fun y hy => h y (List.mem_cons_of_mem _ hy)
    unfold credG
    rw [if_neg fun e => by rw [eqC_iff] at e; rw [e] at h1; exact List.lt_irrefl _ h1]
    simp only [Bool.not_true, Bool.false_and, Bool.false_eq_true, if_false, ih]
theorem credG_rise (n : ByteArray) (inc : Int) : ∀ l : List Cr, RiseC l → (∀ x ∈ l, x.inc + inc ≤ 9223372036854775807) →
    sumC (credG n inc false l) = sumC l + inc ∧ RiseC (credG n inc false l) ∧ ∀ y ∈ credG n inc false l, y.name.toList = n.toList ∨ ∃ x ∈ l, y.name.toList = x.name.toList
  | [], _, _ => by
    refine ⟨by simp [credG, sumC], by simp [credG, RiseC], fun y hy => ?_⟩
    simp [credG] at hy
    rw [hy]
    exact .inl rfl
  | x :: l, hr, hs => by
    have h1 := List.pairwise_cons.1 hr
    have hx := hs x (List.mem_cons_self ..)
    unfold credG
    by_cases he : eqC x.name n = true
    · have e := eqC_iff.1 he
      rw [if_pos he, credG_true n inc l fun y hy => by rw [← e]; exact h1.1 y hy]
      have ha : addC x inc = ⟨x.name, x.inc + inc, x.over⟩ := by unfold addC; rw [if_neg (by omega)]
      rw [ha]
      refine ⟨by simp only [sumC]; omega, List.pairwise_cons.2 ⟨fun y hy => h1.1 y hy, h1.2⟩, fun y hy => ?_⟩
      rcases List.mem_cons.1 hy with rfl | hy
      · exact .inl e
      · exact .inr ⟨y, List.mem_cons_of_mem _ hy, rfl⟩
    · rw [if_neg he]
      have hne : x.name.toList ≠ n.toList := fun e => he (eqC_iff.2 e)
      by_cases hg : gtC n x.name = true
      · have hlt : n.toList < x.name.toList := by
          unfold gtC at hg
          have h2 : ¬ x.name.toList < n.toList := fun h3 => by
            rw [(less_iff _ _).2 h3] at hg
            cases hg
          exact Std.lt_of_le_of_ne (List.not_lt.1 h2) (Ne.symm hne)
        rw [if_pos (by simp [hg]), credG_true n inc l fun y hy => List.lt_trans hlt (h1.1 y hy)]
        refine ⟨by simp only [sumC]; omega, List.pairwise_cons.2 ⟨fun y hy => ?_, hr⟩, fun y hy => ?_⟩
        · rcases List.mem_cons.1 hy with rfl | hy
          · exact hlt
          · exact List.lt_trans hlt (h1.1 y hy)
        · rcases List.mem_cons.1 hy with rfl | hy
          · exact .inl rfl
          · exact .inr ⟨y, hy, rfl⟩
      · rw [if_neg (by simp [hg])]
        have hlt : x.name.toList < n.toList := by
          unfold gtC at hg
          rw [← less_iff]
          simpa using hg
        obtain ⟨i1, i2, i3⟩ := credG_rise n inc l h1.2 fun y hy => hs y (List.mem_cons_of_mem _ hy)
        refine ⟨by simp only [sumC, i1]; omega, List.pairwise_cons.2 ⟨fun y hy => ?_, i2⟩, fun y hy => ?_⟩
        · rcases i3 y hy with e | ⟨z, hz, e⟩
          · rw [e]; exact hlt
          · rw [e]; exact h1.1 z hz
        · rcases List.mem_cons.1 hy with rfl | hy
          · exact .inr ⟨y, List.mem_cons_self .., rfl⟩
          · rcases i3 y hy with e | ⟨z, hz, e⟩
            · exact .inl e
            · exact .inr ⟨z, List.mem_cons_of_mem _ hz, e⟩
def LRise (L : List Wn) : Prop := ∀ x ∈ L, RiseC x.cr
/-- What a list of closed windows looks like behind a number. -/
structure Cl (last : Int) (L : List Wn) : Prop where
  srt : SrtW L
  above : ∀ x ∈ L, last < x.num
  ne : ∀ x ∈ L, x.cr ≠ []
  ok : LCOk L
def lastN (last : Int) : List Wn → Int
  | [] => last
  | x :: l => lastN x.num l
theorem lastN_snoc (last : Int) (x : Wn) : ∀ l : List Wn, lastN last (l ++ [x]) = x.num
  | [] => rfl
  | y :: l => by simp only [List.cons_append, lastN]; exact lastN_snoc _ x l
theorem Cl.take {last : Int} {L : List Wn} (h : Cl last L) (k : Nat) : Cl last (L.take k) :=
  ⟨h.srt.sublist (List.take_sublist _ _), fun x hx => h.above x (List.mem_of_mem_take hx), fun x hx => h.ne x (List.mem_of_mem_take hx), fun x hx => h.ok x (List.mem_of_mem_take hx)⟩
theorem WsOk.cl {S : Ws} {N : Nat} (h : WsOk S N) {last : Int} (hl : last ≤ S.floor) : Cl last S.L :=
  ⟨h.srt, fun x hx => by have := (h.each x hx).2.2.1; omega, fun x hx => (h.each x hx).2.2.2.1, fun x hx => (h.each x hx).2.2.2.2.2⟩
theorem lastN_le : ∀ {last : Int} {L : List Wn} {n : Int}, last ≤ n → (∀ x ∈ L, x.num ≤ n) → lastN last L ≤ n
  | _, [], n, h, _ => h
  | _, x :: l, n, _, hx => show lastN x.num l ≤ n from lastN_le (hx x (List.mem_cons_self ..)) fun y hy => hx y (List.mem_cons_of_mem _ hy)
theorem LRise.sub {L M : List Wn} (h : LRise L) (hs : ∀ x ∈ M, x ∈ L) : LRise M := fun x hx => h x (hs x hx)
theorem LCOk.sub {L M : List Wn} (h : LCOk L) (hs : ∀ x ∈ M, x ∈ L) : LCOk M := fun x hx => h x (hs x hx)
theorem putW_tot {S : Ws} {n inc : Int} {name : ByteArray} {is : Bool} {k : Nat} (hr : LRise S.L) (hc : LCOk S.L) (hi : 0 ≤ inc) (hs : totW S.L + inc ≤ 9223372036854775807) (hk : is = true → ∃ x, S.L[k]? = some x) :
    totW (putW S n name inc is k).L = totW S.L + inc ∧ LRise (putW S n name inc is k).L := by
  unfold putW
  simp only
  cases is with
  | false =>
    simp only [Bool.false_eq_true, if_false]
    have e := totW_append (S.L.take k) (S.L.drop k)
    rw [List.take_append_drop] at e
    obtain ⟨c1, c2, _⟩ := credG_rise name inc [] .nil (fun x hx => by cases hx)
    refine ⟨?_, fun x hx => ?_⟩
    · rw [totW_append]
      simp only [totW, credL, c1, sumC]
      omega
    · rcases List.mem_append.1 hx with h | h
      · exact hr x (List.mem_of_mem_take h)
      · rcases List.mem_cons.1 h with rfl | h
        · exact c2
        · exact hr x (List.mem_of_mem_drop h)
  | true =>
    obtain ⟨x, hx⟩ := hk rfl
    simp only [if_true]
    obtain ⟨hlt, hge⟩ := List.getElem?_eq_some_iff.1 hx
    have hxm := List.mem_of_getElem? hx
    have e : totW S.L = totW (S.L.take k) + (sumC x.cr + totW (S.L.drop (k + 1))) := by
      have e2 := totW_append (S.L.take k) (S.L.drop k)
      rw [List.take_append_drop, List.drop_eq_getElem_cons hlt, hge] at e2
      exact e2
    have hcr : wnAt S.L k = x.cr := by unfold wnAt; rw [hx]; rfl
    rw [hcr]
    have hsx := totW_mem hc x hxm
    obtain ⟨c1, c2, _⟩ := credG_rise name inc x.cr (hr x hxm) fun y hy => by
      have := sumC_mem (hc x hxm) y hy
      omega
    refine ⟨?_, fun y hy => ?_⟩
    · rw [totW_append]
      simp only [totW, credL, c1]
      omega
    · rcases List.mem_append.1 hy with h | h
      · exact hr y (List.mem_of_mem_take h)
      · rcases List.mem_cons.1 h with rfl | h
        · exact c2
        · exact hr y (List.mem_of_mem_drop h)
theorem WsOk.lc {S : Ws} {N : Nat} (h : WsOk S N) : LCOk S.L := fun x hx => (h.each x hx).2.2.2.2.2
/-- What an act leaves. -/
structure Left (S : Ws) (inc : Int) (C : List Wn) (S' : Ws) (late : Bool) (last : Int) : Prop where
  cl : Cl last C
  tot : totW C + totW S'.L = totW S.L + inc
  rise : LRise S'.L
  lastN : lastN last C ≤ S'.floor
  late : S'.late = S.late + (if late then 1 else 0)
theorem Cl.nil {last : Int} : Cl last [] := ⟨.nil, fun x hx => (by cases hx), fun x hx => (by cases hx), fun x hx => (by cases hx)⟩
theorem addW_left {S : Ws} {N : Nat} (h : WsOk S N) (hr : LRise S.L) {last : Int} (hl : last ≤ S.floor) (name : ByteArray) (tm inc : Int) (hs : totW S.L + inc ≤ 9223372036854775807) :
    Left S (if (addW S name tm inc).1 then 0 else inc) (addW S name tm inc).2.1 (addW S name tm inc).2.2 (addW S name tm inc).1 last ∧ ((addW S name tm inc).1 = true → (addW S name tm inc).2.1 = []) ∧ ((addW S name tm inc).1 = false → 0 ≤ inc) := by
  unfold addW
  split
  · refine ⟨⟨.nil, by simp [totW], hr, hl, by simp⟩, fun _ => rfl, (fun e => by cases e)⟩
  · rename_i hn
    simp only [Bool.or_eq_true, not_or, Bool.not_eq_true] at hn
    obtain ⟨hlt, hfp⟩ := hn
    obtain ⟨h1, h2, h3, h4, h5, h6⟩ := lateW_no h hlt
    generalize Int.tdiv tm S.len = n at *
    split
    · rename_i hf
      rw [hf] at hfp
      have hp : posW n S.L ≠ 0 := by simpa using hfp
      cases hL : S.L with
      | nil => rw [hL] at hp; simp [posW] at hp
      | cons x L =>
        obtain ⟨k1, k2, k3, k4, k5, k6, k7⟩ := h.first hL
        have hlate : (firstW S).late = S.late := by unfold firstW; rw [hL]
        have hrL : LRise (firstW S).L := by rw [k2]; exact hr.sub fun y hy => by rw [hL]; simp [hy]
        have hcl : Cl last (S.L.take 1) := (h.cl hl).take 1
        have hcx := sumC_pos (h.lc x (by rw [hL]; simp))
        have htot : totW S.L = sumC x.cr + totW L := by rw [hL]; rfl
        obtain ⟨p1, p2⟩ := putW_tot (S := firstW S) (n := n) (inc := inc) (name := name) (is := false) (k := posW n (x :: L) - 1) hrL k1.lc h3 (by rw [k2]; omega) (fun e => by cases e)
        rw [hL] at hcl
        refine ⟨⟨hcl, ?_, p2, ?_, ?_⟩, (fun e => by cases e), fun _ => h3⟩
        · simp only [Bool.false_eq_true, if_false]
          rw [p1, k2, ← hL, htot, hL]
          simp [totW]
          omega
        · show lastN last ((x :: L).take 1) ≤ (firstW S).floor
          rw [k3]
          exact Int.le_refl _
        · show (firstW S).late = _
          rw [hlate]
          simp
    · rename_i hf
      obtain ⟨p1, p2⟩ := putW_tot (S := S) (n := n) (inc := inc) (name := name) (is := isW n S.L) (k := posW n S.L) hr h.lc h3 hs (fun e => by
        obtain ⟨x, hx, _⟩ := isW_at h.srt e
        exact ⟨x, hx⟩)
      refine ⟨⟨.nil, ?_, p2, hl, ?_⟩, (fun e => by cases e), fun _ => h3⟩
      · simp only [Bool.false_eq_true, if_false]
        rw [p1]
        simp [totW]
      · show S.late = _
        simp
theorem clockW_left {S : Ws} {N : Nat} (h : WsOk S N) (hr : LRise S.L) {last : Int} (hl : last ≤ S.floor) (now : Int) : Left S 0 (clockW S now).1 (clockW S now).2 false last := by
  unfold clockW
  simp only
  have hk := shutW_le S.len S.lat (markW S now) S.L
  generalize shutW S.len S.lat (markW S now) S.L = k at *
  generalize markW S now = mark
  obtain ⟨a, b, c, d, e, f⟩ := h.firsts hk
  have hL : (endW (firstsW S k) mark).L = S.L.drop k := by
    unfold endW
    split <;> exact b
  have hfl : (firstsW S k).floor ≤ (endW (firstsW S k) mark).floor := by
    unfold endW
    split
    · rename_i hc
      exact Int.le_of_lt hc.2
    · exact Int.le_refl _
  have hlate : ∀ j, (firstsW S j).late = S.late := fun j => by
    induction j with
    | zero => rfl
    | succ j ih =>
      show (firstW (firstsW S j)).late = _
      rw [← ih]
      unfold firstW
      split <;> rfl
  have hlast : ∀ j, j ≤ S.L.length → lastN last (S.L.take j) ≤ (firstsW S j).floor := fun j => by
    induction j with
    | zero => exact fun _ => by simp [lastN]; exact hl
    | succ j ih =>
      intro hj
      obtain ⟨a, b, c, d, e, f⟩ := h.firsts (k := j) (by omega)
      have hd : (firstsW S j).L = S.L[j] :: S.L.drop (j + 1) := by rw [b]; exact List.drop_eq_getElem_cons (by omega)
      obtain ⟨k1, k2, k3, k4, k5, k6, k7⟩ := a.first hd
      have e1 : S.L.take (j + 1) = S.L.take j ++ [S.L[j]] := by rw [List.take_add_one, List.getElem?_eq_getElem (by omega)]; rfl
      rw [e1, lastN_snoc]
      show _ ≤ (firstW (firstsW S j)).floor
      rw [k3]
      exact Int.le_refl _
  refine ⟨(h.cl hl).take k, ?_, ?_, Int.le_trans (hlast k hk) hfl, ?_⟩
  · rw [hL, ← totW_append, List.take_append_drop]
    simp
  · rw [hL]
    exact hr.sub fun x hx => List.mem_of_mem_drop hx
  · have : (endW (firstsW S k) mark).late = (firstsW S k).late := by unfold endW; split <;> rfl
    rw [this, hlate]
    simp
end Go.Proofs.Ytjkkpdflijjllaa
