/- The program's find, strings.Clone. -/
import Derived.Test.YtcjmieofmogeiaaSrMem
import Derived.Deep.QuietTactic
import Derived.BigQuiet
namespace Go.Proofs.Ytcjmieofmogeiaa
open Go.RowKit
variable {hd : Hd}

/-- A sample in a box of the call's own. -/
structure Bx (w W : World) (bx : Nat) (x : Smp) : Prop where
  blk : W.heap[bx]? = some (.cells #[.string x.name, .int .i64 x.val, .int .i64 x.tm, .bool x.cnt] 52 (0, 0))
  turns : Turns [] w W
  new : w.heap.size ≤ bx
theorem Bx.drewN {w W : World} {bx : Nat} {x : Smp} (h : Bx w W bx x) (q : Nat) : Bx w (W.drewN q) bx x := ⟨h.blk, h.turns.drewN q, h.new⟩
theorem Bx.made (w : World) (x : Smp) : Bx w (w.alloc (.cells #[.string x.name, .int .i64 x.val, .int .i64 x.tm, .bool x.cnt] 52)) w.heap.size x := ⟨heap_alloc_new w _, Turns.alloc _ _, Nat.le_refl _⟩
theorem Bx.c0 {w W : World} {bx : Nat} {x : Smp} (h : Bx w W bx x) : W.cell? ⟨bx, 0, none⟩ = some (.string x.name) := by simp [World.cell?, h.blk]
theorem Bx.c1 {w W : World} {bx : Nat} {x : Smp} (h : Bx w W bx x) : W.cell? ⟨bx, 1, none⟩ = some (.int .i64 x.val) := by simp [World.cell?, h.blk]
theorem Bx.c2 {w W : World} {bx : Nat} {x : Smp} (h : Bx w W bx x) : W.cell? ⟨bx, 2, none⟩ = some (.int .i64 x.tm) := by simp [World.cell?, h.blk]
theorem Bx.c3 {w W : World} {bx : Nat} {x : Smp} (h : Bx w W bx x) : W.cell? ⟨bx, 3, none⟩ = some (.bool x.cnt) := by simp [World.cell?, h.blk]

set_option maxRecDepth 100000 in
set_option maxHeartbeats 1000000 in
theorem ver_none {B : Nat} {w : World} {p b most n : Nat} {P : PM} (h : Sm B w p b most P n) (x : Smp) (hx : NmOk x.name) (hn : n ≤ 100000) (hp : P x.name = none) :
    Calls Try.prog 44 #[ptr p, x.val'] w fun e w' => e = .returned (.int .i64 (verM most n x ((P x.name).map (·.2)))) ∧ Turns [] w w' := by
  have HS := Lib.hid h
  have HX := Lib.hid hx
  have HP := Lib.hid hp
  have HB := Lib.hid (Bx.made w x)
  rw [hp]
  obtain ⟨v, hv⟩ : ∃ v, v = verM most n x ((none : Option (Nat × Lst)).map (·.2)) := ⟨_, rfl⟩
  rw [← hv]
  have HV : Hid (v = if most ≤ n then 4 else 1) := Lib.hid hv
  show Calls _ _ #[ptr p, .agg #[.string x.name, .int .i64 x.val, .int .i64 x.tm, .bool x.cnt]] w fun e w' => e = .returned (.int .i64 v) ∧ Turns [] w w'
  clear h hx hp hv
  go_enter Try.func44, Try.ntmps44
  go_upto_region 1 with fail
  obtain ⟨W0, hW0⟩ : ∃ W0, w.alloc (.cells #[.string x.name, .int .i64 x.val, .int .i64 x.tm, .bool x.cnt] 52) = W0 := ⟨_, rfl⟩
  rw [hW0] at HB ⊢
  clear hW0
  have hS0 := HS.out.pre HB.out.turns
  have q0 := HB.out.c0
  have q1 := hS0.c1
  have HL : ∀ q, (Instr.lookup 64 (.map (some b)) (.string x.name) true).run Try.prog (W0.drewN q) = .ok (.tuple #[.pointer none, .bool false]) (W0.drewN q) := fun q => by
    have := (hS0.pre ((Turns.refl [] W0).drewN q)).look HX.out
    rw [HP.out] at this
    exact this
  clear hS0
  go_quiet (fail)
  obtain ⟨W1, hW1⟩ : ∃ W1, W0.drewN nq = W1 := ⟨_, rfl⟩
  have HB1 : Hid (Bx w W1 w.heap.size x) := Lib.hid (by rw [← hW1]; exact HB.out.drewN nq)
  rw [hW1]
  clear hW1 q0 q1 HL HB
  have hS1 := HS.out.pre HB1.out.turns
  have q1 := hS1.c1
  have q2 := hS1.c0
  have HN : ∀ q ty, (Builtin.len_ #[64] ty #[.map (some b)]).run Try.prog (W1.drewN q) = .ok (.int .i64 n) (W1.drewN q) := fun q ty => (hS1.pre ((Turns.refl [] W1).drewN q)).len ty
  clear hS1
  go_upto_region 2 with fail
  by_cases hm : most ≤ n
  · have hd : decide ((most : Int) ≤ (n : Int)) = true := by simpa using hm
    have HV2 : Hid (v = 4) := Lib.hid (by rw [HV.out, if_pos hm])
    go_quiet (fail)
    have HT := Lib.hid (HB1.out.turns.drewN nq)
    go_wp2
    go_ret
    exact ⟨by rw [HV2.out]; rfl, HT.out⟩
  · have hd : decide ((most : Int) ≤ (n : Int)) = false := by simpa using hm
    have HV2 : Hid (v = 1) := Lib.hid (by rw [HV.out, if_neg hm])
    go_quiet (fail)
    obtain ⟨W2, hW2⟩ : ∃ W2, W1.drewN nq = W2 := ⟨_, rfl⟩
    have HT := Lib.hid (HB1.out.turns.drewN nq)
    rw [hW2] at HT ⊢
    clear hW2 hd q1 q2 HN HB1
    go_upto_region 4 with fail
    go_quiet (fail)
    have HT2 := Lib.hid (HT.out.drewN nq)
    go_wp2
    go_ret
    exact ⟨by rw [HV2.out]; rfl, HT2.out⟩
set_option maxRecDepth 100000 in
set_option maxHeartbeats 1000000 in
theorem ver_some {B : Nat} {w : World} {p b most n : Nat} {P : PM} (h : Sm B w p b most P n) (x : Smp) (hx : NmOk x.name) {g : Nat} {l : Lst} (hp : P x.name = some (g, l)) :
    Calls Try.prog 44 #[ptr p, x.val'] w fun e w' => e = .returned (.int .i64 (verM most n x ((P x.name).map (·.2)))) ∧ Turns [] w w' := by
  have HS := Lib.hid h
  have HX := Lib.hid hx
  have HP := Lib.hid hp
  have HB := Lib.hid (Bx.made w x)
  rw [hp]
  obtain ⟨v, hv⟩ : ∃ v, v = verM most n x ((some (g, l)).map (·.2)) := ⟨_, rfl⟩
  rw [← hv]
  have HV : Hid (v = if x.tm < l.s.tm then 2 else if x.tm = l.s.tm then 3 else 1) := Lib.hid hv
  show Calls _ _ #[ptr p, .agg #[.string x.name, .int .i64 x.val, .int .i64 x.tm, .bool x.cnt]] w fun e w' => e = .returned (.int .i64 v) ∧ Turns [] w w'
  clear h hx hp hv
  go_enter Try.func44, Try.ntmps44
  go_upto_region 1 with fail
  obtain ⟨W0, hW0⟩ : ∃ W0, w.alloc (.cells #[.string x.name, .int .i64 x.val, .int .i64 x.tm, .bool x.cnt] 52) = W0 := ⟨_, rfl⟩
  rw [hW0] at HB ⊢
  clear hW0
  have hS0 := HS.out.pre HB.out.turns
  have q0 := HB.out.c0
  have q1 := hS0.c1
  have HL : ∀ q, (Instr.lookup 64 (.map (some b)) (.string x.name) true).run Try.prog (W0.drewN q) = .ok (.tuple #[.pointer (some ⟨g, 0, none⟩), .bool true]) (W0.drewN q) := fun q => by
    have := (hS0.pre ((Turns.refl [] W0).drewN q)).look HX.out
    rw [HP.out] at this
    exact this
  clear hS0
  go_quiet (fail)
  obtain ⟨W1, hW1⟩ : ∃ W1, W0.drewN nq = W1 := ⟨_, rfl⟩
  have HB1 : Hid (Bx w W1 w.heap.size x) := Lib.hid (by rw [← hW1]; exact HB.out.drewN nq)
  rw [hW1]
  clear hW1 q0 q1 HL HB
  go_upto_region 2 with fail
  go_quiet (fail)
  obtain ⟨W2, hW2⟩ : ∃ W2, W1.drewN nq = W2 := ⟨_, rfl⟩
  have HB2 : Hid (Bx w W2 w.heap.size x) := Lib.hid (by rw [← hW2]; exact HB1.out.drewN nq)
  rw [hW2]
  clear hW2 HB1
  go_upto_region 4 with fail
  have hS2 := HS.out.pre HB2.out.turns
  have q2 := HB2.out.c2
  have q3 : W2.cell? ⟨g, 2, none⟩ = some (.int .i64 l.s.tm) := (hS2.map.cell HP.out rfl).1
  clear hS2
  by_cases h1 : l.s.tm < x.tm
  · have hd : decide (l.s.tm < x.tm) = true := by simpa using h1
    have HV2 : Hid (v = 1) := Lib.hid (by rw [HV.out, if_neg (by omega), if_neg (by omega)])
    go_quiet (fail)
    have HT := Lib.hid (HB2.out.turns.drewN nq)
    go_wp2
    go_ret
    exact ⟨by rw [HV2.out]; rfl, HT.out⟩
  · have hd : decide (l.s.tm < x.tm) = false := by simpa using h1
    go_quiet (fail)
    obtain ⟨W3, hW3⟩ : ∃ W3, W2.drewN nq = W3 := ⟨_, rfl⟩
    have HB3 : Hid (Bx w W3 w.heap.size x) := Lib.hid (by rw [← hW3]; exact HB2.out.drewN nq)
    rw [hW3]
    clear hW3 HB2 q2 q3
    go_upto_region 6 with fail
    have hS2 := HS.out.pre HB3.out.turns
    have q2 := HB3.out.c2
    have q3 : W3.cell? ⟨g, 2, none⟩ = some (.int .i64 l.s.tm) := (hS2.map.cell HP.out rfl).1
    clear hS2
    by_cases h2 : x.tm = l.s.tm
    · have hb : (x.tm == l.s.tm) = true := by simpa using h2
      have HV2 : Hid (v = 3) := Lib.hid (by rw [HV.out, if_neg (by omega), if_pos h2])
      clear h2
      go_quiet (fail)
      have HT := Lib.hid (HB3.out.turns.drewN nq)
      go_wp2
      go_ret
      exact ⟨by rw [HV2.out]; rfl, HT.out⟩
    · have hb : (x.tm == l.s.tm) = false := by simpa using h2
      have HV2 : Hid (v = 2) := Lib.hid (by rw [HV.out, if_pos (by omega)])
      clear h2
      go_quiet (fail)
      have HT := Lib.hid (HB3.out.turns.drewN nq)
      go_wp2
      go_ret
      exact ⟨by rw [HV2.out]; rfl, HT.out⟩
theorem ver_any {B : Nat} {w : World} {p b most n : Nat} {P : PM} (h : Sm B w p b most P n) (x : Smp) (hx : NmOk x.name) (hn : n ≤ 100000) :
    Calls Try.prog 44 #[ptr p, x.val'] w fun e w' => e = .returned (.int .i64 (verM most n x ((P x.name).map (·.2)))) ∧ Turns [] w w' := by
  cases hp : P x.name with
  | none => rw [← hp]; exact ver_none h x hx hn hp
  | some q => rw [← hp]; exact ver_some (g := q.1) (l := q.2) h x hx hp
end Go.Proofs.Ytcjmieofmogeiaa

namespace Go.Proofs.Ytcjmieofmogeiaa
open Go.RowKit
variable {hd : Hd}

set_option maxHeartbeats 400000 in
theorem clone_nm (s : ByteArray) (w : World) (hs : NmOk s) :
    Calls Try.prog 40 #[.string s] w fun e w' => e = .returned (.string s) ∧ Turns [] w w' := by
  have HC := Lib.hid (Try.stringslite_Clone s w (by unfold NmOk at hs; omega))
  go_enter Try.func40, Try.ntmps40
  go_wp2_with fail
  refine (Hid.out HC).mono ?_
  rintro e w1 ⟨rfl, hb⟩
  go_wp2
  go_ret
  exact ⟨rfl, Turns.of_below hb (Nat.le_refl _)⟩
def updM (P : PM) (x : ByteArray) (q : Nat × Lst) : PM := fun z => if z = x then some q else P z
theorem updM_same {P : PM} {x : ByteArray} {q : Nat × Lst} (h : P x = some q) : updM P x q = P := funext fun z => by
  unfold updM
  by_cases hz : z = x
  · rw [if_pos hz, hz, h]
  · rw [if_neg hz]
theorem updM_here (P : PM) (x : ByteArray) (q : Nat × Lst) : updM P x q x = some q := if_pos rfl
theorem updM_ne {P : PM} {x z : ByteArray} {q : Nat × Lst} (h : z ≠ x) : updM P x q z = P z := if_neg h
theorem updM_or {P : PM} {x z : ByteArray} {q r : Nat × Lst} (h : updM P x q z = some r) : (z = x ∧ r = q) ∨ (z ≠ x ∧ P z = some r) := by
  by_cases hz : z = x
  · rw [hz, updM_here] at h
    cases h
    exact .inl ⟨hz, rfl⟩
  · rw [updM_ne hz] at h
    exact .inr ⟨hz, h⟩
/-- A series' place, new or not. -/
structure FindR [hd : Hd] (B : Nat) (w w' : World) (p b most : Nat) (P : PM) (n : Nat) (x : ByteArray) (g : Nat) (l : Lst) : Prop where
  sm : Sm B w' p b most (updM P x (g, l)) (if (P x).isSome then n else n + 1)
  turns : Turns [b] w w'
  was : P x = some (g, l) ∨ P x = none ∧ w.heap.size ≤ g ∧ l.live = false
  nm : l.s.name = x
  blk : w'.heap[g]? = some (.cells (lK.enc l).toArray lK.te (0, 0))
def newL (x : ByteArray) : Lst := ⟨⟨x, 0, 0, false⟩, false, 0⟩
set_option maxRecDepth 100000 in
set_option maxHeartbeats 1000000 in
theorem find_some {B : Nat} {w : World} {p b most n : Nat} {P : PM} (h : Sm B w p b most P n) {x : ByteArray} (hx : NmOk x) {g : Nat} {l : Lst} (hp : P x = some (g, l)) :
    Calls Try.prog 45 #[ptr p, .string x] w fun e w' => ∃ g l, e = .returned (ptr g) ∧ FindR B w w' p b most P n x g l := by
  have HF : Hid (FindR B w w p b most P n x g l) := Lib.hid ⟨by rw [updM_same hp, hp]; exact h, Turns.refl _ _, .inl hp, (h.nm x _ hp).1, (h.map.blk x _ hp).1⟩
  have q1 := h.c1
  have hl := h.look hx
  rw [hp] at hl
  simp only [ptrM, Option.isSome_some] at hl
  clear h hp hx
  go_enter Try.func45, Try.ntmps45
  go_wp2
  go_ret
  exact ⟨_, _, rfl, HF.out⟩
set_option maxRecDepth 100000 in
set_option maxHeartbeats 1000000 in
theorem find_none {B : Nat} {w : World} {p b most n : Nat} {P : PM} (h : Sm B w p b most P n) (hn : n ≤ 100000) (hB : B ≤ w.heap.size) {x : ByteArray} (hx : NmOk x) (hp : P x = none) :
    Calls Try.prog 45 #[ptr p, .string x] w fun e w' => ∃ g l, e = .returned (ptr g) ∧ FindR B w w' p b most P n x g l := by
  have HS := Lib.hid h
  have HX := Lib.hid hx
  have HP := Lib.hid hp
  have HN := Lib.hid hn
  have HB := Lib.hid hB
  have q1 := h.c1
  have hl := h.look hx
  rw [hp] at hl
  simp only [ptrM, Option.isSome_none] at hl
  clear h hp hx hn hB
  have HC := Lib.hid (clone_nm x w HX.out)
  go_enter Try.func45, Try.ntmps45
  go_wp2_with fail
  refine HC.out.mono ?_
  rintro e w1 ⟨rfl, ht1⟩
  have HT1 := Lib.hid ht1
  clear ht1 q1 hl HC
  go_upto_region 5 with fail
  obtain ⟨W, hW⟩ : ∃ W, w1.alloc (.cells #[.string x, .int .i64 0, .int .i64 0, .bool false, .bool false, .int .i64 0] 88) = W := ⟨_, rfl⟩
  have hblk : W.heap[w1.heap.size]? = some (.cells (lK.enc (newL x)).toArray lK.te (0, 0)) := by rw [← hW]; exact heap_alloc_new w1 _
  have hT : Turns [] w W := HT1.out.then (by rw [← hW]; exact Turns.alloc _ _)
  have hS1 := HS.out.pre HT1.out
  have hS := HS.out.pre hT
  have hin : ¬ MapP.In b P w1.heap.size := by
    rintro (e | ⟨z, q, hq, e⟩)
    · have := hS1.map.map.lt; omega
    · have := lt_of_block (hS1.map.blk z q hq).1; omega
  obtain ⟨w2, hrun, hm, htu⟩ := hS.map.store (t := 64) (e := 91) sm_keyed Try.underlying64 (by have := HN.out; unfold maxLen; omega) HX.out.key hblk (by have := HB.out; have := HT1.out.size; omega) hin
  have hpb := hS.apart.1
  have hlt1 := hS1.lt
  have HF : Hid (FindR B w w2 p b most P n x w1.heap.size (newL x)) := Lib.hid ⟨⟨(htu.block p hS.lt (by simpa using hpb)).trans hS.head, hm, ⟨hpb, fun z q hq => by
      rcases updM_or hq with ⟨_, rfl⟩ | ⟨_, hq⟩
      · exact Ne.symm (Nat.ne_of_lt hlt1)
      · exact hS.apart.2 z q hq⟩, hS.low, fun z q hq => by
      rcases updM_or hq with ⟨rfl, rfl⟩ | ⟨_, hq⟩
      · exact ⟨rfl, HX.out⟩
      · exact hS.nm z q hq⟩, (hT.mono (by simp)).then htu, .inr ⟨HP.out, HT1.out.size, rfl⟩, rfl, (htu.block _ (lt_of_block hblk) (by have := hS1.map.map.lt; simp; omega)).trans hblk⟩
  have q1 := hS.c1
  have hrun' : (Instr.mapUpdate 64 (.map (some b)) (.string x) (.pointer (some ⟨w1.heap.size, 0, none⟩))).run Try.prog W = .ok () w2 := hrun
  rw [hW]
  clear hW hblk hT hS1 hS hin hm htu hpb hlt1 hrun
  go_wp2
  go_ret
  exact ⟨_, _, rfl, HF.out⟩
theorem find_any {B : Nat} {w : World} {p b most n : Nat} {P : PM} (h : Sm B w p b most P n) (hn : n ≤ 100000) (hB : B ≤ w.heap.size) {x : ByteArray} (hx : NmOk x) :
    Calls Try.prog 45 #[ptr p, .string x] w fun e w' => ∃ g l, e = .returned (ptr g) ∧ FindR B w w' p b most P n x g l := by
  cases hp : P x with
  | none => exact find_none h hn hB hx hp
  | some q => exact find_some (g := q.1) (l := q.2) h hx hp
end Go.Proofs.Ytcjmieofmogeiaa
