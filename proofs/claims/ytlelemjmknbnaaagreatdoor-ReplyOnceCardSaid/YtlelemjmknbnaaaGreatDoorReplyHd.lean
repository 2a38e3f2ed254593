/- readHead. -/
import Derived.Test.YtlelemjmknbnaaaGreatDoorReplyEnd
import Derived.Deep.CutBlock
import Derived.WalkMore
namespace Go.Proofs.YtlelemjmknbnaaaGreatDoor
open Go.RowKit

theorem idx_none {l : List UInt8} (h : (10 : UInt8) ∉ l) : Lib.indexByte l 10 = -1 := by
  rcases Int.lt_or_le (Lib.indexByte l 10) 0 with h1 | h1
  · have := Lib.indexByte_ge l 10
    omega
  · obtain ⟨o, ho⟩ : ∃ o : Nat, Lib.indexByte l 10 = o := ⟨(Lib.indexByte l 10).toNat, by omega⟩
    exact absurd (List.mem_of_getElem? (Lib.indexByte_some ho).1) h
theorem idx_some {l : List UInt8} (h : (10 : UInt8) ∈ l) : ∃ i : Nat, Lib.indexByte l 10 = (i : Int) := by
  rcases Int.lt_or_le (Lib.indexByte l 10) 0 with h1 | h1
  · have := Lib.indexByte_ge l 10
    have h2 : Lib.indexByte l 10 = -1 := by omega
    obtain ⟨k, hk⟩ := List.mem_iff_getElem?.1 h
    exact absurd hk (Lib.indexByte_none h2 k)
  · exact ⟨(Lib.indexByte l 10).toNat, by omega⟩
theorem index10_any {W : World} {B : Nat} {A : Option Addr} {l : List UInt8} {c : Nat} (hr : BReads W B A l) (hn : A = none → c = 0) :
    Calls Tryz.prog 24 #[.slice A l.length c, .int .u8 10] W fun e w' => e = .returned (.int .i64 (Lib.indexByte l 10)) ∧ w' = W := by
  cases A with
  | none =>
    have h0 := hr.hnone rfl
    obtain rfl := List.eq_nil_of_length_eq_zero h0
    rw [hn rfl]
    exact Tryz.bytes_IndexByte_nil 10 W
  | some ad =>
    have h := Tryz.bytes_IndexByte_at ad l.length c (numsL l) 10 W (numsL_len l) (fun i hi => by
      rw [hr.cells ad rfl i (bcell l[i]) (by rw [List.getElem?_map, List.getElem?_eq_getElem hi]; rfl)]
      unfold numsL bcell
      simp [List.getD, hi])
    rw [bytesOf_nums] at h
    exact h
/-- What readHead hands back: what is left of the bytes, as a slice of them. -/
def RestV (w w' : World) (A : Option Addr) (l : List UInt8) (e : Ending) : Prop :=
  ∃ A' c', e = .returned (.slice A' l.length c') ∧ BReads w' w'.heap.size A' l ∧ l.length ≤ c' ∧ (A' = none → c' = 0) ∧ ∀ a, A' = some a → ∃ a0, A = some a0 ∧ a.block = a0.block
def HdP (B : Nat) (w : World) (q : Nat) (most : Int) (F : List Nat) (A : Option Addr) (x : Rp × List UInt8) (e : Ending) (w' : World) : Prop :=
  RestV w w' A x.2 e ∧ ∃ F', Rdr B w' q x.1 most F' ∧ Turns F w w' ∧ ∀ g ∈ F', g ∈ F ∨ w.heap.size ≤ g
theorem RestV.nil (w w' : World) (A : Option Addr) : RestV w w' A [] (.returned (.slice none 0 0)) := ⟨none, 0, rfl, .inl rfl, Nat.le_refl _, fun _ => rfl, fun a h => by cases h⟩
theorem head1_no {r : Rp} {b m : List UInt8} (hm : m = b.take (8192 - r.ahead.length)) (h1 : (10 : UInt8) ∉ m) (h2 : (r.ahead ++ m).length < 8192) : r.head1 b = ({ r with ahead := r.ahead ++ m }, []) := by
  subst hm
  unfold Rp.head1
  rw [if_pos ⟨h1, h2⟩]
theorem head1_yes {r : Rp} {b m : List UInt8} (hm : m = b.take (8192 - r.ahead.length)) (h : (10 : UInt8) ∈ m ∨ 8192 ≤ (r.ahead ++ m).length) : r.head1 b = match parseL (r.ahead ++ m) with
    | .err e => ({ r with ahead := [], hd := hd0, whole := false, body := none, wrong := e }, [])
    | .part => ({ r with ahead := r.ahead ++ m }, [])
    | .whole h n => if h.status = 200 then ({ r with ahead := [], hd := h, whole := true, body := some (Dc.made h.length h.chunked r.room), wrong := 0 }, b.drop (n - r.ahead.length))
        else ({ r with ahead := [], hd := h, whole := true, body := none, wrong := 14 }, []) := by
  subst hm
  unfold Rp.head1
  rw [if_neg (by rintro ⟨h1, h2⟩; rcases h with h | h; exact h1 h; omega)]
  cases parseL (r.ahead ++ b.take (8192 - r.ahead.length)) <;> rfl
theorem wpList_append_bN {w : World} {ops : Array Oper} {rest : List Oper} {o : Oper} {a : Act} {Q : Exit → Act → World → Prop} (hgd : o.guard = none) (s x : Operand)
    (ho : o.op = .call { callee := .builtin .append, args := #[s, x], argTypes := #[22, 22] })
    (base : Nat) (v : Value) (l1 : List UInt8) (hs : a.eval s = v) (hown : Owned base w v l1)
    (B : Nat) (A : Option Addr) (l2 : List UInt8) (n c : Nat) (hnn : l2.length = n) (hx : a.eval x = .slice A n c) (hr : BReads w B A l2) (hc : A = none → c = 0)
    (hlen : l1.length + l2.length ≤ 1000000) (hbase : base ≤ w.heap.size)
    (h : ∀ v' w', Owned base w' v' (l1 ++ l2) → Turns (ownB v) w w' → (v'.ownBlock = v.ownBlock ∨ v'.ownBlock = some w.heap.size) → wpList Tryz.prog ops Q rest (a.put o.dst v') w') : wpList Tryz.prog ops Q (o :: rest) a w := by
  subst hnn
  exact wpList_append_bytesT hgd s x ho base v l1 hs hown B A l2 c hx hr hc hlen hbase h
theorem footN {q : Nat} : footR q (.slice none 0 0) [] = [q] := by simp [footR, ownB, Value.ownBlock]
/-- The reader as it is; nothing is left. -/
theorem HdP.kept {B : Nat} {w W : World} {q : Nat} {r : Rp} {most : Int} {av dv : Value} {R F : List Nat} (h : RdR B W q r most av dv R) (ht : Turns F w W) (hx : ∀ g ∈ footR q av R, g ∈ F ∨ w.heap.size ≤ g) (A : Option Addr) : HdP B w q most F A (r, []) (.returned (.slice none 0 0)) W :=
  ⟨RestV.nil _ _ _, _, ⟨_, _, _, h, rfl⟩, ht, hx⟩
/-- A new answer without a body; nothing is left. -/
theorem HdP.laid {B : Nat} {w W : World} {q : Nat} {r : Rp} {most : Int} {av dv : Value} {R F : List Nat} (h : RdR B W q r most av dv R) (ht : Turns F w W) (hq : q ∈ F) (A : Option Addr) (x : Hd) (wh : Bool) (e : Nat) :
    HdP B w q most F A ({ r with ahead := [], hd := x, whole := wh, body := none, wrong := e }, []) (.returned (.slice none 0 0)) (lay8 W q (.slice none 0 0) (.int .i64 (x.status : Int)) (.int .i64 x.length) (.bool x.chunked) (.bool x.close) (.bool wh) (.pointer none) (.int .i64 (e : Int))) := by
  refine ⟨RestV.nil _ _ _, [q], ⟨.slice none 0 0, .pointer none, [], ?_, footN.symm⟩, ht.trans (lay8_turns _ _ _ _ _ _ _ _ _ _) (fun i hi => .inl (by rw [List.mem_singleton] at hi; subst hi; exact hq)), fun g hg => .inl (by rw [List.mem_singleton] at hg; subst hg; exact hq)⟩
  exact h.answer (lay8_heap h.head _ _ _ _ _ _ _ _) rfl ⟨rfl, rfl⟩ rfl (by simp)
/-- A new answer with a body; what stands behind the head is left. -/
theorem HdP.bodied {B : Nat} {w W : World} {q : Nat} {r : Rp} {most : Int} {av dv : Value} {R R' F : List Nat} (h : RdR B W q r most av dv R) (ht : Turns F w W) (hq : q ∈ F) {A : Option Addr} (x : Hd) {p : Nat} {d : Dc} (hd : Dk B W p d R') (hqR : q ∉ R') (hR : ∀ g ∈ R', w.heap.size ≤ g)
    {l : List UInt8} {c : Nat} (hr : BReads W W.heap.size A l) (hA : ∀ a, A = some a → a.block ≠ q) (hc : l.length ≤ c) (hn : A = none → c = 0) (j : Nat) (hj : j ≤ l.length) :
    HdP B w q most F A ({ r with ahead := [], hd := x, whole := true, body := some d, wrong := 0 }, l.drop j) (.returned (Lib.fromV A l.length c j)) (lay8 W q (.slice none 0 0) (.int .i64 (x.status : Int)) (.int .i64 x.length) (.bool x.chunked) (.bool x.close) (.bool true) (.pointer (some ⟨p, 0, none⟩)) (.int .i64 0)) := by
  have ht8 := lay8_turns W q (.slice none 0 0) (.int .i64 (x.status : Int)) (.int .i64 x.length) (.bool x.chunked) (.bool x.close) (.bool true) (.pointer (some ⟨p, 0, none⟩)) (.int .i64 0)
  have hh8 := lay8_heap h.head (.slice none 0 0) (.int .i64 (x.status : Int)) (.int .i64 x.length) (.bool x.chunked) (.bool x.close) (.bool true) (.pointer (some ⟨p, 0, none⟩)) (.int .i64 0)
  refine ⟨?_, q :: R', ⟨.slice none 0 0, .pointer (some ⟨p, 0, none⟩), R', ?_, by simp [footR, ownB, Value.ownBlock]⟩, ht.trans ht8 (fun i hi => .inl (by rw [List.mem_singleton] at hi; subst hi; exact hq)), fun g hg => ?_⟩
  · have h1 := hr.turns ht8 (fun a e hm => hA a e (by rw [List.mem_singleton] at hm; exact hm))
    obtain ⟨A', c', hv, hr', hc', hn'⟩ := Sl.from h1 hc hn j hj
    refine ⟨A', c', by rw [hv], hr', hc', hn', fun a e => ?_⟩
    have hv1 := (Value.slice.injEq .. ▸ (show Value.slice _ _ _ = Value.slice _ _ _ from hv)).1
    rw [← hv1] at e
    split at e
    · exact ⟨a, e, rfl⟩
    · cases hA2 : A with
      | none => rw [hA2] at e; cases e
      | some a0 =>
        rw [hA2] at e
        cases e
        exact ⟨a0, rfl, by unfold Addr.add; split <;> rfl⟩
  · exact h.answer hh8 rfl ⟨p, rfl, hd.turns ht8 (fun g hg hm => hqR (by rw [List.mem_singleton] at hm; subst hm; exact hg))⟩ rfl hqR
  · rw [List.mem_cons] at hg
    rcases hg with rfl | hg
    · exact .inl hq
    · exact .inr (hR g hg)
set_option maxRecDepth 100000 in
set_option maxHeartbeats 8000000 in
theorem readHead_any {B : Nat} {w : World} {q : Nat} {r : Rp} {most : Int} {av : Value} (h : RdR B w q r most av (.pointer none) []) (hbd : r.body = none) (hp : parseL r.ahead = .part) {A : Option Addr} {c : Nat} {l : List UInt8}
    (hr : BReads w w.heap.size A l) (hc : l.length ≤ c) (hn : A = none → c = 0) (hA : 0 < l.length → ∀ a, A = some a → a.block ∉ footR q av []) (hl : l.length ≤ 50000) (hm : MX w) (hmost : most ≤ 9223372036854775807) (hB : 1 < B) :
    Calls Tryz.prog 16 #[.pointer (some ⟨q, 0, none⟩), .slice A l.length c] w (HdP B w q most (footR q av []) A (r.head1 l)) := by
  have hpl := parseL_lt hp
  obtain ⟨m, hmm⟩ : ∃ m, m = l.take (8192 - r.ahead.length) := ⟨_, rfl⟩
  obtain ⟨k, hk⟩ : ∃ k, k = m.length := ⟨_, rfl⟩
  have hkl : k = min l.length (8192 - r.ahead.length) := by rw [hk, hmm, List.length_take]; omega
  have hmr : BReads w w.heap.size A m := by rw [hmm]; exact hr.take _
  obtain ⟨c0, -, -, -, -, -, -, -, -, -, -, cf⟩ := h.cells
  have f0 := cf 0
  obtain ⟨A0, c00, rfl, hra, hca, hna⟩ := h.ahead.sl
  obtain ⟨na, hna2⟩ : ∃ na, na = r.ahead.length := ⟨_, rfl⟩
  obtain ⟨n, hnn⟩ : ∃ n, n = l.length := ⟨_, rfl⟩
  rw [← hna2] at c0 hpl hkl hca ⊢
  rw [← hnn] at hkl hc hl ⊢
  have hmin : min (n : Int) (8192 - (na : Int)) = (k : Int) := by omega
  have k0 : IntKind.i64.wrap (8192 - (na : Int)) = 8192 - (na : Int) := by rw [IntKind.wrap_i64]; omega
  have k1 : (k : Int) ≤ (c : Int) := by omega
  have k2 : k ≤ c := by omega
  have HO : Hid (Owned B w (.slice A0 na c00) r.ahead) := Lib.hid (by rw [hna2]; exact h.ahead)
  have HMR := Lib.hid hmr
  have HN := Lib.hid hn
  have HLE := Lib.hid (show r.ahead.length + m.length ≤ 1000000 by rw [← hna2, ← hk]; omega)
  have HBW := Lib.hid (show B ≤ w.heap.size from Nat.le_trans h.low (Nat.le_of_lt h.lt))
  have HK := Lib.hid hk.symm
  have hh2 : RdR B w q r most (.slice A0 na c00) (.pointer none) [] := by rw [hna2]; exact h
  have HG : Hid (∀ v2 w2, Owned B w2 v2 (r.ahead ++ m) → Turns (ownB (.slice A0 na c00)) w w2 → (v2.ownBlock = (Value.slice A0 na c00).ownBlock ∨ v2.ownBlock = some w.heap.size) → (w2.cell? ⟨q, 0, none⟩ = some (.slice A0 na c00) ∧ w2.frozen? ⟨q, 0, none⟩ = false) ∧
      RdR B (w2.setCell ⟨q, 0, none⟩ v2) q { r with ahead := r.ahead ++ m } most v2 (.pointer none) [] ∧ Turns (footR q (.slice A0 na c00) []) w (w2.setCell ⟨q, 0, none⟩ v2) ∧ ∀ g ∈ footR q v2 [], g ∈ footR q (.slice A0 na c00) [] ∨ w.heap.size ≤ g) := Lib.hid (fun v2 w2 ho ht hf => ⟨by
      have hb := (ht.block q hh2.lt hh2.offA).trans hh2.head
      simp [World.cell?, World.frozen?, hb], hh2.grown (Turns.refl _ _) ho ht hf⟩)
  have HAA : Hid (∀ W, Turns (footR q (.slice A0 na c00) []) w W → BReads W W.heap.size A l) := Lib.hid (fun W hW => by
    by_cases hz : 0 < l.length
    · exact hr.turns hW (fun a e => by rw [hna2]; exact hA hz a e)
    · exact .inl (List.eq_nil_of_length_eq_zero (by omega)))
  have HMX : Hid (∀ W, Turns (footR q (.slice A0 na c00) []) w W → MX W) := Lib.hid (fun W hW => by
    obtain ⟨x, hx⟩ := hm
    have hl0 : 0 < w.heap.size := by simpa using World.block_lt_of_cell? w ⟨0, 0, none⟩ hx
    refine ⟨x, (World.cell?_of_block (a := ⟨0, 0, none⟩) (hW.block 0 hl0 (fun hg => ?_))).trans hx⟩
    unfold footR ownB at hg
    rw [List.mem_cons, List.mem_append, Option.mem_toList] at hg
    rcases hg with hg | hg | hg
    · have := hh2.low; omega
    · have := (World.ownsRow.lt hh2.ahead 0 hg).1; omega
    · simp at hg)
  have HMM := Lib.hid hmm
  have HP := Lib.hid hp
  have HNN := Lib.hid hnn
  have HNA := Lib.hid hna2
  obtain ⟨N, hNe⟩ : ∃ N, N = na + k := ⟨_, rfl⟩
  have hN : N ≤ 8192 := by omega
  have HNE := Lib.hid hNe
  have HKL := Lib.hid hkl
  clear hkl
  have HLQ : Hid (q < w.heap.size) := Lib.hid hh2.lt
  have HAQ : Hid (0 < l.length → ∀ a, A = some a → a.block ≠ q) := Lib.hid (fun hz a e hq => hA hz a e (by rw [hq]; simp [footR]))
  generalize hQ : HdP B w q most (footR q (.slice A0 na c00) []) A (r.head1 l) = Q
  have HQQ := Lib.hid hQ
  clear hQ
  clear h hh2 hr hA hm hra hna hmr hp hmm hnn hna2 hk cf hn hNe
  go_enter Tryz.func16, Tryz.ntmps16
  go_upto_region 3 with fail
  generalize hv1 : Value.slice A0 na c00 = v1 at c0 HO HG HAA HMX HQQ ⊢
  have HV1 := Lib.hid hv1
  clear hv1
  go_upto_region 4 with (at_builtin; refine wpList_append_bN rfl (.tmp 28) (.tmp 29) rfl B v1 r.ahead rfl HO.out w.heap.size A m k c HK.out rfl HMR.out HN.out HLE.out HBW.out ?_; intro v2 w2 ho2 ht2 hf2; obtain ⟨⟨m0, m1⟩, hg⟩ := HG.out v2 w2 ho2 ht2 hf2; have HGG := Lib.hid hg; obtain ⟨A2, c2, e2, -⟩ := ho2.reads; have e3 : (r.ahead ++ m).length = N := (by rw [List.length_append, ← HNA.out, HK.out, ← HNE.out]); rw [e3] at e2; subst e2; clear ho2 ht2 hf2 hg e3)
  generalize w2.setCell ⟨q, 0, none⟩ (.slice A2 N c2) = w3 at HGG ⊢
  obtain ⟨h3, t3, x3⟩ := HGG.out
  have HH3 := Lib.hid h3
  have HT3 := Lib.hid t3
  have HX3 := Lib.hid x3
  obtain ⟨d0, -, -, -, -, -, -, -, -, -, -, -⟩ := h3.cells
  have HIX : Hid (Calls Tryz.prog 24 #[.slice A k c, .int .u8 10] w3 fun e w' => e = .returned (.int .i64 (Lib.indexByte m 10)) ∧ w' = w3) := Lib.hid (by
    have h := index10_any (B := w3.heap.size) (c := c) (show BReads w3 w3.heap.size A m by rw [HMM.out]; exact (HAA.out w3 t3).take _) HN.out
    rw [HK.out] at h
    exact h)
  have HPA : Hid (Calls Tryz.prog 25 #[.slice A2 N c2] w3 fun e w' => e = .returned (PsV (parseL (r.ahead ++ m))) ∧ Below w3.heap.size w3 w') := Lib.hid (by
    have e3 : (r.ahead ++ m).length = N := (by rw [List.length_append, ← HNA.out, HK.out, ← HNE.out])
    obtain ⟨A3, c3, hv, hr3, hc3, hn3⟩ := (show Owned B w3 (.slice A2 N c2) (r.ahead ++ m) from h3.ahead).sl
    rw [e3] at hv hc3
    cases hv
    have h := parse_any hr3 (by rw [e3]; exact hc3) hn3 (by rw [e3]; omega) (HMX.out w3 t3)
    rw [e3] at h
    exact h)
  clear h3 t3 x3 HGG m0 m1 HG HO c0 f0 hca hpl HLE HBW HMR
  by_cases hcase : (10 : UInt8) ∉ m ∧ N < 8192
  · obtain ⟨h10, hlt⟩ := hcase
    have HQ := Lib.hid (HdP.kept HH3.out HT3.out HX3.out A)
    have HE := Lib.hid (head1_no (r := r) HMM.out h10 (by rw [List.length_append, ← HNA.out, HK.out, ← HNE.out]; exact hlt))
    rw [idx_none h10] at HIX
    have HR := Lib.hid (show Q _ _ from by have := HQ.out; rw [← HE.out, HQQ.out] at this; exact this)
    have hlt2 : (N : Int) < 8192 := by omega
    clear h10 HE HPA HQ
    go_wp2_with (go_at_call 24; refine (HIX.out).mono ?_; rintro e w4 ⟨rfl, rfl⟩)
    exact HR.out
  · have HYE := Lib.hid (head1_yes (r := r) HMM.out (show (10 : UInt8) ∈ m ∨ 8192 ≤ (r.ahead ++ m).length by
      rw [List.length_append, ← HNA.out, HK.out, ← HNE.out]
      by_cases h10 : (10 : UInt8) ∈ m
      · exact .inl h10
      · exact .inr (by
          rcases Nat.lt_or_ge N 8192 with h | h
          · exact absurd ⟨h10, h⟩ hcase
          · exact h)))
    cases hpr : parseL (r.ahead ++ m) with
    | err e =>
      have he := parseL_err hpr
      have he0 : ((e : Int) == 0) = false := by simp; omega
      rw [hpr] at HPA HYE
      change Hid (Calls _ _ _ _ fun x w' => x = .returned (.tuple #[.agg #[.int .i64 0, .int .i64 0, .bool false, .bool false], .int .i64 0, .int .i64 (e : Int)]) ∧ _) at HPA
      have HR : Hid (∀ W, RdR B W q { r with ahead := r.ahead ++ m } most (.slice A2 N c2) (.pointer none) [] → Turns (footR q v1 []) w W → Q (.returned (.slice none 0 0)) (lay8 W q (.slice none 0 0) (.int .i64 0) (.int .i64 0) (.bool false) (.bool false) (.bool false) (.pointer none) (.int .i64 (e : Int)))) := Lib.hid (fun W hW hT => by
        have := HdP.laid (w := w) hW hT (by simp [footR]) A hd0 false e
        rw [← HQQ.out, HYE.out]
        exact this)
      have HCS : Hid ((10 : UInt8) ∉ m → ¬ N < 8192) := Lib.hid (fun h1 h2 => hcase ⟨h1, h2⟩)
      clear hpr he HYE hcase
      by_cases h10 : (10 : UInt8) ∈ m
      · obtain ⟨i, hi⟩ := idx_some h10
        rw [hi] at HIX
        have hi0 : decide ((i : Int) < 0) = false := by simp
        clear h10 hi
        go_upto_region 9 with (first | (go_at_call 24; refine (HIX.out).mono ?_; rintro e1 w4 ⟨rfl, rfl⟩) | (go_at_call 25; refine (HPA.out).mono ?_; rintro e1 w5 ⟨rfl, hb5⟩; have HB5 := Lib.hid hb5; clear hb5))
        have hba := HB5.out.alloc HB5.out.size (.cells #[.int .i64 0, .int .i64 0, .bool false, .bool false] 35)
        have HR2 := Lib.hid (HR.out _ (HH3.out.below hba) (HT3.out.trans (Turns.of_below hba (Nat.le_refl _)) (by simp)))
        obtain ⟨g0, g1, g2, g3, g4, g5, g6, g7, -, -, -, gf⟩ := (HH3.out.below hba).cells
        have f0 := gf 0
        have f1 := gf 1
        have f2 := gf 2
        have f3 := gf 3
        have f4 := gf 4
        have f5 := gf 5
        have f6 := gf 6
        have f7 := gf 7
        clear hba gf HR
        generalize w5.alloc (.cells #[.int .i64 0, .int .i64 0, .bool false, .bool false] 35) = W at *
        go_wp2
        exact HR2.out
      · rw [idx_none h10] at HIX
        have hlt2 : decide ((N : Int) < 8192) = false := by
          have : ¬ N < 8192 := HCS.out h10
          simp
          omega
        clear h10
        go_upto_region 9 with (first | (go_at_call 24; refine (HIX.out).mono ?_; rintro e1 w4 ⟨rfl, rfl⟩) | (go_at_call 25; refine (HPA.out).mono ?_; rintro e1 w5 ⟨rfl, hb5⟩; have HB5 := Lib.hid hb5; clear hb5))
        have hba := HB5.out.alloc HB5.out.size (.cells #[.int .i64 0, .int .i64 0, .bool false, .bool false] 35)
        have HR2 := Lib.hid (HR.out _ (HH3.out.below hba) (HT3.out.trans (Turns.of_below hba (Nat.le_refl _)) (by simp)))
        obtain ⟨g0, g1, g2, g3, g4, g5, g6, g7, -, -, -, gf⟩ := (HH3.out.below hba).cells
        have f0 := gf 0
        have f1 := gf 1
        have f2 := gf 2
        have f3 := gf 3
        have f4 := gf 4
        have f5 := gf 5
        have f6 := gf 6
        have f7 := gf 7
        clear hba gf HR
        generalize w5.alloc (.cells #[.int .i64 0, .int .i64 0, .bool false, .bool false] 35) = W at *
        go_wp2
        exact HR2.out
    | part =>
      rw [hpr] at HPA HYE
      change Hid (Calls _ _ _ _ fun x w' => x = .returned (.tuple #[.agg #[.int .i64 0, .int .i64 0, .bool false, .bool false], .int .i64 0, .int .i64 0]) ∧ _) at HPA
      have HR : Hid (∀ W, RdR B W q { r with ahead := r.ahead ++ m } most (.slice A2 N c2) (.pointer none) [] → Turns (footR q v1 []) w W → Q (.returned (.slice none 0 0)) W) := Lib.hid (fun W hW hT => by
        have := HdP.kept (w := w) hW hT HX3.out A
        rw [← HQQ.out, HYE.out]
        exact this)
      have HCS : Hid ((10 : UInt8) ∉ m → ¬ N < 8192) := Lib.hid (fun h1 h2 => hcase ⟨h1, h2⟩)
      clear hpr HYE hcase
      by_cases h10 : (10 : UInt8) ∈ m
      · obtain ⟨i, hi⟩ := idx_some h10
        rw [hi] at HIX
        have hi0 : decide ((i : Int) < 0) = false := by simp
        clear h10 hi
        go_upto_region 9 with (first | (go_at_call 24; refine (HIX.out).mono ?_; rintro e1 w4 ⟨rfl, rfl⟩) | (go_at_call 25; refine (HPA.out).mono ?_; rintro e1 w5 ⟨rfl, hb5⟩; have HB5 := Lib.hid hb5; clear hb5))
        have hba := HB5.out.alloc HB5.out.size (.cells #[.int .i64 0, .int .i64 0, .bool false, .bool false] 35)
        have HR2 := Lib.hid (HR.out _ (HH3.out.below hba) (HT3.out.trans (Turns.of_below hba (Nat.le_refl _)) (by simp)))
        clear hba HR
        generalize w5.alloc (.cells #[.int .i64 0, .int .i64 0, .bool false, .bool false] 35) = W at *
        go_wp2
        exact HR2.out
      · rw [idx_none h10] at HIX
        have hlt2 : decide ((N : Int) < 8192) = false := by
          have : ¬ N < 8192 := HCS.out h10
          simp
          omega
        clear h10
        go_upto_region 9 with (first | (go_at_call 24; refine (HIX.out).mono ?_; rintro e1 w4 ⟨rfl, rfl⟩) | (go_at_call 25; refine (HPA.out).mono ?_; rintro e1 w5 ⟨rfl, hb5⟩; have HB5 := Lib.hid hb5; clear hb5))
        have hba := HB5.out.alloc HB5.out.size (.cells #[.int .i64 0, .int .i64 0, .bool false, .bool false] 35)
        have HR2 := Lib.hid (HR.out _ (HH3.out.below hba) (HT3.out.trans (Turns.of_below hba (Nat.le_refl _)) (by simp)))
        clear hba HR
        generalize w5.alloc (.cells #[.int .i64 0, .int .i64 0, .bool false, .bool false] 35) = W at *
        go_wp2
        exact HR2.out
    | whole hh sz =>
      obtain ⟨st, len, ch, cl⟩ := hh
      have hsz := parseL_le hpr
      have hcut := parseL_cut HP.out hpr
      have hsz0 : ((sz : Int) == 0) = false := by simp; omega
      rw [hpr] at HPA HYE
      change Hid (Calls _ _ _ _ fun x w' => x = .returned (.tuple #[.agg #[.int .i64 (st : Int), .int .i64 len, .bool ch, .bool cl], .int .i64 (sz : Int), .int .i64 0]) ∧ _) at HPA
      have HCS : Hid ((10 : UInt8) ∉ m → ¬ N < 8192) := Lib.hid (fun h1 h2 => hcase ⟨h1, h2⟩)
      by_cases hst : st = 200
      · subst hst
        have hnk : k ≤ n := by have := HKL.out; omega
        have hlz : sz ≤ na + k := by
          have := hsz.2
          rw [List.length_append, ← HNA.out, HK.out] at this
          exact this
        rw [← HNA.out] at hcut
        obtain ⟨j, hj⟩ : ∃ j, sz = na + j := ⟨sz - na, by omega⟩
        have hjn : j ≤ n := by omega
        obtain ⟨gA, offA, hAs, -, -⟩ := (HAA.out w3 HT3.out).addr (by rw [← HNN.out]; omega)
        subst hAs
        have HR : Hid (∀ W p R', RdR B W q { r with ahead := r.ahead ++ m } most (.slice A2 N c2) (.pointer none) [] → Turns (footR q v1 []) w W → Dk B W p (Dc.made len ch r.room) R' → (∀ g ∈ R', w.heap.size ≤ g) →
            Q (.returned (.slice (if c = j then some ⟨gA, offA, none⟩ else some ⟨gA, offA + j, none⟩) (n - j) (c - j))) (lay8 W q (.slice none 0 0) (.int .i64 200) (.int .i64 len) (.bool ch) (.bool cl) (.bool true) (.pointer (some ⟨p, 0, none⟩)) (.int .i64 0))) := Lib.hid (fun W p R' hW hT hd hR => by
          have := HdP.bodied (w := w) hW hT (by simp [footR]) ⟨200, len, ch, cl⟩ hd (fun hm => by have := hR q hm; have := HLQ.out; omega) hR (HAA.out W hT) (fun a e => HAQ.out (by rw [← HNN.out]; omega) a e) (by rw [← HNN.out]; exact hc) HN.out j (by rw [← HNN.out]; exact hjn)
          rw [← HQQ.out, HYE.out]
          simp only []
          rw [if_pos trivial]
          have e1 : sz - r.ahead.length = j := by rw [← HNA.out]; omega
          rw [e1]
          have e2 : Lib.fromV (some ⟨gA, offA, none⟩) l.length c j = .slice (if c = j then some ⟨gA, offA, none⟩ else some ⟨gA, offA + j, none⟩) (n - j) (c - j) := by
            unfold Lib.fromV
            rw [← HNN.out]
            simp [add_plain']
          rw [← e2]
          exact this)
        have HNW : Hid (∀ W W', RdR B W q { r with ahead := r.ahead ++ m } most (.slice A2 N c2) (.pointer none) [] → Turns (footR q v1 []) w W → Turns [] W W' → Calls Tryz.prog 26 #[.agg #[.int .i64 200, .int .i64 len, .bool ch, .bool cl], .int .i64 most] W' fun e w' => ∃ p R', e = .returned (.pointer (some ⟨p, 0, none⟩)) ∧ RdR B w' q { r with ahead := r.ahead ++ m } most (.slice A2 N c2) (.pointer none) [] ∧ Below W.heap.size W w' ∧ Hid (Q (.returned (.slice (if c = j then some ⟨gA, offA, none⟩ else some ⟨gA, offA + j, none⟩) (n - j) (c - j))) (lay8 w' q (.slice none 0 0) (.int .i64 200) (.int .i64 len) (.bool ch) (.bool cl) (.bool true) (.pointer (some ⟨p, 0, none⟩)) (.int .i64 0)))) := Lib.hid (fun W W' hW hT hWW => (new_dk (B := B) W' (Nat.le_trans (Nat.le_trans hW.low (Nat.le_of_lt hW.lt)) hWW.size) 200 len most ch cl r.room hW.room hmost).mono fun e w' hh => by
          obtain ⟨p, R', he, hd, hb, hR⟩ := hh
          have hBW : Below W.heap.size W w' := (hWW.below (by simp) (Nat.le_refl _)).trans (hb.mono hWW.size)
          have hs1 := hT.size
          have hs2 := hWW.size
          exact ⟨p, R', he, hW.below hBW, hBW, Lib.hid (HR.out w' p R' (hW.below hBW) (hT.trans (Turns.of_below hBW (Nat.le_refl _)) (by simp)) hd (fun g hg => by have := hR g hg; omega))⟩)
        have k3 : IntKind.i64.wrap ((sz : Int) - (na : Int)) = (j : Int) := by rw [IntKind.wrap_i64]; omega
        have k4 : (j : Int) ≤ (n : Int) := by omega
        have k5 : j ≤ n := hjn
        clear hpr HYE hcase hsz hcut hj hlz hnk hjn HR
        by_cases h10 : (10 : UInt8) ∈ m
        · obtain ⟨i, hi⟩ := idx_some h10
          rw [hi] at HIX
          have hi0 : decide ((i : Int) < 0) = false := by simp
          clear h10 hi
          go_upto_region 9 with (first | (go_at_call 24; refine (HIX.out).mono ?_; rintro e1 w4 ⟨rfl, rfl⟩) | (go_at_call 25; refine (HPA.out).mono ?_; rintro e1 w5 ⟨rfl, hb5⟩; have HB5 := Lib.hid hb5; clear hb5))
          have hba := HB5.out.alloc HB5.out.size (.cells #[.int .i64 200, .int .i64 len, .bool ch, .bool cl] 35)
          have hh := heap_alloc_new w5 (.cells #[.int .i64 200, .int .i64 len, .bool ch, .bool cl] 35)
          have hlb : w5.heap.size < (w5.alloc (.cells #[.int .i64 200, .int .i64 len, .bool ch, .bool cl] 35)).heap.size := by simp
          have HW := Lib.hid (HNW.out _ · (HH3.out.below hba) (HT3.out.trans (Turns.of_below hba (Nat.le_refl _)) (by simp)))
          obtain ⟨b0, b1, b2, b3, -⟩ := read_cells hh
          obtain ⟨-, -, -, -, -, -, -, -, g8, -, -, gf⟩ := (HH3.out.below hba).cells
          clear hba gf HNW
          generalize w5.alloc (.cells #[.int .i64 200, .int .i64 len, .bool ch, .bool cl] 35) = W at *
          generalize w5.heap.size = bh at *
          have HHB := Lib.hid hh
          have HLB := Lib.hid hlb
          clear hh hlb
          go_upto_region 7 with fail
          go_region_with (go_at_call 26; refine (HW.out _ (by exact ⟨rfl, rfl, rfl, Nat.le_refl _, fun _ _ _ => rfl⟩)).mono ?_; rintro e1 w6 ⟨p6, R6, rfl, h6, hb6, hq6⟩; obtain ⟨x0, x1, x2, x3, -⟩ := read_cells ((hb6.block _ HLB.out).trans HHB.out); obtain ⟨y0, y1, y2, y3, y4, y5, y6, y7, y8, -, -, yf⟩ := h6.cells; have f0 := yf 0; have f1 := yf 1; have f2 := yf 2; have f3 := yf 3; have f4 := yf 4; have f5 := yf 5; have f6 := yf 6; have f7 := yf 7; clear yf h6 hb6)
          all_goals
            by_cases hcj : c = j
            · rw [if_pos hcj, show c - j = 0 by omega] at hq6
              have htc : (c == j) = true := by simp [hcj]
              go_wp2
              exact hq6.out
            · rw [if_neg hcj] at hq6
              have htc : (c == j) = false := by simp [hcj]
              go_wp2
              exact hq6.out
        · rw [idx_none h10] at HIX
          have hlt2 : decide ((N : Int) < 8192) = false := by
            have : ¬ N < 8192 := HCS.out h10
            simp
            omega
          clear h10
          go_upto_region 9 with (first | (go_at_call 24; refine (HIX.out).mono ?_; rintro e1 w4 ⟨rfl, rfl⟩) | (go_at_call 25; refine (HPA.out).mono ?_; rintro e1 w5 ⟨rfl, hb5⟩; have HB5 := Lib.hid hb5; clear hb5))
          have hba := HB5.out.alloc HB5.out.size (.cells #[.int .i64 200, .int .i64 len, .bool ch, .bool cl] 35)
          have hh := heap_alloc_new w5 (.cells #[.int .i64 200, .int .i64 len, .bool ch, .bool cl] 35)
          have hlb : w5.heap.size < (w5.alloc (.cells #[.int .i64 200, .int .i64 len, .bool ch, .bool cl] 35)).heap.size := by simp
          have HW := Lib.hid (HNW.out _ · (HH3.out.below hba) (HT3.out.trans (Turns.of_below hba (Nat.le_refl _)) (by simp)))
          obtain ⟨b0, b1, b2, b3, -⟩ := read_cells hh
          obtain ⟨-, -, -, -, -, -, -, -, g8, -, -, gf⟩ := (HH3.out.below hba).cells
          clear hba gf HNW
          generalize w5.alloc (.cells #[.int .i64 200, .int .i64 len, .bool ch, .bool cl] 35) = W at *
          generalize w5.heap.size = bh at *
          have HHB := Lib.hid hh
          have HLB := Lib.hid hlb
          clear hh hlb
          go_upto_region 7 with fail
          go_region_with (go_at_call 26; refine (HW.out _ (by exact ⟨rfl, rfl, rfl, Nat.le_refl _, fun _ _ _ => rfl⟩)).mono ?_; rintro e1 w6 ⟨p6, R6, rfl, h6, hb6, hq6⟩; obtain ⟨x0, x1, x2, x3, -⟩ := read_cells ((hb6.block _ HLB.out).trans HHB.out); obtain ⟨y0, y1, y2, y3, y4, y5, y6, y7, y8, -, -, yf⟩ := h6.cells; have f0 := yf 0; have f1 := yf 1; have f2 := yf 2; have f3 := yf 3; have f4 := yf 4; have f5 := yf 5; have f6 := yf 6; have f7 := yf 7; clear yf h6 hb6)
          all_goals
            by_cases hcj : c = j
            · rw [if_pos hcj, show c - j = 0 by omega] at hq6
              have htc : (c == j) = true := by simp [hcj]
              go_wp2
              exact hq6.out
            · rw [if_neg hcj] at hq6
              have htc : (c == j) = false := by simp [hcj]
              go_wp2
              exact hq6.out
      · have hst0 : ((st : Int) == 200) = false := by simp; omega
        have HR : Hid (∀ W, RdR B W q { r with ahead := r.ahead ++ m } most (.slice A2 N c2) (.pointer none) [] → Turns (footR q v1 []) w W → Q (.returned (.slice none 0 0)) (lay8 W q (.slice none 0 0) (.int .i64 (st : Int)) (.int .i64 len) (.bool ch) (.bool cl) (.bool true) (.pointer none) (.int .i64 14))) := Lib.hid (fun W hW hT => by
          have := HdP.laid (w := w) hW hT (by simp [footR]) A ⟨st, len, ch, cl⟩ true 14
          rw [← HQQ.out, HYE.out]
          simp only []
          rw [if_neg hst]
          exact this)
        clear hpr HYE hcase hst hsz hcut
        by_cases h10 : (10 : UInt8) ∈ m
        · obtain ⟨i, hi⟩ := idx_some h10
          rw [hi] at HIX
          have hi0 : decide ((i : Int) < 0) = false := by simp
          clear h10 hi
          go_upto_region 9 with (first | (go_at_call 24; refine (HIX.out).mono ?_; rintro e1 w4 ⟨rfl, rfl⟩) | (go_at_call 25; refine (HPA.out).mono ?_; rintro e1 w5 ⟨rfl, hb5⟩; have HB5 := Lib.hid hb5; clear hb5))
          have hba := HB5.out.alloc HB5.out.size (.cells #[.int .i64 (st : Int), .int .i64 len, .bool ch, .bool cl] 35)
          have HR2 := Lib.hid (HR.out _ (HH3.out.below hba) (HT3.out.trans (Turns.of_below hba (Nat.le_refl _)) (by simp)))
          obtain ⟨b0, b1, b2, b3, -⟩ := read_cells (heap_alloc_new w5 (.cells #[.int .i64 (st : Int), .int .i64 len, .bool ch, .bool cl] 35))
          obtain ⟨g0, g1, g2, g3, g4, g5, g6, g7, -, -, -, gf⟩ := (HH3.out.below hba).cells
          have f0 := gf 0
          have f1 := gf 1
          have f2 := gf 2
          have f3 := gf 3
          have f4 := gf 4
          have f5 := gf 5
          have f6 := gf 6
          have f7 := gf 7
          clear hba gf HR
          generalize w5.alloc (.cells #[.int .i64 (st : Int), .int .i64 len, .bool ch, .bool cl] 35) = W at *
          generalize w5.heap.size = bh at *
          go_wp2
          exact HR2.out
        · rw [idx_none h10] at HIX
          have hlt2 : decide ((N : Int) < 8192) = false := by
            have : ¬ N < 8192 := HCS.out h10
            simp
            omega
          clear h10
          go_upto_region 9 with (first | (go_at_call 24; refine (HIX.out).mono ?_; rintro e1 w4 ⟨rfl, rfl⟩) | (go_at_call 25; refine (HPA.out).mono ?_; rintro e1 w5 ⟨rfl, hb5⟩; have HB5 := Lib.hid hb5; clear hb5))
          have hba := HB5.out.alloc HB5.out.size (.cells #[.int .i64 (st : Int), .int .i64 len, .bool ch, .bool cl] 35)
          have HR2 := Lib.hid (HR.out _ (HH3.out.below hba) (HT3.out.trans (Turns.of_below hba (Nat.le_refl _)) (by simp)))
          obtain ⟨b0, b1, b2, b3, -⟩ := read_cells (heap_alloc_new w5 (.cells #[.int .i64 (st : Int), .int .i64 len, .bool ch, .bool cl] 35))
          obtain ⟨g0, g1, g2, g3, g4, g5, g6, g7, -, -, -, gf⟩ := (HH3.out.below hba).cells
          have f0 := gf 0
          have f1 := gf 1
          have f2 := gf 2
          have f3 := gf 3
          have f4 := gf 4
          have f5 := gf 5
          have f6 := gf 6
          have f7 := gf 7
          clear hba gf HR
          generalize w5.alloc (.cells #[.int .i64 (st : Int), .int .i64 len, .bool ch, .bool cl] 35) = W at *
          generalize w5.heap.size = bh at *
          go_wp2
          exact HR2.out
end Go.Proofs.YtlelemjmknbnaaaGreatDoor
