/- The program's credit: a gain comes to its window. -/
import Derived.Test.YtjkkpdflijjllaaWiClose
import Derived.Test.YtjkkpdflijjllaaFixAddP
namespace Go.Proofs.Ytjkkpdflijjllaa
open Go.RowKit Go.Maps Go.Sort Go.Shelf

/-- A window that is put at its place. -/
theorem put_mem {n : Int} {c : List Cr} {L : List Wn} (h : SrtW L) :
    (∀ y, y ∈ L.take (posW n L) ++ (⟨n, c⟩ : Wn) :: L.drop (if isW n L then posW n L + 1 else posW n L) ↔ (y ∈ L ∧ y.num ≠ n) ∨ y = ⟨n, c⟩) ∧
    (L.take (posW n L) ++ (⟨n, c⟩ : Wn) :: L.drop (if isW n L then posW n L + 1 else posW n L)).length = if isW n L then L.length else L.length + 1 := by
  obtain ⟨h1, h2⟩ := posW_parts n h
  have hle := posW_le n L
  cases hi : isW n L with
  | true =>
    obtain ⟨x, hx, hxn⟩ := isW_at h hi
    obtain ⟨hlt, hxe⟩ := List.getElem?_eq_some_iff.1 hx
    have hd : L.drop (posW n L) = x :: L.drop (posW n L + 1) := by rw [← hxe]; exact List.drop_eq_getElem_cons hlt
    have hsd : SrtW (L.drop (posW n L)) := h.sublist (List.drop_sublist _ _)
    rw [hd] at hsd
    have hc := List.pairwise_cons.1 hsd
    simp only [if_true]
    refine ⟨fun y => ?_, by simp; omega⟩
    constructor
    · intro hy
      rcases List.mem_append.1 hy with h3 | h3
      · exact .inl ⟨List.mem_of_mem_take h3, by have := h1 y h3; omega⟩
      · rcases List.mem_cons.1 h3 with h3 | h3
        · exact .inr h3
        · exact .inl ⟨List.mem_of_mem_drop h3, by have := hc.1 y h3; omega⟩
    · rintro (⟨h3, h4⟩ | h3)
      · rw [← List.take_append_drop (posW n L) L, hd] at h3
        rcases List.mem_append.1 h3 with h3 | h3
        · exact List.mem_append.2 (.inl h3)
        · rcases List.mem_cons.1 h3 with rfl | h3
          · exact absurd hxn h4
          · exact List.mem_append.2 (.inr (List.mem_cons_of_mem _ h3))
      · exact List.mem_append.2 (.inr (by rw [h3]; simp))
  | false =>
    have hne := isW_not hi
    simp only [Bool.false_eq_true, if_false]
    refine ⟨fun y => ?_, by simp; omega⟩
    constructor
    · intro hy
      rcases List.mem_append.1 hy with h3 | h3
      · have := List.mem_of_mem_take h3
        exact .inl ⟨this, hne y this⟩
      · rcases List.mem_cons.1 h3 with h3 | h3
        · exact .inr h3
        · have := List.mem_of_mem_drop h3
          exact .inl ⟨this, hne y this⟩
    · rintro (⟨h3, h4⟩ | h3)
      · rw [← List.take_append_drop (posW n L) L] at h3
        rcases List.mem_append.1 h3 with h3 | h3
        · exact List.mem_append.2 (.inl h3)
        · exact List.mem_append.2 (.inr (List.mem_cons_of_mem _ h3))
      · exact List.mem_append.2 (.inr (by rw [h3]; simp))
theorem MapO.congr {k : TypeId} {κ : Type} {T : KD k κ} {α : Type} {K : ObK α} {B : Nat} {w : World} {b n : Nat} {P Q : κ → Option (Nat × α)} (h : MapO T K B w b P n) (e : ∀ x, P x = Q x) : MapO T K B w b Q n := by
  have : P = Q := funext e
  rw [← this]; exact h
/-- The credits of a window, or none. -/
def oldC (S : Ws) (n : Int) : List Cr := if isW n S.L then wnAt S.L (posW n S.L) else []
/-- How far credit has come: the window's map is there, f tells l. -/
structure CrJ (B : Nat) (w : World) (p b : Nat) (P : PW) (S : Ws) (n : Int) (bx : Array Value) (g : Nat) (f : SM) (X : World) : Prop where
  head : HeadW X p b S
  map : MapO numKD obW B X b (fun z => if z = n then some (g, (f, (oldC S n).length)) else P z) (if isW n S.L then S.L.length else S.L.length + 1)
  tel : TelC f (oldC S n)
  gp : g ≠ p
  box : X.heap[w.heap.size]? = some (.cells bx 34 (0, 0))
  tt : Turns [p, b] w X
  was : (∃ q, P n = some q ∧ q.1 = g) ∨ w.heap.size < g
def CredPost (B : Nat) (w : World) (p b : Nat) (P : PW) (S : Ws) (n : Int) (name : ByteArray) (inc : Int) (e : Ending) (w' : World) : Prop :=
  e = .returned (.tuple #[]) ∧ ∃ g y, ((∃ q, P n = some q ∧ q.1 = g) ∨ w.heap.size < g) ∧ WiA B w' p b (fun z => if z = n then some (g, y) else P z) (putW S n name inc (isW n S.L) (posW n S.L)) ∧ Turns [p, b, g] w w'
section
variable {B : Nat} {w X Y : World} {p b g : Nat} {P : PW} {S : Ws} {n : Int} {bx : Array Value} {f : SM} {F : List Nat}
theorem oldC_here (h : WiA B w p b P S) (hs : SrtW S.L) {q : Nat × (SM × Nat)} (hp : P n = some q) : q = (q.1, (q.2.1, (oldC S n).length)) ∧ TelC q.2.1 (oldC S n) ∧ isW n S.L = true := by
  have hw := h.tel.isW n
  rw [hp] at hw
  have hi : isW n S.L = true := hw.symm
  obtain ⟨x, hx, hxn⟩ := isW_at hs hi
  obtain ⟨g2, f2, h2, h3⟩ := h.tel.mem x (List.mem_of_getElem? hx)
  rw [hxn, hp] at h2
  cases h2
  have e : oldC S n = x.cr := by unfold oldC wnAt; rw [if_pos hi, hx]; rfl
  rw [e]
  exact ⟨rfl, h3, hi⟩
theorem oldC_none (h : WiA B w p b P S) (hp : P n = none) : oldC S n = [] ∧ isW n S.L = false := by
  have hw := h.tel.isW n
  rw [hp] at hw
  have hi : isW n S.L = false := hw.symm
  exact ⟨by unfold oldC; rw [hi]; rfl, hi⟩
theorem CrJ.start (h : WiA B w p b P S) (hs : SrtW S.L) {q : Nat × (SM × Nat)} (hp : P n = some q) (ht : Turns [] w X) (hb : X.heap[w.heap.size]? = some (.cells bx 34 (0, 0))) : CrJ B w p b P S n bx q.1 q.2.1 X := by
  obtain ⟨e1, e2, e3⟩ := oldC_here h hs hp
  refine ⟨h.head.turns ht (by simp), ?_, e2, h.apart n q hp, hb, ht.mono (by simp), .inl ⟨q, hp, rfl⟩⟩
  rw [e3]
  refine (h.map.pre ht).congr fun z => ?_
  by_cases hz : z = n
  · rw [if_pos hz, hz, hp, ← e1]
  · rw [if_neg hz]
theorem CrJ.next (h : CrJ B w p b P S n bx g f X) (ht : Turns [] X Y) : CrJ B w p b P S n bx g f Y :=
  ⟨h.head.turns ht (by simp), h.map.pre ht, h.tel, h.gp, (ht.block _ (lt_of_block h.box) (by simp)).trans h.box, h.tt.trans ht (by simp), h.was⟩
theorem CrJ.here (_ : CrJ B w p b P S n bx g f X) : (fun z => if z = n then some (g, (f, (oldC S n).length)) else P z) n = some (g, (f, (oldC S n).length)) := if_pos rfl
theorem CrJ.inner (h : CrJ B w p b P S n bx g f X) : MapS X g f (oldC S n).length := (h.map.blk n _ h.here).1
/-- A new map comes. -/
theorem CrJ.fresh (h : WiA B w p b P S) (hn : numKD.ok n) (hL : S.L.length ≤ 50000) (hp : P n = none) (ht : Turns [] w X) (hb : X.heap[w.heap.size]? = some (.cells bx 34 (0, 0))) (hB : B ≤ w.heap.size) :
    ∃ Y, (Instr.mapUpdate tO (.map (some b)) (.int .i64 n) (.map (some X.heap.size))).run Try.prog (X.alloc (.map #[] 0)) = .ok () Y ∧ CrJ B w p b P S n bx X.heap.size (fun _ => none) Y := by
  obtain ⟨e1, e2⟩ := oldC_none h hp
  have h0 : WiA B X p b P S := h.pre ht
  have h1 : WiA B (X.alloc (.map #[] 0)) p b P S := h0.pre (Turns.alloc _ _)
  have hob : obW.Ob (X.alloc (.map #[] 0)) X.heap.size ((fun _ => none), 0) := MapG.made txtKD sumR X
  have hXs := lt_of_block hb
  have hnin : ¬ MapO.In b P X.heap.size := fun hi => by
    have := (h0.lt _ (.inr hi)).2
    omega
  obtain ⟨Y, hrun, hm, htu⟩ := h1.map.store num_keyed undO (by unfold maxLen; omega) hn hob (by omega) hnin
  have hpn : X.heap.size ≠ p := fun e => by have := h0.head.lt; omega
  have hpb := h.ne
  have hblt := h.map.map.lt
  refine ⟨Y, hrun, ⟨h1.head.turns htu (by simpa using hpb), ?_, by rw [e1]; exact .nil, hpn, (htu.block _ (by simp; omega) (by simp; omega)).trans (((Turns.alloc (F := []) X (.map #[] 0)).block _ (by omega) (by simp)).trans hb), ((ht.then (Turns.alloc _ _)).mono (G := [p, b]) (by simp)).then (htu.mono (by simp)), .inr hXs⟩⟩
  rw [e2]
  rw [hp] at hm
  rw [e1]
  exact hm
theorem CrJ.fin (h : CrJ B w p b P S n bx g f X) (hw : WiA B w p b P S) (hs : SrtW S.L) {name : ByteArray} {inc : Int} (hns : name.size ≤ 140737488355328) {f' : SM} {k' : Nat} (hi : MapS Y g f' k') (ht : Turns [g] X Y) (hf : TelC f' (credL name inc (oldC S n))) (hk : k' = (credL name inc (oldC S n)).length) :
    CredPost B w p b P S n name inc (.returned (.tuple #[])) (Y.setCell ⟨p, 5, none⟩ (.int .i64 (S.cred + 1))) := by
  subst hk
  obtain ⟨e1, e2⟩ := put_mem (c := credL name inc (oldC S n)) hs (n := n)
  have hm := h.map.write h.here ht (show obW.Ob Y g (f', (credL name inc (oldC S n)).length) from hi)
  have hm2 : MapO numKD obW B Y b (fun z => if z = n then some (g, (f', (credL name inc (oldC S n)).length)) else P z) (if isW n S.L then S.L.length else S.L.length + 1) := hm.congr fun z => by
    by_cases hz : z = n
    · rw [if_pos hz, if_pos hz]
    · rw [if_neg hz, if_neg hz, if_neg hz]
  have hgp := h.gp
  have hh : HeadW Y p b S := h.head.turns ht (by simpa using Ne.symm hgp)
  have htp : Turns [p] Y (Y.setCell ⟨p, 5, none⟩ (.int .i64 (S.cred + 1))) := Turns.setCell _ _ _ (by simp)
  have hap : ∀ z q, (if z = n then some (g, (f', (credL name inc (oldC S n)).length)) else P z) = some q → q.1 ≠ p := fun z q hq => by
    by_cases hz : z = n
    · rw [if_pos hz] at hq
      cases hq
      exact hgp
    · rw [if_neg hz] at hq
      exact hw.apart z q hq
  have hLe : (putW S n name inc (isW n S.L) (posW n S.L)).L = S.L.take (posW n S.L) ++ (⟨n, credL name inc (oldC S n)⟩ : Wn) :: S.L.drop (if isW n S.L then posW n S.L + 1 else posW n S.L) := by
    unfold putW oldC
    rfl
  refine ⟨rfl, g, _, h.was, ⟨?_, ?_, ⟨fun y hy => ?_, fun z q hq => ?_⟩, hw.low, hw.ne, hap, hw.len⟩, ?_⟩
  · exact heap_setCell_same Y p 5 _ _ _ hh
  · rw [hLe, e2]
    refine hm2.turns htp fun i hi hin => ?_
    rw [List.mem_singleton] at hi
    subst hi
    rcases hin with e | ⟨z, q, hq, e⟩
    · exact hw.ne e
    · exact hap z q hq e
  · rw [hLe] at hy
    rcases (e1 y).1 hy with ⟨h1, h2⟩ | rfl
    · obtain ⟨g2, f2, h3, h4⟩ := hw.tel.mem y h1
      exact ⟨g2, f2, by rw [if_neg h2]; exact h3, h4⟩
    · exact ⟨g, f', if_pos rfl, hf⟩
  · rw [hLe]
    by_cases hz : z = n
    · exact ⟨_, (e1 _).2 (.inr rfl), hz.symm⟩
    · rw [if_neg hz] at hq
      obtain ⟨y, hy, e⟩ := hw.tel.all z q hq
      exact ⟨y, (e1 y).2 (.inl ⟨hy, by rw [e]; exact hz⟩), e⟩
  · exact ((h.tt.mono (by simp)).then (ht.mono (by simp))).then (htp.mono (by simp))
end
end Go.Proofs.Ytjkkpdflijjllaa

namespace Go.Proofs.Ytjkkpdflijjllaa
open Go.RowKit Go.Maps Go.Sort Go.Shelf

set_option maxRecDepth 100000 in
set_option maxHeartbeats 4000000 in
theorem credit_any {B : Nat} {w : World} {p b : Nat} {P : PW} {S : Ws} (h : WiA B w p b P S) (hs : SmallL S.L) (hB : B ≤ w.heap.size) {n : Int} (hn : -9223372036854775808 ≤ n ∧ n ≤ 9223372036854775807) (name : ByteArray) (hns : name.size ≤ 140737488355328) (tm inc : Int) (rs : Bool) (hi : 0 ≤ inc ∧ inc ≤ 9223372036854775807) (hok : COk (oldC S n)) (hcr : 0 ≤ S.cred ∧ S.cred ≤ 1000000000) (hol : (oldC S n).length ≤ 50000) :
    Calls Try.prog 37 #[ptrV p, .int .i64 n, .agg #[.string name, .int .i64 tm, .int .i64 inc, .bool rs]] w (CredPost B w p b P S n name inc) := by
  have H := Lib.hid h
  have HS := Lib.hid hs
  have HN := Lib.hid (num_ok hn)
  have HOK := Lib.hid hok
  have HNS := Lib.hid hns
  have HOL := Lib.hid hol
  have HBB := Lib.hid hB
  have HNN := Lib.hid hn
  clear h hs hok hns hB hol
  go_enter Try.func37, Try.ntmps37
  go_upto_region 1 with fail
  obtain ⟨W0, hW0⟩ : ∃ W0, w.alloc (.cells #[.string name, .int .i64 tm, .int .i64 inc, .bool rs] 34) = W0 := ⟨_, rfl⟩
  have HBX : Hid (W0.heap[w.heap.size]? = some (.cells #[.string name, .int .i64 tm, .int .i64 inc, .bool rs] 34 (0, 0))) := Lib.hid (by rw [← hW0]; exact heap_alloc_new w _)
  have HT0 : Hid (Turns [] w W0) := Lib.hid (by rw [← hW0]; exact Turns.alloc _ _)
  rw [hW0]
  clear hW0 hn
  obtain ⟨-, -, -, -, -, -, -, c7, -⟩ := (H.out.pre HT0.out).head.cells
  have hlk := (H.out.pre HT0.out).look HN.out
  cases hp : P n with
  | some q =>
    rw [inW_some hp, hp] at hlk
    simp only [Option.isSome_some] at hlk
    have HJ := Lib.hid (CrJ.start H.out HS.out.srt hp HT0.out HBX.out)
    obtain ⟨g, f, k⟩ := q
    simp only at HJ hlk
    clear hp
    obtain ⟨ap, ao, hget, hap0, hap1, hval⟩ : ∃ (a : Int) (o : Bool), (f name).getD (.agg #[.int .i64 0, .bool false]) = .agg #[.int .i64 a, .bool o] ∧ 0 ≤ a ∧ a ≤ 9223372036854775807 ∧
        (match f name with | .none => (Value.agg #[.int .i64 (sat (a + inc)).1, .bool ((sat (a + inc)).2 || o)]) = sumV ⟨name, inc, false⟩ | .some _ => ∀ x ∈ oldC S n, x.name = name → (Value.agg #[.int .i64 (sat (a + inc)).1, .bool ((sat (a + inc)).2 || o)]) = sumV (addC x inc)) := by
      have hi1 := hi
      cases hf : f name with
      | none =>
        refine ⟨0, false, rfl, by omega, by omega, ?_⟩
        simp only [Int.zero_add]
        rw [sat_in _ (by omega) (by omega)]
        rfl
      | some v =>
        obtain ⟨x, hx, hxn, rfl⟩ := HJ.out.tel.some hf
        obtain ⟨h1, h2⟩ := HOK.out x hx
        refine ⟨x.inc, x.over, rfl, h1, h2, fun y hy hyn => ?_⟩
        have e := HJ.out.tel.rise.only hy hx (hyn.trans hxn.symm)
        subst e
        unfold addC
        by_cases hb : 9223372036854775807 < y.inc + inc
        · rw [sat_most _ hb, if_pos hb]; rfl
        · rw [sat_in _ (by omega) (by omega), if_neg hb]; simp [sumV]
    have HVAL := Lib.hid hval
    have hbx := HJ.out.box
    have b0 : W0.cell? ⟨w.heap.size, 0, none⟩ = some (.string name) := by simp [World.cell?, hbx]
    have HC := Lib.hid (clone_wi name W0 HNS.out)
    clear hval hbx
    go_wp2_with fail
    refine HC.out.mono ?_
    rintro e w1 ⟨rfl, ht1⟩
    have HJ1 := Lib.hid (HJ.out.next ht1)
    have hlk := MapS.look HJ1.out.inner HNS.out
    rw [hget] at hlk
    have hbx1 := HJ1.out.box
    have b2 : w1.cell? ⟨w.heap.size, 2, none⟩ = some (.int .i64 inc) := by simp [World.cell?, hbx1]
    have hlt1 : w.heap.size < w1.heap.size := lt_of_block hbx1
    have HAD := Lib.hid (fun W => add_any ap inc W (by omega) hap1 (by omega) hi.2)
    clear ht1 b0 HC hbx1 hget
    go_wp2_with fail
    refine (HAD.out _).mono ?_
    rintro e w2 ⟨rfl, rfl⟩
    have HJ2 := Lib.hid (HJ1.out.next (Turns.alloc w1 (.cells #[.int .i64 ap, .bool ao] 78)))
    obtain ⟨Y, hrun, hm, htu⟩ := MapS.store HJ2.out.inner (by have := HOL.out; unfold maxLen; omega) HNS.out (sat (ap + inc)).1 ((sat (ap + inc)).2 || ao)
    obtain ⟨-, -, -, -, -, y5, -, -, yf⟩ := (HJ2.out.head.turns htu (by simpa using Ne.symm HJ2.out.gp)).cells
    have hfin : CredPost B w p b P S n name inc (.returned (.tuple #[])) (Y.setCell ⟨p, 5, none⟩ (.int .i64 (S.cred + 1))) := by
      obtain ⟨e1, e2⟩ := HJ2.out.tel.cred HNS.out inc HVAL.out
      exact HJ2.out.fin H.out HS.out.srt HNS.out hm htu e1 e2.symm
    have HFIN := Lib.hid hfin
    have hwr : IntKind.i64.wrap (S.cred + 1) = S.cred + 1 := IntWalk.i64_in _ (by omega)
    clear hm htu hfin b2 hlk HAD
    generalize (sat (ap + inc)).1 = s1 at *
    generalize (sat (ap + inc)).2 = s2 at *
    cases s2 with
    | true =>
      simp only [Bool.true_or] at hrun
      go_wp2_with fail
      go_end0
      exact HFIN.out
    | false =>
      simp only [Bool.false_or] at hrun
      go_wp2_with fail
      go_end0
      exact HFIN.out
  | none =>
    rw [inW_none hp, hp] at hlk
    simp only [Option.isSome_none] at hlk
    obtain ⟨Y0, hrun0, hJ⟩ := CrJ.fresh H.out HN.out HS.out.len hp HT0.out HBX.out HBB.out
    have HJ := Lib.hid hJ
    have hmm := @run_makeMap Try.prog
    have c7b : (W0.alloc (.map #[] 0)).cell? ⟨p, 7, none⟩ = some (.map (some b)) := by
      obtain ⟨-, -, -, -, -, -, -, c7, -⟩ := (H.out.pre (HT0.out.then (Turns.alloc (F := []) W0 (.map #[] 0)))).head.cells
      exact c7
    obtain ⟨f, hfe⟩ : ∃ f : SM, (fun _ => none) = f := ⟨_, rfl⟩
    obtain ⟨g, hge⟩ : ∃ g : Nat, W0.heap.size = g := ⟨_, rfl⟩
    rw [hfe, hge] at HJ
    rw [hge] at hrun0
    clear hp hJ hfe
    obtain ⟨ap, ao, hget, hap0, hap1, hval⟩ : ∃ (a : Int) (o : Bool), (f name).getD (.agg #[.int .i64 0, .bool false]) = .agg #[.int .i64 a, .bool o] ∧ 0 ≤ a ∧ a ≤ 9223372036854775807 ∧
        (match f name with | .none => (Value.agg #[.int .i64 (sat (a + inc)).1, .bool ((sat (a + inc)).2 || o)]) = sumV ⟨name, inc, false⟩ | .some _ => ∀ x ∈ oldC S n, x.name = name → (Value.agg #[.int .i64 (sat (a + inc)).1, .bool ((sat (a + inc)).2 || o)]) = sumV (addC x inc)) := by
      have hi1 := hi
      cases hf : f name with
      | none =>
        refine ⟨0, false, rfl, by omega, by omega, ?_⟩
        simp only [Int.zero_add]
        rw [sat_in _ (by omega) (by omega)]
        rfl
      | some v =>
        obtain ⟨x, hx, hxn, rfl⟩ := HJ.out.tel.some hf
        obtain ⟨h1, h2⟩ := HOK.out x hx
        refine ⟨x.inc, x.over, rfl, h1, h2, fun y hy hyn => ?_⟩
        have e := HJ.out.tel.rise.only hy hx (hyn.trans hxn.symm)
        subst e
        unfold addC
        by_cases hb : 9223372036854775807 < y.inc + inc
        · rw [sat_most _ hb, if_pos hb]; rfl
        · rw [sat_in _ (by omega) (by omega), if_neg hb]; simp [sumV]
    have HVAL := Lib.hid hval
    have hbx := HJ.out.box
    have b0 : Y0.cell? ⟨w.heap.size, 0, none⟩ = some (.string name) := by simp [World.cell?, hbx]

    have HC := Lib.hid (clone_wi name Y0 HNS.out)
    clear hval hbx
    go_wp2_with fail
    refine HC.out.mono ?_
    rintro e w1 ⟨rfl, ht1⟩
    have HJ1 := Lib.hid (HJ.out.next ht1)
    have hlk := MapS.look HJ1.out.inner HNS.out
    rw [hget] at hlk
    have hbx1 := HJ1.out.box
    have b2 : w1.cell? ⟨w.heap.size, 2, none⟩ = some (.int .i64 inc) := by simp [World.cell?, hbx1]
    have hlt1 : w.heap.size < w1.heap.size := lt_of_block hbx1
    have HAD := Lib.hid (fun W => add_any ap inc W (by omega) hap1 (by omega) hi.2)
    clear ht1 b0 HC hbx1 hget
    go_wp2_with fail
    refine (HAD.out _).mono ?_
    rintro e w2 ⟨rfl, rfl⟩
    have HJ2 := Lib.hid (HJ1.out.next (Turns.alloc w1 (.cells #[.int .i64 ap, .bool ao] 78)))
    obtain ⟨Y, hrun, hm, htu⟩ := MapS.store HJ2.out.inner (by have := HOL.out; unfold maxLen; omega) HNS.out (sat (ap + inc)).1 ((sat (ap + inc)).2 || ao)
    obtain ⟨-, -, -, -, -, y5, -, -, yf⟩ := (HJ2.out.head.turns htu (by simpa using Ne.symm HJ2.out.gp)).cells
    have hfin : CredPost B w p b P S n name inc (.returned (.tuple #[])) (Y.setCell ⟨p, 5, none⟩ (.int .i64 (S.cred + 1))) := by
      obtain ⟨e1, e2⟩ := HJ2.out.tel.cred HNS.out inc HVAL.out
      exact HJ2.out.fin H.out HS.out.srt HNS.out hm htu e1 e2.symm
    have HFIN := Lib.hid hfin
    have hwr : IntKind.i64.wrap (S.cred + 1) = S.cred + 1 := IntWalk.i64_in _ (by omega)
    clear hm htu hfin b2 hlk HAD
    generalize (sat (ap + inc)).1 = s1 at *
    generalize (sat (ap + inc)).2 = s2 at *
    cases s2 with
    | true =>
      simp only [Bool.true_or] at hrun
      go_wp2_with fail
      go_end0
      exact HFIN.out
    | false =>
      simp only [Bool.false_or] at hrun
      go_wp2_with fail
      go_end0
      exact HFIN.out
end Go.Proofs.Ytjkkpdflijjllaa
