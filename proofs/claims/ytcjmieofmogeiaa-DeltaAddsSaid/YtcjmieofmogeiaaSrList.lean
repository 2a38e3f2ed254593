/- The program's list: its series by rising names. -/
import Derived.Test.YtcjmieofmogeiaaSrPutP
import Derived.Test.YtcjmieofmogeiaaIterS
import Derived.Test.YtcjmieofmogeiaaSrPut
import Derived.Laws.MakeOwn
namespace Go.Proofs.Ytcjmieofmogeiaa
open Go.RowKit Go.Maps Go.Sort Go.Shelf

def strK : EK (List UInt8) := ⟨110, 9, 1, 16, .string ⟨#[]⟩, fun x => [encStr x]⟩
theorem strOk : strK.Ok Try.prog := ⟨Try.underlying110, by kernel_rfl, rfl, by decide, by decide, fun _ => rfl, fun x u hu => by simp [strK] at hu; subst hu; rfl⟩
theorem flat_str (l : List (List UInt8)) : strK.flat l = l.map encStr := by
  unfold EK.flat
  induction l with
  | nil => rfl
  | cons x l ih => rw [List.flatMap_cons, ih]; rfl
def cfN (x y : List UInt8) : Int := Lib.compareBytes x y
theorem ltOf_cfN (x y : List UInt8) : ltOf cfN x y = ltN x y := by
  unfold ltOf cfN
  exact compare_neg _ _
theorem swoN : SWO (ltOf cfN) where
  irrefl x := by rw [ltOf_cfN]; exact ltN_irrefl _
  trans x y z h1 h2 := by
    rw [ltOf_cfN] at *; exact ltN_trans h1 h2
  ntrans x y z h1 h2 := by
    rw [ltOf_cfN] at *
    cases h : ltN x z with
    | false => rfl
    | true =>
      cases h3 : ltN y x with
      | true => rw [ltN_trans h3 h] at h2; cases h2
      | false => rw [ltN_total h1 h3] at h; rw [h] at h2; cases h2
set_option maxHeartbeats 400000 in
theorem compare_nm (a b : ByteArray) (w : World) :
    Calls Try.prog 52 #[.string a, .string b] w fun e w' => e = .returned (.int .i64 (Lib.compareBytes a.data.toList b.data.toList)) ∧ w' = w := by
  have HC := Lib.hid (Try.strings_Compare a b w)
  go_enter Try.func52, Try.ntmps52
  go_wp2_with fail
  refine HC.out.mono ?_
  rintro e w1 ⟨rfl, rfl⟩
  go_wp2
  go_ret
  exact ⟨rfl, rfl⟩
theorem cmpLays1 (blk off size : Nat) (w : World) : CmpLays1 Try.prog 52 #[] encStr cfN blk off size w := by
  intro m os dk _ x y
  refine (compare_nm ⟨x.toArray⟩ ⟨y.toArray⟩ (sortWorld encStr w blk off m dk os)).mono ?_
  rintro e w' ⟨rfl, rfl⟩
  exact ⟨by simp [cfN], 0, #[], by simp; rfl⟩
/-- The names of the series. -/
def nmL (L : List One) : List (List UInt8) := L.map fun y => y.name.data.toList
theorem nmL_rise {L : List One} (h : RiseL L) : (nmL L).Pairwise fun a b => ltN a b = true := by
  unfold RiseL at h
  unfold nmL
  rw [List.pairwise_map] at h ⊢
  exact h
theorem sort_nm {ss : List (List UInt8)} {L : List One} (hp : ss.Perm (nmL L)) (h : RiseL L) : (ss.mergeSort fun x y => !(ltOf cfN) y x) = nmL L := by
  have tr : ∀ a b c : List UInt8, (!(ltOf cfN) b a) = true → (!(ltOf cfN) c b) = true → (!(ltOf cfN) c a) = true := fun a b c h1 h2 => by
    simp only [Bool.not_eq_true'] at *
    exact swoN.ntrans c b a h2 h1
  have tot : ∀ a b : List UInt8, ((!(ltOf cfN) b a) || (!(ltOf cfN) a b)) = true := fun a b => by
    rw [ltOf_cfN, ltOf_cfN]
    cases h1 : ltN b a with
    | false => rfl
    | true => rw [ltN_asymm h1]; rfl
  refine List.Perm.eq_of_pairwise (le := fun a b => (!(ltOf cfN) b a) = true) (fun a b _ _ h1 h2 => ?_) (List.pairwise_mergeSort tr tot ss) ((nmL_rise h).imp fun {a b} hab => ?_) ((List.mergeSort_perm ss _).trans hp)
  · rw [ltOf_cfN, Bool.not_eq_true'] at h1 h2
    exact ltN_total h2 h1
  · rw [ltOf_cfN, ltN_asymm hab]; rfl
/-- The keys that a map holds are the series' names. -/
theorem perm_nm {B : Nat} {w : World} {b n : Nat} {P : PM} {L : List One} (h : MapP nameKD lK B w b P n) (ht : Tel P L) : ∃ D : DataW Unit, w.ownsMap Try.prog 9 pread b n D ∧ Maps.size D = n ∧ (nmL L).Perm (strKeys D) := by
  obtain ⟨D, ho, hs, hk⟩ := h.map
  refine ⟨D, ho, hs, ?_⟩
  obtain ⟨es, hD, hpw, _⟩ := ho.entries sm_keyed
  obtain ⟨es', hD', hko⟩ := ho.keysOf
  obtain rfl : es = es' := by rw [hD] at hD'; simpa using hD'
  subst hD
  refine perm_strKeys hpw (fun p hp => by obtain ⟨v, hv⟩ := hko p hp; obtain ⟨x, _, hx, _⟩ := Maps.keyOf_str Try.underlying9 hv; exact ⟨x, hx⟩) ((nmL_rise ht.rise).imp fun {a b} hab e => by rw [e, ltN_irrefl] at hab; cases hab) (fun x => ?_)
  have hh := hk.has ⟨x.toArray⟩
  have hlit : (nameKD.lit ⟨x.toArray⟩) = .string x := by simp [nameKD, strKD]
  rw [hlit] at hh
  rw [hh]
  unfold nmL
  simp only [List.mem_map, Option.isSome_map]
  constructor
  · rintro ⟨y, hy, rfl⟩
    obtain ⟨g, hg⟩ := ht.mem y hy
    have e : (⟨(y.name.data.toList).toArray⟩ : ByteArray) = y.name := by simp
    rw [e, hg]
    rfl
  · intro hi
    obtain ⟨q, hq⟩ := Option.isSome_iff_exists.1 hi
    obtain ⟨y, hy, e1, _⟩ := ht.all _ q hq
    exact ⟨y, hy, by rw [e1]⟩
theorem take_putN {cur : Array Value} {F : List (List UInt8)} (h : F.length ≤ cur.size) : (putCells encStr 0 F.toArray cur).toList.take F.length = F.map encStr := by
  apply List.ext_getElem?
  intro j
  by_cases hj : j < F.length
  · rw [List.getElem?_take_of_lt hj, Array.getElem?_toList]
    simp [putCells, hj, show j < cur.size by omega]
  · rw [List.getElem?_take_eq_none (by omega), List.getElem?_eq_none (by simp; omega)]
theorem str_holds {B : Nat} {w : World} {g cap : Nat} {l : List (List UInt8)} (h : strK.Own B w (.slice (some ⟨g, 0, none⟩) l.length cap) l) : Holds encStr w g 0 l.toArray := by
  have hc := World.ownsRow.cells h (g := g) rfl
  rcases h.2 with ⟨h1, _⟩ | ⟨g', cap', cur, h1, hb, hg, _⟩
  · cases h1
  · injection h1 with e1 _ e3
    injection e1 with e1
    injection e1 with e1
    subst e1
    intro j hj
    have hj' : j < l.length := by simpa using hj
    refine ⟨?_, by simp [World.frozen?, hg]⟩
    have hx : l[j]? = some l[j] := List.getElem?_eq_getElem hj'
    have h2 := hc j (encStr l[j]) (by rw [flat_str, List.getElem?_map, hx]; rfl)
    rw [add_plain'] at h2
    rw [h2]
    simp [getElem!_pos, hj']
theorem str_sorted {B : Nat} {w : World} {g cap : Nat} {l l' : List (List UInt8)} (h : strK.Own B w (.slice (some ⟨g, 0, none⟩) l.length cap) l) (hl : l'.length = l.length) (q : Nat) (os : Array Obj) :
    strK.Own B (sortWorld encStr w g 0 q l'.toArray os) (.slice (some ⟨g, 0, none⟩) l.length cap) l' ∧ Below B w (sortWorld encStr w g 0 q l'.toArray os) := by
  rcases h.2 with ⟨h1, _⟩ | ⟨g', cap', cur, h1, hb, hg, hn, hm, hs, ht⟩
  · cases h1
  · injection h1 with e1 _ e3
    injection e1 with e1
    injection e1 with e1
    subst e1 e3
    have hgl : g < w.heap.size := (Array.getElem?_eq_some_iff.1 hg).1
    have hheap : (sortWorld encStr w g 0 q l'.toArray os).heap[g]? = some (.cells (putCells encStr 0 l'.toArray cur) 9 (0, 0)) := by
      unfold sortWorld
      rw [heap_grow_old _ _ (by simpa [putRow, mapBlock, Sort.ahead] using hgl)]
      simp [putRow, mapBlock, Sort.ahead, Array.getElem?_modify, hg, onCells]
      rfl
    refine ⟨⟨by rw [flat_str, List.length_map]; show l'.length = l'.length * 1; omega, .inr ⟨g, cap, _, by rw [hl], hb, hheap, by rw [hl]; exact hn, hm, by simpa [putCells] using hs, ?_⟩⟩, ?_⟩
    · have hsz : l'.length ≤ cur.size := by
        rw [hs, hl]
        show l.length ≤ cap * 1
        omega
      have := take_putN (cur := cur) (F := l') hsz
      rw [flat_str]
      show List.take (l'.length * 1) _ = _
      rw [Nat.mul_one]
      exact this
    · refine ⟨rfl, rfl, rfl, by simp [sortWorld, putRow, mapBlock, Sort.ahead], fun k hk => ?_⟩
      unfold sortWorld
      rcases Nat.lt_or_ge k w.heap.size with h | h
      · rw [heap_grow_old _ _ (by simpa [putRow, mapBlock, Sort.ahead] using h)]
        simp [putRow, mapBlock, Sort.ahead, Array.getElem?_modify, show g ≠ k by omega]
      · omega
end Go.Proofs.Ytcjmieofmogeiaa

namespace Go.Proofs.Ytcjmieofmogeiaa
open Go.RowKit Go.Maps Go.Sort Go.Shelf
attribute [local go_sem] Oper.semAt_some
variable {hd : Hd}

def lstK : EK Lst := ⟨104, 88, 6, 56, .agg #[.string ⟨#[]⟩, .int .i64 0, .int .i64 0, .bool false, .bool false, .int .i64 0], fun l => [.string l.s.name, .int .i64 l.s.val, .int .i64 l.s.tm, .bool l.s.cnt, .bool l.live, .int .i64 l.own]⟩
theorem lstOk : lstK.Ok Try.prog := ⟨Try.underlying104, by kernel_rfl, rfl, by decide, by decide, fun _ => rfl, fun x u hu => by simp [lstK] at hu; rcases hu with rfl | rfl | rfl | rfl | rfl | rfl <;> rfl⟩
theorem keys_nm (mb : Option Nat) (W : World) : Calls Try.prog 51 #[.map mb] W fun e w' => e = .returned (.func (.func 55) #[] #[.pointer (some ⟨W.heap.size, 0, none⟩)]) ∧ w' = W.alloc (.cells #[.map mb] 64) :=
  (callsIn_wide (n := 5)).1 (AnyZ.keys_in Try.keysT Fence.wide 5 trivial rfl mb W)
set_option maxRecDepth 100000 in
set_option maxHeartbeats 1000000 in
theorem sorted_nm {B : Nat} {w : World} {p b most : Nat} {P : PM} {L : List One} (h : Sm B w p b most P L.length) (ht : Tel P L) (hl : L.length ≤ 90000) :
    Calls Try.prog 50 #[.func (.func 55) #[] #[.pointer (some ⟨w.heap.size, 0, none⟩)], .func (.func 52) #[] #[]] (w.alloc (.cells #[.map (some b)] 64)) fun e w' =>
      (∃ v, e = .returned v ∧ strK.Own w.heap.size w' v (nmL L)) ∧ Turns [] w w' := by
  obtain ⟨D, ho, hn, hp⟩ := perm_nm h.map ht
  have hbl := ho.lt
  have hseq : SeqGives Fence.wide 2 Try.prog 55 #[.pointer (some ⟨w.heap.size, 0, none⟩)] encStr (fun ss => ss.Perm (strKeys D)) (Maps.size D) (w.alloc (.cells #[.map (some b)] 64)) :=
    AnyZ.keys_gives (ρ := Try.keysT_ren) { Try.keysT with } Fence.wide _ trivial rfl (by omega) w.heap.size b _ D _ (by simp) (by simp) (by
      obtain ⟨es, clock, hb, Ft, hs, hD⟩ := ho
      exact ⟨es, clock, (Below.heap_alloc _ _ b hbl).trans hb, Ft, hs, hD⟩)
  have cS := AnyZ.collect_in Try.collectT Fence.wide 4 trivial trivial rfl (by omega) 55 #[.pointer (some ⟨w.heap.size, 0, none⟩)] trivial (enters_of Try.func55 (by kernel_rfl) rfl) _ _ (show Maps.size D ≤ maxLen by unfold maxLen; omega) (by omega) _ hseq
  change CallsIn _ _ Try.prog 53 _ _ _ at cS
  have HC := Lib.hid ((callsIn_wide (n := 4)).1 cS)
  have HP := Lib.hid hp
  have HR := Lib.hid ht.rise
  have HLL := Lib.hid hl
  have HT : Hid (Turns [] w (w.alloc (.cells #[.map (some b)] 64))) := Lib.hid (Turns.alloc _ _)
  have HSZ : Hid ((w.alloc (.cells #[.map (some b)] 64)).heap.size = w.heap.size + 1) := Lib.hid (by simp)
  clear h ht hl ho hn hp hbl hseq cS
  generalize w.alloc (.cells #[.map (some b)] 64) = W at HC HT HSZ ⊢
  go_enter Try.func50, Try.ntmps50
  go_wp2_with fail
  refine HC.out.mono ?_
  rintro e w1 ⟨v, ss, rfl, hperm, hrow, hnil, hb⟩
  have hT1 : Turns [] w w1 := HT.out.then (Turns.of_below hb (Nat.le_refl _))
  have hperm2 : ss.Perm (nmL L) := hperm.trans HP.out.symm
  have hlen : ss.length = (nmL L).length := hperm2.length_eq
  have hnl : (nmL L).length = L.length := by simp [nmL]
  have hown : strK.Own w.heap.size w1 v ss := by
    have h0 := ownsRow_base_a hrow (show w.heap.size ≤ W.heap.size by have := HSZ.out; omega)
    unfold EK.Own
    rw [flat_str]
    exact h0
  rcases hown.form with ⟨rfl, rfl⟩ | ⟨g, cap, rfl, hB, hg, hc1, hc2⟩
  · have HN := Lib.hid (AnyF.slices_SortFunc_none Try.sortF0T none 0 (.func (.func 52) #[] #[]) w1)
    change Hid (Calls Try.prog 54 _ _ _) at HN
    have HE : Hid (nmL L = []) := Lib.hid (by rw [List.nil_perm] at hperm2; exact hperm2)
    have HT1 := Lib.hid hT1
    clear hperm hrow hnil hb hT1 hperm2 hlen hnl hown
    go_wp2_with fail
    refine HN.out.mono ?_
    rintro e w2 ⟨rfl, rfl⟩
    go_wp2
    go_ret
    rw [HE.out]
    exact ⟨⟨_, rfl, EK.Own.nil _ _ (Nat.zero_le _)⟩, HT1.out⟩
  · have eg : ∀ args w, (callFunc 52 args).run Try.prog w = .ok (.enter 52 args) w := enters_of Try.func52 (by kernel_rfl) rfl
    have hcon := Any.slices_SortFunc_total Try.sortFT encStr (fun _ => rfl) cfN swoN 52 #[] g 0 cap ss.toArray w1 eg (cmpLays1 g 0 _ w1) (str_holds hown) hg (by have := HLL.out; simp; omega) (fun x y h1 h2 => by rw [ltOf_cfN] at h1 h2; exact ltN_total h1 h2)
    change Calls Try.prog 54 _ _ _ at hcon
    rw [List.toList_toArray, sort_nm hperm2 HR.out] at hcon
    have HCON := Lib.hid hcon
    have HS : Hid (∀ q os, strK.Own w.heap.size (sortWorld encStr w1 g 0 q (nmL L).toArray os) (.slice (some ⟨g, 0, none⟩) ss.length cap) (nmL L) ∧ Turns [] w (sortWorld encStr w1 g 0 q (nmL L).toArray os)) := Lib.hid fun q os => by
      obtain ⟨a, c⟩ := str_sorted hown hlen.symm q os
      exact ⟨a, ⟨c.os.trans hT1.os, c.tape.trans hT1.tape, c.output.trans hT1.output, Nat.le_trans hT1.size c.size, fun i hi _ => (c.block i hi).trans (hT1.block i hi (by simp))⟩⟩
    have HLN := Lib.hid hlen
    clear hperm hrow hnil hb hT1 hperm2 hlen hnl hown eg hcon
    have e0 : (ss.toArray.size : Nat) = ss.length := by simp
    rw [e0] at HCON
    clear e0
    go_wp2_with fail
    refine HCON.out.mono ?_
    rintro e w2 ⟨rfl, q, os, rfl⟩
    obtain ⟨a, c⟩ := HS.out q os
    have HA := Lib.hid a
    have HC2 := Lib.hid c
    generalize sortWorld encStr w1 g 0 q (nmL L).toArray os = w2 at HA HC2 ⊢
    clear a c
    go_wp2
    go_ret
    exact ⟨⟨_, rfl, HA.out⟩, HC2.out⟩
theorem strK_cells {B : Nat} {w : World} {v : Value} {l : List (List UInt8)} (h : strK.Own B w v l) : ∃ A cap, v = .slice A l.length cap ∧ ∀ (k : Nat) (x : List UInt8), l[k]? = some x → ∃ kb, A = some ⟨kb, 0, none⟩ ∧ B ≤ kb ∧ kb < w.heap.size ∧ w.cell? ⟨kb, k, none⟩ = some (encStr x) := by
  rcases h.form with ⟨rfl, rfl⟩ | ⟨g, cap, rfl, hB, hg, _, _⟩
  · exact ⟨none, 0, rfl, fun k x hk => by simp at hk⟩
  · refine ⟨_, cap, rfl, fun k x hk => ⟨g, rfl, hB, hg, ?_⟩⟩
    have := World.ownsRow.cells h (g := g) rfl k (encStr x) (by rw [flat_str, List.getElem?_map, hk]; rfl)
    rwa [add_plain', Nat.zero_add] at this
abbrev lastsL (L : List One) : List Lst := L.map fun y => y.l
set_option maxRecDepth 100000 in
set_option maxHeartbeats 2000000 in
theorem listSt_any {B : Nat} {w : World} {p b most : Nat} {F : List Nat} {P : PM} {L : List One} (h : Sr B w p b F most P L) (hL : L.length ≤ 90000) :
    Calls Try.prog 47 #[ptr p] w fun e w' => (∃ v, e = .returned v ∧ lstK.Own w.heap.size w' v (lastsL L)) ∧ Turns [] w w' := by
  have c2 := h.sm.c1
  have hlen0 : ∀ ty, (Builtin.len_ #[64] ty #[.map (some b)]).run Try.prog w = .ok (.int .i64 (L.length : Int)) w := fun ty => h.sm.len ty
  obtain ⟨i0, hi, hz0, hz1, hz2⟩ := info_parts lstOk.inf
  obtain ⟨w1, hmk, hown1, hg1⟩ := run_make_own (P := Try.prog) (w := w) w.heap.size 104 88 i0 _ 6 Try.underlying104 hi hz0 hz1 .i64 .i64 L.length (by rw [hz2]; show 56 * L.length ≤ _; omega) (by unfold maxLen; omega) (Nat.le_refl _)
  have t1 : Turns [] w w1 := Turns.of_grown hg1
  have h1 := h.sm.pre t1
  have d2 := h1.c1
  have HK := Lib.hid (keys_nm (some b) w1)
  have HS := Lib.hid (sorted_nm h1 h.tel hL)
  have H := Lib.hid h
  have HLL := Lib.hid hL
  have HT1 := Lib.hid t1
  have HO1 : Hid (lstK.Own w.heap.size w1 (.slice (some ⟨w.heap.size, 0, none⟩) 0 L.length) []) := Lib.hid hown1
  clear h h1 t1 hown1 hg1 hi hz0 hz1 hz2
  go_enter Try.func47, Try.ntmps47
  go_wp2_with fail
  refine HK.out.mono ?_
  rintro e w2 ⟨rfl, rfl⟩
  go_wp2_with fail
  refine HS.out.mono ?_
  rintro e w2 ⟨⟨kv, rfl, hkv⟩, hb2⟩
  obtain ⟨KA, kc, rfl, hkeys⟩ := strK_cells hkv
  have HKY := Lib.hid hkeys
  have HB2 := Lib.hid hb2
  have hln : (nmL L).length = L.length := by simp [nmL]
  rw [hln]
  clear hkv hkeys hb2 hln d2 c2 hlen0 hmk hL
  go_wp2_with fail
  have HW1 := Lib.hid (show w.heap.size < w1.heap.size from (HO1.out.foot w.heap.size (by simp [ownB, Value.ownBlock])).2)
  have HX : Hid (∀ wr, Turns [w.heap.size] w2 wr → Turns [] w wr ∧ w.heap.size ≤ wr.heap.size ∧ w2.heap.size ≤ wr.heap.size) := Lib.hid (fun wr ht => by
    have hb1 : Turns [] w w2 := HT1.out.then HB2.out
    have hb : Turns [] w wr := hb1.trans ht fun i hi => .inr (by rw [List.mem_singleton] at hi; omega)
    exact ⟨hb, hb.size, ht.size⟩)
  have HC : Hid (∀ wr (p : Addr), Turns [w.heap.size] w2 wr → p.block < w2.heap.size → p.block ≠ w.heap.size → wr.cell? p = w2.cell? p) := Lib.hid (fun wr p ht h1 h2 => World.cell?_of_block (ht.block _ h1 (by simpa using h2)))
  go_loopw [3, 23] (fun s i wr => ∃ (k : Nat) (sv : Value), sv = s ∧ k ≤ L.length ∧ i = .int .i64 k ∧ Hid (lstK.Own w.heap.size wr sv (lastsL (L.take k))) ∧ Hid (Turns [w.heap.size] w2 wr) ∧ Hid (∀ j ∈ ownB sv, j = w.heap.size ∨ w2.heap.size ≤ j)) (fun _ i _ => L.length - (intOf i).toNat)
  case atStart => exact ⟨0, _, rfl, Nat.zero_le _, rfl, Lib.hid (HO1.out.turns HB2.out (by simp)), Lib.hid (Turns.refl _ _), Lib.hid (fun j hj => by simp [ownB, Value.ownBlock] at hj; exact .inl hj)⟩
  case round =>
    obtain ⟨k, sv, rfl, hk, rfl, HO, HT, HF⟩ := hrel
    have hL9 : (L.length : Int) ≤ 90000 := by have := HLL.out; omega
    by_cases hlt : k < L.length
    · obtain ⟨y, hy⟩ : ∃ y, L[k]? = some y := ⟨_, List.getElem?_eq_getElem hlt⟩
      have hym := List.mem_of_getElem? hy
      obtain ⟨kb, rfl, hk1, hk2, hkc⟩ := HKY.out k y.name.data.toList (by simp [nmL, hy])
      obtain ⟨g, hpg⟩ := H.out.tel.mem y hym
      have hsm := H.out.sm.pre (HX.out _ HT.out).1
      have hc1 : wr.cell? ⟨kb, k, none⟩ = some (.string y.name) := (HC.out wr ⟨kb, k, none⟩ HT.out hk2 (by have := HW1.out; simp; omega)).trans hkc
      have hlt' : (k : Int) < (L.length : Int) := by omega
      have hk0 : (0 : Int) ≤ (k : Int) := by omega
      have HG := Lib.hid (getM_any hsm (hsm.nm _ _ hpg).2)
      rw [hpg] at HG
      unfold getM Lst.val' at HG
      simp only at HG
      have HXK := Lib.hid hy
      clear hsm hym hy hk1 hk2 hkc hpg
      go_wp2_with fail
      refine HG.out.mono ?_
      rintro e w3 ⟨rfl, hb3⟩
      have HB3 := Lib.hid hb3
      clear hb3
      go_upto_region 8 with fail
      obtain ⟨w4, hw4⟩ : ∃ w4, w3.alloc (.cells #[.string y.l.s.name, .int .i64 y.l.s.val, .int .i64 y.l.s.tm, .bool y.l.s.cnt, .bool y.l.live, .int .i64 y.l.own] 88) = w4 := ⟨_, rfl⟩
      have hb4 : w4.heap[w3.heap.size]? = some (.cells #[.string y.l.s.name, .int .i64 y.l.s.val, .int .i64 y.l.s.tm, .bool y.l.s.cnt, .bool y.l.live, .int .i64 y.l.own] 88 (0, 0)) := by rw [← hw4]; exact heap_alloc_new w3 _
      have HT4 : Hid (Turns [] wr w4) := Lib.hid (HB3.out.then (by rw [← hw4]; exact Turns.alloc _ _))
      obtain ⟨e0, e1, e2, e3, e4, e5, -⟩ := last_cells hb4
      rw [hw4]
      clear hw4 hb4 hc1
      have HO3 := Lib.hid ((HO.out.turns HT4.out (by simp)).alloc (.cells #[.string y.l.s.name, .int .i64 y.l.s.val, .int .i64 y.l.s.tm, .bool y.l.s.cnt, .bool y.l.live, .int .i64 y.l.own] 88))
      have HR3 := Lib.hid (EK.Reads.lone lstOk (W := w4) (p := w4.heap.size) y.l #[.string y.l.s.name, .int .i64 y.l.s.val, .int .i64 y.l.s.tm, .bool y.l.s.cnt, .bool y.l.live, .int .i64 y.l.own] 88 rfl rfl)
      have HN3 := Lib.hid (show (lastsL (L.take k)).length + 1 ≤ 100000 by simp [lastsL]; omega)
      have HZ3 := Lib.hid (show w.heap.size ≤ (w4.alloc (.cells #[.string y.l.s.name, .int .i64 y.l.s.val, .int .i64 y.l.s.tm, .bool y.l.s.cnt, .bool y.l.live, .int .i64 y.l.own] 88)).heap.size by
        have h1 := (HX.out _ HT.out).2.1
        have h2 := HT4.out.size
        simp
        omega)
      go_wp2_with (at_builtin; refine EK.wpList_append (K := lstK) lstOk rfl (.tmp 33) (.tmp 35) rfl w.heap.size sv _ rfl HO3.out _ _ [y.l] 1 1 rfl rfl HR3.out (by simp) HN3.out HZ3.out ?_; intro v4 w5 hown4 ht4 hf4; have HO4 := Lib.hid hown4; have HTT4 := Lib.hid ht4; have HF4 := Lib.hid hf4; clear hown4 ht4 hf4)
      go_roundw
      case rel =>
        refine ⟨k + 1, v4, rfl, by omega, by go_num, Lib.hid ?_, Lib.hid ?_, Lib.hid ?_⟩
        · have e : lastsL (L.take (k + 1)) = lastsL (L.take k) ++ [y.l] := by
            rw [List.take_add_one, HXK.out]
            simp [lastsL]
          rw [e]
          exact HO4.out
        · have t3 : Turns [w.heap.size] w2 (w4.alloc (.cells #[.string y.l.s.name, .int .i64 y.l.s.val, .int .i64 y.l.s.tm, .bool y.l.s.cnt, .bool y.l.live, .int .i64 y.l.own] 88)) := (HT.out.trans HT4.out (by simp)).trans (Turns.alloc (F := []) _ _) (by simp)
          exact t3.trans HTT4.out (fun i hi => by rcases HF.out i hi with h1 | h1; exact .inl (by simp [h1]); exact .inr h1)
        · intro j hj
          rcases HF4.out j hj with h1 | h1
          · exact HF.out j h1
          · have := (HX.out _ HT.out).2.2
            have := HT4.out.size
            right
            rw [h1]
            simp
            omega
      case measure => simp [intOf] <;> omega
    · obtain rfl : k = L.length := by omega
      have hge : decide ((L.length : Int) < (L.length : Int)) = false := by simp
      have HXX := Lib.hid (HX.out _ HT.out).1
      rw [List.take_length] at HO
      go_wp2_with fail
      go_ret
      exact ⟨⟨_, rfl, HO.out⟩, HXX.out⟩
end Go.Proofs.Ytcjmieofmogeiaa
