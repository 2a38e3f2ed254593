/- Names in order: slices.SortedFunc over a map's keys. -/
import Derived.Test.YtadndefbdofodaaSrPutP
import Derived.Test.YtadndefbdofodaaIterS
namespace Go.Proofs.Ytadndefbdofodaa
open Go.RowKit Go.Maps Go.Sort Go.Shelf

def strK : EK (List UInt8) := ⟨79, 9, 1, 16, .string ⟨#[]⟩, fun x => [encStr x]⟩
theorem strOk : strK.Ok Try.prog := ⟨Try.underlying79, by kernel_rfl, rfl, by decide, by decide, fun _ => rfl, fun x u hu => by simp [strK] at hu; subst hu; rfl⟩
theorem flat_str (l : List (List UInt8)) : strK.flat l = l.map encStr := by
  unfold EK.flat
  induction l with
  | nil => rfl
  | cons x l ih => rw [List.flatMap_cons, ih]; rfl
def cfN (x y : List UInt8) : Int := Lib.compareBytes x y
theorem ltOf_cfN (x y : List UInt8) : ltOf cfN x y = ltN x y := by
  unfold ltOf cfN
  exact compare_neg _ _
theorem swoN : SWO (ltOf cfN) where
  irrefl x := by rw [ltOf_cfN]; exact ltN_irrefl _
  trans x y z h1 h2 := by
    rw [ltOf_cfN] at *; exact ltN_trans h1 h2
  ntrans x y z h1 h2 := by
    rw [ltOf_cfN] at *
    cases h : ltN x z with
    | false => rfl
    | true =>
      cases h3 : ltN y x with
      | true => rw [ltN_trans h3 h] at h2; cases h2
      | false => rw [ltN_total h1 h3] at h; rw [h] at h2; cases h2
set_option maxHeartbeats 400000 in
theorem compare_nm (a b : ByteArray) (w : World) :
    Calls Try.prog 36 #[.string a, .string b] w fun e w' => e = .returned (.int .i64 (Lib.compareBytes a.data.toList b.data.toList)) ∧ w' = w := by
  have HC := Lib.hid (Try.strings_Compare a b w)
  go_enter Try.func36, Try.ntmps36
  go_wp2_with fail
  refine HC.out.mono ?_
  rintro e w1 ⟨rfl, rfl⟩
  go_wp2
  go_ret
  exact ⟨rfl, rfl⟩
theorem cmpLays1 (blk off size : Nat) (w : World) : CmpLays1 Try.prog 36 #[] encStr cfN blk off size w := by
  intro m os dk _ x y
  refine (compare_nm ⟨x.toArray⟩ ⟨y.toArray⟩ (sortWorld encStr w blk off m dk os)).mono ?_
  rintro e w' ⟨rfl, rfl⟩
  exact ⟨by simp [cfN], 0, #[], by simp; rfl⟩
/-- The names of the series. -/
def nmL (L : List One) : List (List UInt8) := L.map fun y => y.name.data.toList
theorem nmL_rise {L : List One} (h : RiseL L) : (nmL L).Pairwise fun a b => ltN a b = true := by
  unfold RiseL at h
  unfold nmL
  rw [List.pairwise_map] at h ⊢
  exact h
theorem sort_nm {ss : List (List UInt8)} {L : List One} (hp : ss.Perm (nmL L)) (h : RiseL L) : (ss.mergeSort fun x y => !(ltOf cfN) y x) = nmL L := by
  have tr : ∀ a b c : List UInt8, (!(ltOf cfN) b a) = true → (!(ltOf cfN) c b) = true → (!(ltOf cfN) c a) = true := fun a b c h1 h2 => by
    simp only [Bool.not_eq_true'] at *
    exact swoN.ntrans c b a h2 h1
  have tot : ∀ a b : List UInt8, ((!(ltOf cfN) b a) || (!(ltOf cfN) a b)) = true := fun a b => by
    rw [ltOf_cfN, ltOf_cfN]
    cases h1 : ltN b a with
    | false => rfl
    | true => rw [ltN_asymm h1]; rfl
  refine List.Perm.eq_of_pairwise (le := fun a b => (!(ltOf cfN) b a) = true) (fun a b _ _ h1 h2 => ?_) (List.pairwise_mergeSort tr tot ss) ((nmL_rise h).imp fun {a b} hab => ?_) ((List.mergeSort_perm ss _).trans hp)
  · rw [ltOf_cfN, Bool.not_eq_true'] at h1 h2
    exact ltN_total h2 h1
  · rw [ltOf_cfN, ltN_asymm hab]; rfl
/-- The keys that a map holds are the series' names. -/
theorem perm_nm {B : Nat} {w : World} {b n : Nat} {P : PM} {L : List One} (h : MapP nameKD lK B w b P n) (ht : Tel P L) : ∃ D : DataW Unit, w.ownsMap Try.prog 9 pread b n D ∧ Maps.size D = n ∧ (nmL L).Perm (strKeys D) := by
  obtain ⟨D, ho, hs, hk⟩ := h.map
  refine ⟨D, ho, hs, ?_⟩
  obtain ⟨es, hD, hpw, _⟩ := ho.entries sm_keyed
  obtain ⟨es', hD', hko⟩ := ho.keysOf
  obtain rfl : es = es' := by rw [hD] at hD'; simpa using hD'
  subst hD
  refine perm_strKeys hpw (fun p hp => by obtain ⟨v, hv⟩ := hko p hp; obtain ⟨x, _, hx, _⟩ := Maps.keyOf_str Try.underlying9 hv; exact ⟨x, hx⟩) ((nmL_rise ht.rise).imp fun {a b} hab e => by rw [e, ltN_irrefl] at hab; cases hab) (fun x => ?_)
  have hh := hk.has ⟨x.toArray⟩
  have hlit : (nameKD.lit ⟨x.toArray⟩) = .string x := by simp [nameKD, strKD]
  rw [hlit] at hh
  rw [hh]
  unfold nmL
  simp only [List.mem_map, Option.isSome_map]
  constructor
  · rintro ⟨y, hy, rfl⟩
    obtain ⟨g, hg⟩ := ht.mem y hy
    have e : (⟨(y.name.data.toList).toArray⟩ : ByteArray) = y.name := by simp
    rw [e, hg]
    rfl
  · intro hi
    obtain ⟨q, hq⟩ := Option.isSome_iff_exists.1 hi
    obtain ⟨y, hy, e1, _⟩ := ht.all _ q hq
    exact ⟨y, hy, by rw [e1]⟩
theorem take_putN {cur : Array Value} {F : List (List UInt8)} (h : F.length ≤ cur.size) : (putCells encStr 0 F.toArray cur).toList.take F.length = F.map encStr := by
  apply List.ext_getElem?
  intro j
  by_cases hj : j < F.length
  · rw [List.getElem?_take_of_lt hj, Array.getElem?_toList]
    simp [putCells, hj, show j < cur.size by omega]
  · rw [List.getElem?_take_eq_none (by omega), List.getElem?_eq_none (by simp; omega)]
theorem str_holds {B : Nat} {w : World} {g cap : Nat} {l : List (List UInt8)} (h : strK.Own B w (.slice (some ⟨g, 0, none⟩) l.length cap) l) : Holds encStr w g 0 l.toArray := by
  have hc := World.ownsRow.cells h (g := g) rfl
  rcases h.2 with ⟨h1, _⟩ | ⟨g', cap', cur, h1, hb, hg, _⟩
  · cases h1
  · injection h1 with e1 _ e3
    injection e1 with e1
    injection e1 with e1
    subst e1
    intro j hj
    have hj' : j < l.length := by simpa using hj
    refine ⟨?_, by simp [World.frozen?, hg]⟩
    have hx : l[j]? = some l[j] := List.getElem?_eq_getElem hj'
    have h2 := hc j (encStr l[j]) (by rw [flat_str, List.getElem?_map, hx]; rfl)
    rw [add_plain'] at h2
    rw [h2]
    simp [getElem!_pos, hj']
theorem str_sorted {B : Nat} {w : World} {g cap : Nat} {l l' : List (List UInt8)} (h : strK.Own B w (.slice (some ⟨g, 0, none⟩) l.length cap) l) (hl : l'.length = l.length) (q : Nat) (os : Array Obj) :
    strK.Own B (sortWorld encStr w g 0 q l'.toArray os) (.slice (some ⟨g, 0, none⟩) l.length cap) l' ∧ Below B w (sortWorld encStr w g 0 q l'.toArray os) := by
  rcases h.2 with ⟨h1, _⟩ | ⟨g', cap', cur, h1, hb, hg, hn, hm, hs, ht⟩
  · cases h1
  · injection h1 with e1 _ e3
    injection e1 with e1
    injection e1 with e1
    subst e1 e3
    have hgl : g < w.heap.size := (Array.getElem?_eq_some_iff.1 hg).1
    have hheap : (sortWorld encStr w g 0 q l'.toArray os).heap[g]? = some (.cells (putCells encStr 0 l'.toArray cur) 9 (0, 0)) := by
      unfold sortWorld
      rw [heap_grow_old _ _ (by simpa [putRow, mapBlock, Sort.ahead] using hgl)]
      simp [putRow, mapBlock, Sort.ahead, Array.getElem?_modify, hg, onCells]
      rfl
    refine ⟨⟨by rw [flat_str, List.length_map]; show l'.length = l'.length * 1; omega, .inr ⟨g, cap, _, by rw [hl], hb, hheap, by rw [hl]; exact hn, hm, by simpa [putCells] using hs, ?_⟩⟩, ?_⟩
    · have hsz : l'.length ≤ cur.size := by
        rw [hs, hl]
        show l.length ≤ cap * 1
        omega
      have := take_putN (cur := cur) (F := l') hsz
      rw [flat_str]
      show List.take (l'.length * 1) _ = _
      rw [Nat.mul_one]
      exact this
    · refine ⟨rfl, rfl, rfl, by simp [sortWorld, putRow, mapBlock, Sort.ahead], fun k hk => ?_⟩
      unfold sortWorld
      rcases Nat.lt_or_ge k w.heap.size with h | h
      · rw [heap_grow_old _ _ (by simpa [putRow, mapBlock, Sort.ahead] using h)]
        simp [putRow, mapBlock, Sort.ahead, Array.getElem?_modify, show g ≠ k by omega]
      · omega
end Go.Proofs.Ytadndefbdofodaa
