/- How far Copy has come: the map of maps, window by window, credit by credit. -/
import Derived.Test.YtjkkpdflijjllaaWiOps
import Derived.Test.YtjkkpdflijjllaaWiCred
import Derived.Test.YtjkkpdflijjllaaVisit
namespace Go.Proofs.Ytjkkpdflijjllaa
open Go.RowKit Go.Maps Go.Sort Go.Shelf

def NewPost (len lat most : Int) (w : World) (e : Ending) (w' : World) : Prop :=
  (mayW len lat most = 0 ∧ ∃ p b, e = .returned (.tuple #[ptrV p, .int .i64 0]) ∧ WiA w.heap.size w' p b (fun _ => none) (newW len lat most) ∧ Turns [] w w') ∨
  (mayW len lat most = 2 ∧ e = .returned (.tuple #[.pointer none, .int .i64 2]) ∧ Turns [] w w')
theorem new_made (len lat most : Int) (w : World) (hl : 1 ≤ len) : WiA w.heap.size ((w.alloc (.map #[] 0)).alloc (.cells #[.int .i64 len, .int .i64 lat, .int .i64 most, .int .i64 (-1), .int .i64 (-1), .int .i64 0, .int .i64 0, .map (some w.heap.size)] 66)) (w.heap.size + 1) w.heap.size (fun _ => none) (newW len lat most) := by
  have h0 := MapO.made numKD obW w
  have ht : Turns [] (w.alloc (.map #[] 0)) ((w.alloc (.map #[] 0)).alloc (.cells #[.int .i64 len, .int .i64 lat, .int .i64 most, .int .i64 (-1), .int .i64 (-1), .int .i64 0, .int .i64 0, .map (some w.heap.size)] 66)) := Turns.alloc _ _
  have hn := heap_alloc_new (w.alloc (.map #[] 0)) (.cells #[.int .i64 len, .int .i64 lat, .int .i64 most, .int .i64 (-1), .int .i64 (-1), .int .i64 0, .int .i64 0, .map (some w.heap.size)] 66)
  rw [World.size_alloc] at hn
  exact ⟨hn, h0.pre ht, ⟨(fun x hx => by cases hx), (fun n q hq => by cases hq)⟩, by omega, by omega, (fun n q hq => by cases hq), hl⟩
set_option maxRecDepth 100000 in
set_option maxHeartbeats 4000000 in
theorem new_wi_any (len lat most : Int) (w : World) : Calls Try.prog 9 #[.int .i64 len, .int .i64 lat, .int .i64 most] w (NewPost len lat most w) := by
  have HT := Lib.hid (Turns.refl [] w)
  have HBAD : Hid (mayW len lat most = 2 → NewPost len lat most w (.returned (.tuple #[.pointer none, .int .i64 2])) w) := Lib.hid fun h => .inr ⟨h, rfl, HT.out⟩
  have hmm := @run_makeMap Try.prog
  by_cases h1 : len < 1
  · have d0 : decide (len < 1) = true := by simpa using h1
    have HM : Hid (mayW len lat most = 2) := Lib.hid (by unfold mayW; rw [if_pos (by omega)])
    clear h1
    go_enter Try.func9, Try.ntmps9
    go_wp2
    go_ret2
    exact HBAD.out HM.out
  have d0 : decide (len < 1) = false := by simpa using h1
  by_cases h2 : 1073741824 < len
  · have d1 : decide (1073741824 < len) = true := by simpa using h2
    have HM : Hid (mayW len lat most = 2) := Lib.hid (by unfold mayW; rw [if_pos (by omega)])
    clear h1 h2
    go_enter Try.func9, Try.ntmps9
    go_wp2
    go_ret2
    exact HBAD.out HM.out
  have d1 : decide (1073741824 < len) = false := by simpa using h2
  by_cases h3 : lat < 0
  · have d2 : decide (lat < 0) = true := by simpa using h3
    have HM : Hid (mayW len lat most = 2) := Lib.hid (by unfold mayW; rw [if_pos (by omega)])
    clear h1 h2 h3
    go_enter Try.func9, Try.ntmps9
    go_wp2
    go_ret2
    exact HBAD.out HM.out
  have d2 : decide (lat < 0) = false := by simpa using h3
  by_cases h4 : 1073741824 < lat
  · have d3 : decide (1073741824 < lat) = true := by simpa using h4
    have HM : Hid (mayW len lat most = 2) := Lib.hid (by unfold mayW; rw [if_pos (by omega)])
    clear h1 h2 h3 h4
    go_enter Try.func9, Try.ntmps9
    go_wp2
    go_ret2
    exact HBAD.out HM.out
  have d3 : decide (1073741824 < lat) = false := by simpa using h4
  by_cases h5 : most < 1
  · have d4 : decide (most < 1) = true := by simpa using h5
    have HM : Hid (mayW len lat most = 2) := Lib.hid (by unfold mayW; rw [if_pos (by omega)])
    clear h1 h2 h3 h4 h5
    go_enter Try.func9, Try.ntmps9
    go_wp2
    go_ret2
    exact HBAD.out HM.out
  have d4 : decide (most < 1) = false := by simpa using h5
  by_cases h6 : 64 < most
  · have d5 : decide (64 < most) = true := by simpa using h6
    have HM : Hid (mayW len lat most = 2) := Lib.hid (by unfold mayW; rw [if_pos (by omega)])
    clear h1 h2 h3 h4 h5 h6
    go_enter Try.func9, Try.ntmps9
    go_wp2
    go_ret2
    exact HBAD.out HM.out
  have d5 : decide (64 < most) = false := by simpa using h6
  have HM : Hid (mayW len lat most = 0) := Lib.hid (by unfold mayW; rw [if_neg (by omega)])
  have HOK : Hid (NewPost len lat most w (.returned (.tuple #[ptrV (w.heap.size + 1), .int .i64 0])) ((w.alloc (.map #[] 0)).alloc (.cells #[.int .i64 len, .int .i64 lat, .int .i64 most, .int .i64 (-1), .int .i64 (-1), .int .i64 0, .int .i64 0, .map (some w.heap.size)] 66))) := Lib.hid (.inl ⟨HM.out, _, _, rfl, new_made len lat most w (by omega), (Turns.alloc _ _).then (Turns.alloc _ _)⟩)
  clear h1 h2 h3 h4 h5 h6
  go_enter Try.func9, Try.ntmps9
  go_wp2
  go_ret2
  exact HOK.out
end Go.Proofs.Ytjkkpdflijjllaa

namespace Go.Proofs.Ytjkkpdflijjllaa
open Go.RowKit Go.Maps Go.Sort Go.Shelf

theorem RangeG.not_map {k k2 : TypeId} {κ κ2 : Type} {T : KD k κ} {T2 : KD k2 κ2} {R R2 : RdV} {w : World} {b r g n : Nat} {f : κ → Option Value} {f2 : κ2 → Option Value} {left : κ → Bool} {cnt : Nat} (h : RangeG T R w b r f left cnt) (hm : MapG T2 R2 w g f2 n) : g ≠ r := by
  obtain ⟨n1, D, lf, ⟨es, clock, since, seen, c0, _, _, _, _, hr, _⟩, _⟩ := h
  obtain ⟨D2, ⟨es2, clock2, hb, _⟩, _⟩ := hm
  intro e
  subst e
  rw [hr] at hb
  cases hb
/-- The windows that have been visited are copied. -/
structure CpO (w : World) (q b2 : Nat) (S : Ws) (left : Int → Bool) (P2 : PW) (W : World) : Prop where
  wi : WiA w.heap.size W q b2 P2 { S with L := seenL Wn.num left S.L }
  tt : Turns [] w W
/-- Of one window more the credits that have been visited are copied. -/
structure CpI (w : World) (q b2 : Nat) (S : Ws) (left : Int → Bool) (P2 : PW) (x : Int) (gi : Nat) (f : SM) (l : List Cr) (lt2 : ByteArray → Bool) (f2 : SM) (W : World) : Prop where
  head : HeadW W q b2 S
  map : MapO numKD obW w.heap.size W b2 (fun z => if z = x then some (gi, (f2, (seenL Cr.name lt2 l).length)) else P2 z) ((seenL Wn.num left S.L).length + 1)
  no : ∀ s, lt2 s = true → f2 s = none
  yes : ∀ s, lt2 s = false → f2 s = f s
  gq : gi ≠ q
  tt : Turns [] w W
section
variable {B : Nat} {w W Y : World} {p b q b2 gi : Nat} {P P2 : PW} {S : Ws} {left : Int → Bool} {x : Int} {f f2 : SM} {l : List Cr} {lt2 : ByteArray → Bool} {F : List Nat}
theorem SrtW.ne {L : List Wn} (h : SrtW L) : NamesNe Wn.num L := h.imp fun {a b} hab e => by omega
theorem CpO.no (h : CpO w q b2 S left P2 W) (hx : left x = true) : P2 x = none := by
  cases hp : P2 x with
  | none => rfl
  | some u =>
    obtain ⟨y, hy, e⟩ := h.wi.tel.all x u hp
    unfold seenL at hy
    rw [List.mem_filter, e, hx] at hy
    simp at hy
theorem CpO.turns (h : CpO w q b2 S left P2 W) (ht : Turns F W Y) (hF : ∀ i ∈ F, w.heap.size ≤ i ∧ ¬ WiA.In q b2 P2 i) : CpO w q b2 S left P2 Y :=
  ⟨h.wi.turns ht fun i hi => (hF i hi).2, h.tt.trans ht fun i hi => .inr (hF i hi).1⟩
theorem CpO.pre (h : CpO w q b2 S left P2 W) (ht : Turns [] W Y) : CpO w q b2 S left P2 Y := h.turns ht (by simp)
/-- A new map for one more. -/
theorem CpO.fresh (h : CpO w q b2 S left P2 W) (hx : left x = true) (hn : numKD.ok x) (hL : S.L.length ≤ 50000) (f : SM) (lt2 : ByteArray → Bool) (hlt : ∀ s, lt2 s = (f s).isSome) (hl : seenL Cr.name lt2 l = []) :
    ∃ Y, (Instr.mapUpdate tO (.map (some b2)) (.int .i64 x) (.map (some W.heap.size))).run Try.prog (W.alloc (.map #[] 0)) = .ok () Y ∧ CpI w q b2 S left P2 x W.heap.size f l lt2 (fun _ => none) Y ∧ Turns [b2] W Y := by
  have h1 := h.wi.pre (Turns.alloc (F := []) W (.map #[] 0))
  have hob : obW.Ob (W.alloc (.map #[] 0)) W.heap.size ((fun _ => none), 0) := MapG.made txtKD sumR W
  have hnin : ¬ MapO.In b2 P2 W.heap.size := fun hi => by
    have := (h.wi.lt _ (.inr hi)).2
    omega
  have hsl : (seenL Wn.num left S.L).length ≤ S.L.length := List.length_filter_le _ _
  obtain ⟨Y, hrun, hm, htu⟩ := h1.map.store num_keyed undO (by unfold maxLen; simp only; omega) hn hob h.tt.size hnin
  have hq := h.wi.head.lt
  have hblt := h.wi.map.map.lt
  have hbl := h.wi.map.low
  have htt : Turns [b2] W Y := ((Turns.alloc (F := []) W (.map #[] 0)).mono (by simp)).then htu
  refine ⟨Y, hrun, ⟨h1.head.turns htu (by simpa using h.wi.ne), ?_, fun s _ => rfl, fun s hs => ?_, by omega, h.tt.trans htt fun i hi => .inr (by simp at hi; omega)⟩, htt⟩
  · rw [h.no hx] at hm
    rw [hl]
    exact hm
  · rw [hlt s] at hs
    cases hf : f s with
    | none => rfl
    | some v => rw [hf] at hs; cases hs
theorem CpI.turns (h : CpI w q b2 S left P2 x gi f l lt2 f2 W) (ht : Turns F W Y) (hF : ∀ i ∈ F, w.heap.size ≤ i ∧ i ≠ q ∧ i ≠ b2 ∧ i ≠ gi ∧ ∀ z u, P2 z = some u → u.1 ≠ i) : CpI w q b2 S left P2 x gi f l lt2 f2 Y := by
  refine ⟨h.head.turns ht fun hm => (hF q hm).2.1 rfl, h.map.turns ht fun i hi hin => ?_, h.no, h.yes, h.gq, h.tt.trans ht fun i hi => .inr (hF i hi).1⟩
  obtain ⟨-, -, h3, h4, h5⟩ := hF i hi
  rcases hin with e | ⟨z, u, hu, e⟩
  · exact h3 e
  · simp only at hu
    by_cases hz : z = x
    · rw [if_pos hz] at hu
      cases hu
      exact h4 e.symm
    · rw [if_neg hz] at hu
      exact h5 z u hu e
theorem CpI.pre (h : CpI w q b2 S left P2 x gi f l lt2 f2 W) (ht : Turns [] W Y) : CpI w q b2 S left P2 x gi f l lt2 f2 Y := h.turns ht (by simp)
theorem CpI.inner (h : CpI w q b2 S left P2 x gi f l lt2 f2 W) : MapS W gi f2 (seenL Cr.name lt2 l).length := (h.map.blk x _ (if_pos rfl)).1
theorem CpI.low (h : CpI w q b2 S left P2 x gi f l lt2 f2 W) : w.heap.size ≤ gi ∧ gi < W.heap.size ∧ gi ≠ b2 ∧ w.heap.size ≤ b2 ∧ b2 < W.heap.size :=
  ⟨(h.map.blk x _ (if_pos rfl)).2.2, h.inner.lt, (h.map.blk x _ (if_pos rfl)).2.1, h.map.low, h.map.map.lt⟩
theorem CpI.look (h : CpI w q b2 S left P2 x gi f l lt2 f2 W) (hn : numKD.ok x) : W.cell? ⟨q, 7, none⟩ = some (.map (some b2)) ∧ (Instr.lookup tO (.map (some b2)) (.int .i64 x) false).run Try.prog W = .ok (.map (some gi)) W := by
  obtain ⟨-, -, -, -, -, -, -, c7, -⟩ := h.head.cells
  have h2 := h.map.lookup num_keyed undO (zeroI W) hn
  rw [if_pos rfl] at h2
  exact ⟨c7, h2⟩
/-- A credit is copied. -/
theorem CpI.store (h : CpI w q b2 S left P2 x gi f l lt2 f2 W) (hf : TelC f l) {s : ByteArray} {y : Cr} (hs : lt2 s = true) (hy : f s = some (sumV y)) (hl : l.length ≤ 50000) :
    ∃ Y, (Instr.mapUpdate tI (.map (some gi)) (.string s) (.agg #[.int .i64 y.inc, .bool y.over])).run Try.prog W = .ok () Y ∧ CpI w q b2 S left P2 x gi f l (fun z => lt2 z && !decide (z = s)) (fun z => if z = s then some (sumV y) else f2 z) Y ∧ Turns [gi] W Y := by
  obtain ⟨c, hc, hcn, -⟩ := hf.some hy
  have hle : (seenL Cr.name lt2 l).length ≤ l.length := List.length_filter_le _ _
  obtain ⟨Y, hrun, hm, ht⟩ := MapS.store h.inner (by unfold maxLen; omega) (show s.size ≤ 140737488355328 by rw [← hcn]; exact hf.size c hc) y.inc y.over
  have hst := seenL_step (nm := Cr.name) List.length (fun _ _ => List.length_append) hf.rise.ne hc (left := lt2) (by rw [hcn]; exact hs)
  rw [hcn] at hst
  rw [h.no s hs] at hm
  simp only [Option.isSome_none, Bool.false_eq_true, if_false] at hm
  have hlw := h.low
  refine ⟨Y, hrun, ⟨h.head.turns ht (by simpa using Ne.symm h.gq), ?_, fun z hz => ?_, fun z hz => ?_, h.gq, h.tt.trans ht fun i hi => .inr (by simp at hi; omega)⟩, ht⟩
  · have e : (seenL Cr.name (fun z => lt2 z && !decide (z = s)) l).length = (seenL Cr.name lt2 l).length + 1 := by rw [hst]; simp
    rw [e]
    refine (h.map.write (if_pos rfl) ht (show obW.Ob Y gi ((fun z => if z = s then some (sumV y) else f2 z), (seenL Cr.name lt2 l).length + 1) from hm)).congr fun z => ?_
    by_cases hz : z = x
    · rw [if_pos hz, if_pos hz]
    · rw [if_neg hz, if_neg hz, if_neg hz]
  · have hz' : lt2 z = true ∧ z ≠ s := by simpa using hz
    rw [if_neg hz'.2]
    exact h.no z hz'.1
  · by_cases e : z = s
    · rw [if_pos e, e, hy]
    · rw [if_neg e]
      exact h.yes z (by simpa [e] using hz)
/-- The window is copied. -/
theorem CpI.done (h : CpI w q b2 S left P2 x gi f l lt2 f2 W) (ho : CpO w q b2 S left P2 Y) (hS : SrtW S.L) (hx : left x = true) {y : Wn} (hy : y ∈ S.L) (hyx : y.num = x) (hyl : y.cr = l) (hf : TelC f l) (hl : ∀ s, lt2 s = false) :
    CpO w q b2 S (fun z => left z && !decide (z = x)) (fun z => if z = x then some (gi, (f2, l.length)) else P2 z) W := by
  have hff : f2 = f := funext fun s => h.yes s (hl s)
  have hm := h.map
  rw [seenL_all hl] at hm
  have hst := seenL_step (nm := Wn.num) List.length (fun _ _ => List.length_append) hS.ne hy (left := left) (by rw [hyx]; exact hx)
  rw [hyx] at hst
  have e : (seenL Wn.num (fun z => left z && !decide (z = x)) S.L).length = (seenL Wn.num left S.L).length + 1 := by rw [hst]; simp
  refine ⟨⟨h.head, ?_, ⟨fun z hz => ?_, fun z u hu => ?_⟩, ho.wi.low, ho.wi.ne, fun z u hu => ?_, ho.wi.len⟩, h.tt⟩
  · show MapO numKD obW w.heap.size W b2 _ (seenL Wn.num (fun z => left z && !decide (z = x)) S.L).length
    rw [e]
    exact hm
  · have hz : z ∈ seenL Wn.num (fun z => left z && !decide (z = x)) S.L := hz
    unfold seenL at hz
    rw [List.mem_filter] at hz
    by_cases hzx : z.num = x
    · have hzy : z = y := by
        have hne := hS.ne
        unfold NamesNe at hne
        apply Classical.byContradiction
        intro hne2
        obtain ⟨i, hi⟩ := List.getElem?_of_mem hz.1
        obtain ⟨j, hj⟩ := List.getElem?_of_mem hy
        obtain ⟨hi1, hi2⟩ := List.getElem?_eq_some_iff.1 hi
        obtain ⟨hj1, hj2⟩ := List.getElem?_eq_some_iff.1 hj
        have hp := List.pairwise_iff_getElem.1 hne
        rcases Nat.lt_trichotomy i j with hl | hl | hl
        · exact hp i j hi1 hj1 hl (by rw [hi2, hj2, hzx, hyx])
        · subst hl
          rw [hi2] at hj2
          exact hne2 hj2
        · exact hp j i hj1 hi1 hl (by rw [hi2, hj2, hzx, hyx])
      subst hzy
      exact ⟨gi, f2, by rw [if_pos hzx, hyl], by rw [hyl, hff]; exact hf⟩
    · obtain ⟨g, f3, h1, h2⟩ := ho.wi.tel.mem z (by
        show z ∈ seenL Wn.num left S.L
        unfold seenL
        rw [List.mem_filter]
        refine ⟨hz.1, ?_⟩
        have := hz.2
        simpa [hzx] using this)
      exact ⟨g, f3, by rw [if_neg hzx]; exact h1, h2⟩
  · have key : ∀ u : Wn, u ∈ S.L → (left u.num && !decide (u.num = x)) = false → u ∈ seenL Wn.num (fun z => left z && !decide (z = x)) S.L := fun u hu h2 => by
      unfold seenL
      rw [List.mem_filter]
      exact ⟨hu, by show (!(left u.num && !decide (u.num = x))) = true; rw [h2]; rfl⟩
    by_cases hzx : z = x
    · exact ⟨y, key y hy (by simp [hyx]), by rw [hyx, hzx]⟩
    · rw [if_neg hzx] at hu
      obtain ⟨v, hv, e2⟩ := ho.wi.tel.all z u hu
      have hv : v ∈ seenL Wn.num left S.L := hv
      unfold seenL at hv
      rw [List.mem_filter] at hv
      refine ⟨v, key v hv.1 ?_, e2⟩
      have := hv.2
      rw [Bool.not_eq_true'] at this
      rw [this]
      rfl
  · by_cases hzx : z = x
    · rw [if_pos hzx] at hu
      cases hu
      exact h.gq
    · rw [if_neg hzx] at hu
      exact ho.wi.apart z u hu
end
end Go.Proofs.Ytjkkpdflijjllaa
