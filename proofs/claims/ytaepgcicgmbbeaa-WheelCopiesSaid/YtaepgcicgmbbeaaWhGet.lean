/- The program's partOf, New, Now, Len, Get. -/
import Derived.Test.YtaepgcicgmbbeaaWhMem
namespace Go.Proofs.Ytaepgcicgmbbeaa
open Go.RowKit

set_option maxHeartbeats 400000 in
theorem partOf_any (a : Int) (ha : -9223372036854775808 ≤ a ∧ a ≤ 9223372036854775807) (w : World) :
    Calls Try.prog 29 #[.int .i64 a] w fun e w' => e = .returned (.int .i64 (part a)) ∧ w = w' := by
  have h : a / 64 = part a := rfl
  go_enter Try.func29, Try.ntmps29
  go_wp2
  go_ret
  exact ⟨by first | rfl | simp [part], rfl⟩
theorem WhAt.made (w : World) (T : Int) : WhAt w.heap.size (w.alloc (.cells #[.int .i64 T, .map none, .map none] 50)) w.heap.size T [] [w.heap.size] :=
  ⟨fun i hi => by rw [List.mem_singleton] at hi; subst hi; exact ⟨Nat.le_refl _, by simp⟩, by simp, .inl ⟨heap_alloc_new w _, rfl⟩⟩
set_option maxHeartbeats 400000 in
theorem new_any (T : Int) (w : World) :
    Calls Try.prog 8 #[.int .i64 T] w fun e w' => e = .returned (.pointer (some ⟨w.heap.size, 0, none⟩)) ∧ WhAt w.heap.size w' w.heap.size T [] [w.heap.size] ∧ Turns [] w w' := by
  have HN := Lib.hid (WhAt.made w T)
  have HT := Lib.hid (fun o => Turns.alloc (F := []) w o)
  go_enter Try.func8, Try.ntmps8
  go_wp2
  go_ret
  exact ⟨rfl, HN.out, HT.out _⟩
set_option maxHeartbeats 400000 in
theorem now_any {B : Nat} {w : World} {bw : Nat} {T : Int} {L : List Fi} {F : List Nat} (h : WhAt B w bw T L F) :
    Calls Try.prog 20 #[.pointer (some ⟨bw, 0, none⟩)] w fun e w' => e = .returned (.int .i64 T) ∧ w = w' := by
  have c0 := h.cells.1
  clear h
  go_enter Try.func20, Try.ntmps20
  go_wp2
  go_ret
  exact ⟨rfl, rfl⟩
set_option maxHeartbeats 400000 in
theorem len_any {B : Nat} {w : World} {bw : Nat} {T : Int} {L : List Fi} {F : List Nat} (h : WhAt B w bw T L F) :
    Calls Try.prog 21 #[.pointer (some ⟨bw, 0, none⟩)] w fun e w' => e = .returned (.int .i64 L.length) ∧ w = w' := by
  rcases h.2.2 with ⟨h3, rfl⟩ | ⟨bs, bp, S, P, h3⟩
  · have c2 : w.cell? ⟨bw, 2, none⟩ = some (.map none) := by simp [World.cell?, h3]
    have hl := fun ty => Maps.len_nil (P := Try.prog) (w := w) Try.underlying48 ty
    clear h h3
    go_enter Try.func21, Try.ntmps21
    go_wp2
    go_ret
    exact ⟨rfl, rfl⟩
  · have c2 := h3.cells.2.2.1
    have hl := fun ty => h3.places.len Try.underlying48 ty
    clear h h3
    go_enter Try.func21, Try.ntmps21
    go_wp2
    go_ret
    exact ⟨rfl, rfl⟩
def getV (o : Option Fi) : Value := match o with
  | some x => .tuple #[.int .i64 x.2, .bool true]
  | none => .tuple #[.int .i64 0, .bool false]
set_option maxRecDepth 100000 in
set_option maxHeartbeats 2000000 in
theorem get_any {B : Nat} {w : World} {bw : Nat} {T : Int} {L : List Fi} {F : List Nat} (h : WhAt B w bw T L F) (hi : Ids L) (id : Int) (hid : -9223372036854775808 ≤ id ∧ id ≤ 9223372036854775807) (hp : ∀ x ∈ L, -9223372036854775808 ≤ x.2 ∧ x.2 ≤ 9223372036854775807) (hL : L.length ≤ 1000) :
    Calls Try.prog 17 #[.pointer (some ⟨bw, 0, none⟩), .int .i64 id] w fun e w' => e = .returned (getV (getL id L)) ∧ Turns [] w w' := by
  have HT := Lib.hid (fun o => Turns.alloc (F := []) w o)
  rcases h.2.2 with ⟨h3, rfl⟩ | ⟨bs, bp, S, P, h3⟩
  · have c2 : w.cell? ⟨bw, 2, none⟩ = some (.map none) := by simp [World.cell?, h3]
    have hl := Maps.look_nil (P := Try.prog) (w := w) true keyI Try.underlying48 (zeroP w) (Maps.keyOf_int_mk Try.underlying3 (wfI hid))
    simp only [if_true] at hl
    clear h h3
    show Calls _ _ _ _ fun e w' => e = .returned (.tuple #[.int .i64 0, .bool false]) ∧ Turns [] w w'
    go_enter Try.func17, Try.ntmps17
    go_wp2
    go_ret2
    exact ⟨rfl, HT.out _⟩
  · obtain ⟨_, c1, c2, _⟩ := h3.cells
    have hl := h3.places.look_ok keyI Try.underlying3 Try.underlying48 aread_inj (zeroP w) (aread_mk 0 0) (wfI hid)
    cases hg : getL id L with
    | none =>
      have hn := h3.lost (getL_none hg)
      rw [hn] at hl
      simp only [Option.map_none, Option.getD_none, Option.isSome_none] at hl
      clear h h3
      show Calls _ _ _ _ fun e w' => e = .returned (.tuple #[.int .i64 0, .bool false]) ∧ Turns [] w w'
      go_enter Try.func17, Try.ntmps17
      go_wp2
      go_ret2
      exact ⟨rfl, HT.out _⟩
    | some x =>
      obtain ⟨hx, rfl⟩ := getL_some hg
      obtain ⟨v, l, i, e1, e2, e3⟩ := h3.found hx
      obtain ⟨g, cap, rfl, _, hg2, hc1, hc2, _, _, _, _, hcell, _⟩ := h3.form e1
      obtain ⟨d0, d1⟩ := hcell i x e2
      have hil : i < l.length := (List.getElem?_eq_some_iff.1 e2).1
      rw [e3] at hl
      simp only [Option.map_some, Option.getD_some, Option.isSome_some, placeV] at hl
      obtain ⟨n, hs⟩ := h3.slots
      have hpx : -9223372036854775808 ≤ part x.2 ∧ part x.2 ≤ 9223372036854775807 := by
        have := hp x hx
        unfold part
        omega
      have HLS := Lib.hid (fun W (ht : Turns [] w W) => by
        have := (hs.turns ht (by simp)).lookup keyL Try.underlying2 Try.underlying47 sread_inj (zeroS W) (zd := .agg [.lit (.int .i64 0), .lit (.int .i64 0)]) (zp := []) rfl (wfI hpx)
        rw [e1] at this
        exact this)
      have hbw := h.cells.2.2
      have hlt := h3.len_le e1
      have hi1 : (i : Int) < (l.length : Int) := by omega
      have hi0 : (0 : Int) ≤ (i : Int) := by omega
      obtain ⟨W1, hW1⟩ : ∃ W1, W1 = w.alloc (.cells #[.int .i64 (part x.2), .int .i64 (i : Int)] 62) := ⟨_, rfl⟩
      have HT1 : Turns [] w W1 := by rw [hW1]; exact Turns.alloc _ _
      have b1 := (HT1.cell hbw (by simp) 1).trans c1
      have g1 := (HT1.cell hg2 (by simp) (i * 2 + 1)).trans d1
      have p0 : W1.cell? ⟨w.heap.size, 0, none⟩ = some (.int .i64 (part x.2)) := by rw [hW1]; simp
      have p1 : W1.cell? ⟨w.heap.size, 1, none⟩ = some (.int .i64 (i : Int)) := by rw [hW1]; simp
      have k0 := HLS.out W1 HT1
      have kq := fun q => HLS.out (W1.drewN q) (HT1.drewN q)
      simp only [Option.map_some, Option.getD_some] at k0 kq
      have HTT := Lib.hid HT1
      clear h h3 hcell hc2 hpx hp hs hlt hL hi hid hil hc1 e1 e2 e3 hg2 hx d0 HT1 HLS
      show Calls _ _ _ _ fun e w' => e = .returned (.tuple #[.int .i64 x.2, .bool true]) ∧ Turns [] w w'
      go_enter Try.func17, Try.ntmps17
      go_wp2
      rw [← hW1]
      clear hW1
      go_quiet (fail)
      go_wp2
      go_ret2
      exact ⟨rfl, HTT.out.drewN _⟩
end Go.Proofs.Ytaepgcicgmbbeaa
