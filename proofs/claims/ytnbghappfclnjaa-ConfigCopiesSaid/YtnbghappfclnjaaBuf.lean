/- A buffer of bytes of the call's own, however it was begun ('[]byte(s)' too): append, and what it is as a text. -/
import Derived.Test.YtnbghappfclnjaaAppendL
import Derived.Deep.AppendSrc
import Derived.Deep.Upon
import Derived.Lib.ConvBytes
import Derived.Lib.Strings
import Derived.Laws.IdiomCopy
namespace Go.Proofs.Ytnbghappfclnjaa
open Go.RowKit

def Buf (B : Nat) (w : World) (v : Value) (l : List UInt8) : Prop := ∃ g cap, v = .slice (some ⟨g, 0, none⟩) l.length cap ∧ B ≤ g ∧ g < w.heap.size ∧ l.length ≤ cap ∧ cap ≤ maxLen ∧
  (∀ j c, l[j]? = some c → w.cell? ⟨g, j, none⟩ = some (bcell c)) ∧ ∀ j, l.length ≤ j → j < cap → (w.cell? ⟨g, j, none⟩).isSome = true ∧ w.frozen? ⟨g, j, none⟩ = false
/-- What stood apart from v stands, and stands apart from v'. -/
def Safe (w : World) (v : Value) (w' : World) (v' : Value) : Prop := ∀ X, X < w.heap.size → v.ownBlock ≠ some X → v'.ownBlock ≠ some X ∧ w'.heap[X]? = w.heap[X]?

theorem Buf.keep {B : Nat} {w w' : World} {v : Value} {l : List UInt8} (h : Buf B w v l) (hs : w.heap.size ≤ w'.heap.size) (hk : ∀ k, v.ownBlock = some k → k < w.heap.size → w'.heap[k]? = w.heap[k]?) : Buf B w' v l := by
  obtain ⟨g, cap, rfl, h1, h2, h3, h4, h5, h6⟩ := h
  have hg := hk g rfl h2
  refine ⟨g, cap, rfl, h1, Nat.lt_of_lt_of_le h2 hs, h3, h4, fun j c hj => ?_, fun j hj hc => ?_⟩
  · rw [World.cell?_of_block (a := ⟨g, j, none⟩) hg]; exact h5 j c hj
  · rw [World.cell?_of_block (a := ⟨g, j, none⟩) hg, World.frozen?_of_block (a := ⟨g, j, none⟩) hg]; exact h6 j hj hc
theorem Buf.below {B : Nat} {w w' : World} {v : Value} {l : List UInt8} (h : Buf B w v l) (hb : Below w.heap.size w w') : Buf B w' v l :=
  h.keep hb.size fun k _ hk => hb.block k hk
theorem Buf.alloc {B : Nat} {w : World} {v : Value} {l : List UInt8} (h : Buf B w v l) (o : Obj) : Buf B (w.alloc o) v l :=
  h.keep (by simp) fun k _ hk => heap_alloc_old w o hk
theorem Buf.drew {B : Nat} {w : World} {v : Value} {l : List UInt8} (h : Buf B w v l) : Buf B w.drew v l := h
theorem Buf.lt {B : Nat} {w : World} {v : Value} {l : List UInt8} (h : Buf B w v l) : ∀ k, v.ownBlock = some k → k < w.heap.size := by
  obtain ⟨g, cap, rfl, h1, h2, _⟩ := h
  intro k hk
  simp [Value.ownBlock] at hk
  omega
theorem Buf.apart {B : Nat} {w : World} {v : Value} {l : List UInt8} (h : Buf B w v l) {X : Nat} (hX : w.heap.size ≤ X) : v.ownBlock ≠ some X := fun e => by
  have := h.lt X e
  omega
theorem Buf.text {B : Nat} {w : World} {v : Value} {l : List UInt8} (h : Buf B w v l) : (convert 74 9 v).run Try.prog w = .ok (.string ⟨l.toArray⟩) w := by
  obtain ⟨g, cap, rfl, h1, h2, h3, h4, h5, _⟩ := h
  exact run_bytes_text w 9 74 Try.underlying74 Try.underlying9 (B := w.heap.size) cap (.inr ⟨g, 0, rfl, h2, fun j c hj => by rw [Nat.zero_add]; exact h5 j c hj⟩)
theorem Safe.cell {w : World} {v : Value} {w' : World} {v' : Value} (h : Safe w v w' v') {X j : Nat} {u : Value} (hX : v.ownBlock ≠ some X) (hc : w.cell? ⟨X, j, none⟩ = some u) : v'.ownBlock ≠ some X ∧ w'.cell? ⟨X, j, none⟩ = some u := by
  obtain ⟨h1, h2⟩ := h X (by simpa using World.block_lt_of_cell? w ⟨X, j, none⟩ hc) hX
  exact ⟨h1, (World.cell?_of_block (a := ⟨X, j, none⟩) h2).trans hc⟩
theorem below_setCells' {B g : Nat} (hg : B ≤ g) (vs : List Value) (o : Nat) (w : World) (hw : g < w.heap.size) : Below B w (w.setCells g o vs) := by
  induction vs generalizing o w with
  | nil => exact Below.refl _ _
  | cons v vs ih =>
    rw [World.setCells]
    have h1 : Below B w (w.setCell ⟨g, o, none⟩ v) := (Below.refl _ _).setCell (by simpa using hg) _
    exact h1.trans (ih (o + 1) _ (by simpa using hw))

/-- '[]byte(s)'. -/
theorem conv_bytes (w : World) (s : ByteArray) (hs : s.size ≤ maxLen) : ∃ v w', (convert 9 74 (.string s)).run Try.prog w = .ok v w' ∧ Buf w.heap.size w' v s.data.toList ∧ Below w.heap.size w w' := by
  have hl : s.data.toList.length = s.size := (Lib.size_eq s).symm
  have hcap := grownCap_ge w s.size 0 5
  have hsz : (Lib.bytesCells w 5 s).size = grownCap w s.size 0 5 := by
    unfold Lib.bytesCells
    simp only [Array.size_append, Array.size_map, Array.size_replicate]
    have : s.data.size = s.size := rfl
    omega
  refine ⟨_, _, Lib.run_convert_string_bytes w 9 74 5 s Try.underlying9 Try.underlying74 Try.underlying5, ⟨w.heap.size, _, by rw [hl], Nat.le_refl _, by rw [Lib.bytesWorld_size]; omega, by omega, grownCap_le_maxLen w _ _ _ hs, fun j c hj => ?_, fun j hj hc => ?_⟩, ?_⟩
  · have hjl : j < s.size := by rw [← hl]; exact (List.getElem?_eq_some_iff.1 hj).1
    rw [Lib.bytesWorld_cell w _ s j hjl]
    simp [List.getD, hj, bcell]
  · have hb := Lib.bytesWorld_at_new w 5 s
    constructor
    · simp only [World.cell?, hb]
      simp only [Option.isSome_none, Bool.false_eq_true, if_false]
      rw [Array.getElem?_eq_getElem (by omega)]
      rfl
    · simp only [World.frozen?, hb, Bool.and_eq_false_iff, decide_eq_false_iff_not]
      left
      omega
  · refine ⟨?_, ?_, ?_, by rw [Lib.bytesWorld_size]; omega, fun k hk => Lib.bytesWorld_at_old w _ s k hk⟩
    · simp [Lib.bytesWorld, World.freeze, World.alloc, World.drew, -World.alloc_eq, -World.drew_eq]
    · simp [Lib.bytesWorld, World.freeze, World.alloc, World.drew, -World.alloc_eq, -World.drew_eq]
    · simp [Lib.bytesWorld, World.freeze, World.alloc, World.drew, -World.alloc_eq, -World.drew_eq]
theorem src_text (w : World) (s : ByteArray) : Src Try.prog 1 9 (.string s) s.data.toList.length (s.data.toList.map bcell) w := by
  have := Src.ofString (P := Try.prog) w Try.underlying9 s
  rw [Lib.size_eq] at this
  exact this
theorem src_bytes (w : World) {B : Nat} {b off : Nat} {l : List UInt8} (c : Nat) (h : BReads w B (some ⟨b, off, none⟩) l) : Src Try.prog 1 74 (.slice (some ⟨b, off, none⟩) l.length c) l.length (l.map bcell) w :=
  Src.ofSlice w Try.underlying74 ⟨b, off, none⟩ l.length c (l.map bcell) (by simp) (h.cells _ rfl) (bcell_one l)

theorem src_one (W : World) (p : Nat) (n : Int) (c : UInt8) (t : TypeId) (hp : p = W.heap.size) (h : n = (c.toNat : Int)) : Src Try.prog 1 74 (.slice (some ⟨p, 0, none⟩) 1 1) [c].length ([c].map bcell) (W.alloc (.cells #[.int .u8 n] t)) := by
  subst hp
  exact src_bytes _ 1 (breads_one W n c t h)
theorem src_two (W : World) (p : Nat) (n m : Int) (c d : UInt8) (t : TypeId) (hp : p = W.heap.size) (h : n = (c.toNat : Int)) (h2 : m = (d.toNat : Int)) : Src Try.prog 1 74 (.slice (some ⟨p, 0, none⟩) 2 2) [c, d].length ([c, d].map bcell) (W.alloc (.cells #[.int .u8 n, .int .u8 m] t)) := by
  subst hp
  exact src_bytes _ 2 (breads_two W n m c d t h h2)
theorem cell_alloc {w : World} {X j : Nat} {u : Value} (h : w.cell? ⟨X, j, none⟩ = some u) (o : Obj) : (w.alloc o).cell? ⟨X, j, none⟩ = some u :=
  (World.cell?_alloc_lt w o ⟨X, j, none⟩ (by simpa using World.block_lt_of_cell? w ⟨X, j, none⟩ h)).trans h

theorem run_append_buf (w : World) (tx ty : TypeId) (base : Nat) (v : Value) (l1 : List UInt8) (hbuf : Buf base w v l1) (vx : Value) (l2 : List UInt8) (hsrc : Src Try.prog 1 tx vx l2.length (l2.map bcell) w) (hlen : l1.length + l2.length ≤ 1000000) (hbase : base ≤ w.heap.size) :
    ∃ v' w', (Builtin.append_ #[74, tx] ty #[v, vx]).run Try.prog w = .ok v' w' ∧ Buf base w' v' (l1 ++ l2) ∧ Below base w w' ∧ Safe w v w' v' := by
  obtain ⟨i0, hi, hz0, hz1, hz2⟩ := info_parts Try.infoU8
  obtain ⟨g, cap, rfl, h1, h2, h3, h4, h5, h6⟩ := hbuf
  by_cases hroom : l1.length + l2.length ≤ cap
  · have hr := run_append_room_src (P := Try.prog) w 74 tx ty 5 i0 Try.underlying74 hi g 0 l1.length cap vx l2.length (l2.map bcell) (by rw [hz1]; exact hsrc) hroom
      (fun j hj => by rw [hz1, Nat.zero_add, Nat.mul_one]; exact (h6 (l1.length + j) (by omega) (by simp at hj; omega)).1)
      (fun j hj => by rw [hz1, Nat.zero_add, Nat.mul_one]; exact (h6 (l1.length + j) (by omega) (by simp at hj; omega)).2)
    rw [hz1, Nat.zero_add, Nat.mul_one] at hr
    refine ⟨_, _, hr, ⟨g, cap, by rw [List.length_append], h1, Nat.lt_of_lt_of_le h2 (below_setCells' h1 _ _ _ h2).size, by rw [List.length_append]; exact hroom, h4, fun j c hj => ?_, fun j hj hc => ?_⟩, below_setCells' h1 _ _ _ h2, fun X hX hne => ⟨hne, World.heap_setCells_other w g _ _ hX (fun e => hne (by rw [e]; rfl))⟩⟩
    · rcases Nat.lt_or_ge j l1.length with hlt | hge
      · rw [List.getElem?_append_left hlt] at hj
        rw [World.cell?_setCells_out g _ _ _ _ (fun _ _ => .inl (by simpa using hlt))]
        exact h5 j c hj
      · rw [List.getElem?_append_right hge] at hj
        have hjl := (List.getElem?_eq_some_iff.1 hj).1
        have := World.cell?_setCells_in g (l2.map bcell) l1.length w (fun k hk => (h6 (l1.length + k) (by omega) (by simp at hk; omega)).1) (j - l1.length) (by simpa using hjl)
        rw [show l1.length + (j - l1.length) = j by omega] at this
        rw [this, List.getElem_map, (List.getElem?_eq_some_iff.1 hj).2]
    · rw [List.length_append] at hj
      rw [World.cell?_setCells_out g _ _ _ _ (fun _ _ => .inr (by simp; omega)), World.frozen?_setCells]
      exact h6 j (by omega) hc
  · have hold : (Builtin.firstCells i0.size l1.length (.slice (some ⟨g, 0, none⟩) l1.length cap)).run Try.prog w.drew = .ok (l1.map bcell).toArray w.drew := by
      rw [hz1]
      exact run_firstCells_some w.drew 1 l1.length ⟨g, 0, none⟩ l1.length cap (l1.map bcell) (by simp) (fun j u hu => by
        rw [List.getElem?_map] at hu
        obtain ⟨c, hc1, rfl⟩ := Option.map_eq_some_iff.1 hu
        rw [add_plain', Nat.zero_add]
        simpa using h5 j c hc1)
    have hr := run_append_grow_src (P := Try.prog) w 74 tx ty 5 i0 (.int .u8 0) Try.underlying74 hi hz0 (some ⟨g, 0, none⟩) l1.length cap (l1.map bcell) hold vx l2.length (l2.map bcell) (by rw [hz1]; exact hsrc) (by omega) (by omega)
      (by rw [hz2]; exact growslice_fits (by omega) (by omega))
    have hge := grownCap_ge w (l1.length + l2.length) cap 5
    have hmap : l1.map bcell ++ l2.map bcell = (l1 ++ l2).map bcell := by rw [List.map_append]
    rw [hmap] at hr
    have hsz : (((l1 ++ l2).map bcell).toArray ++ Builtin.zeroCells (Value.int IntKind.u8 0).cells (grownCap w (l1.length + l2.length) cap 5 - (l1.length + l2.length))).size = grownCap w (l1.length + l2.length) cap 5 := by
      have hz1 : (Value.int IntKind.u8 0).cells.size = 1 := rfl
      simp only [Array.size_append, List.size_toArray, size_zeroCells, hz1, List.length_map, List.length_append]
      omega
    generalize hC : ((l1 ++ l2).map bcell).toArray ++ Builtin.zeroCells (Value.int IntKind.u8 0).cells (grownCap w (l1.length + l2.length) cap 5 - (l1.length + l2.length)) = C at hr hsz
    have hnew := heap_alloc_new w.drew (.cells C 5)
    refine ⟨_, _, hr, ⟨w.heap.size, _, by rw [List.length_append], hbase, by simp, by rw [List.length_append]; exact hge, grownCap_le_maxLen w _ _ _ (by unfold maxLen; omega), fun j c hj => ?_, fun j hj hc => ?_⟩, ((Below.refl _ _).drew).alloc (by simpa using hbase) _, fun X hX hne => ⟨fun e => ?_, heap_alloc_old w.drew _ hX⟩⟩
    · have hjl := (List.getElem?_eq_some_iff.1 hj).1
      rw [cell_of_row _ w.heap.size j C 5 (0, 0) hnew, ← hC, Array.getElem?_append_left (by simpa using hjl)]
      rw [List.getElem?_toArray, List.getElem?_map, hj]; rfl
    · constructor
      · rw [cell_of_row _ w.heap.size j C 5 (0, 0) hnew, Array.getElem?_eq_getElem (by rw [hsz]; exact hc)]
        rfl
      · have hnew' : (w.drew.alloc (.cells C 5)).heap[w.heap.size]? = some (.cells C 5 (0, 0)) := hnew
        simp only [World.frozen?, hnew', Bool.and_eq_false_iff, decide_eq_false_iff_not]
        right
        omega
    · simp [Value.ownBlock] at e
      omega
theorem wpList_append_buf {w : World} {ops : Array Oper} {rest : List Oper} {o : Oper} {a : Act} {Q : Exit → Act → World → Prop} (hgd : o.guard = none) (s x : Operand) (tx : TypeId)
    (ho : o.op = .call { callee := .builtin .append, args := #[s, x], argTypes := #[74, tx] })
    (base : Nat) (v : Value) (l1 : List UInt8) (hs : a.eval s = v) (hbuf : Buf base w v l1) (vx : Value) (l2 : List UInt8) (hx : a.eval x = vx) (hsrc : Src Try.prog 1 tx vx l2.length (l2.map bcell) w)
    (hlen : l1.length + l2.length ≤ 1000000) (hbase : base ≤ w.heap.size)
    (h : ∀ v' w', Buf base w' v' (l1 ++ l2) → Below base w w' → Safe w v w' v' → wpList Try.prog ops Q rest (a.put o.dst v') w') : wpList Try.prog ops Q (o :: rest) a w := by
  refine wpList_plain hgd fun K hK => ?_
  obtain ⟨v', w', hr, h2, h3, h4⟩ := run_append_buf w tx o.type base v l1 hbuf vx l2 hsrc hlen hbase
  unfold Oper.wp execOp
  simp only [ho, resolve, invoke, builtin, Sem.run_bind, Sem.run_pure, Result.andThen_ok, List.map_toArray, List.map_cons, List.map_nil, hs, hx, hr]
  exact hK _ _ (h v' w' h2 h3 h4)
end Go.Proofs.Ytnbghappfclnjaa
