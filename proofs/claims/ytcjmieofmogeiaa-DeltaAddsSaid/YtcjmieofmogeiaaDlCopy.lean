/- The document's meter: Copy, Alike. -/
import Derived.Test.YtcjmieofmogeiaaDlPut
import Derived.Test.YtcjmieofmogeiaaStAlike
import Derived.Deep.RegionHeld3
namespace Go.Proofs.Ytcjmieofmogeiaa
open Go.RowKit

def gnE (s t : Gn) : Bool := (s.name.toList == t.name.toList) && ((s.tm == t.tm) && ((s.inc == t.inc) && (s.reset == t.reset)))
theorem gnE_iff {t u : Gn} : gnE t u = true ↔ t = u := by
  constructor
  · intro h
    obtain ⟨a, b, c, d⟩ := t
    obtain ⟨a', b', c', d'⟩ := u
    simp only [gnE, Bool.and_eq_true, beq_iff_eq] at h
    obtain ⟨h1, h2, h3, h4⟩ := h
    rw [toList_inj h1, h2, h3, h4]
  · rintro rfl
    simp [gnE]
theorem gn_str : Try.prog.underlying 54 = some (.struct (Try.prog.fieldsOf 54)) := by kernel_rfl
theorem gn_stood : Try.prog.stoodInHeld 54 = false := by kernel_rfl
theorem gn_guard : Try.prog.eqGuardType Try.prog.depth 54 = false := by kernel_rfl
theorem gn_named : (Try.prog.fieldsOf 54).toList.map (fun f => (f.name, f.type, f.offset)) = [("Name", 9, 0), ("Time", 2, 1), ("Increase", 2, 2), ("Reset", 4, 3)] := by kernel_rfl
section
variable (a : ByteArray) (b c : Int) (d : Bool) (w : World)
theorem gn_part0 : (part 9 #[.string a, .int .i64 b, .int .i64 c, .bool d] 0).run Try.prog w = .ok (.string a) w := by kernel_rfl
theorem gn_part1 : (part 2 #[.string a, .int .i64 b, .int .i64 c, .bool d] 1).run Try.prog w = .ok (.int .i64 b) w := by kernel_rfl
theorem gn_part2 : (part 2 #[.string a, .int .i64 b, .int .i64 c, .bool d] 2).run Try.prog w = .ok (.int .i64 c) w := by kernel_rfl
theorem gn_part3 : (part 4 #[.string a, .int .i64 b, .int .i64 c, .bool d] 3).run Try.prog w = .ok (.bool d) w := by kernel_rfl
end
set_option maxRecDepth 100000 in
theorem gn_fldE (D : Nat) (t u : Gn) (w : World) : (Op.eqFields (D + 1) #[.string t.name, .int .i64 t.tm, .int .i64 t.inc, .bool t.reset] #[.string u.name, .int .i64 u.tm, .int .i64 u.inc, .bool u.reset] (Try.prog.fieldsOf 54).toList).run Try.prog w = .ok (gnE t u) w := by
  have hf := gn_named
  generalize (Try.prog.fieldsOf 54).toList = fs at hf
  rcases fs with _ | ⟨f0, _ | ⟨f1, _ | ⟨f2, _ | ⟨f3, _ | ⟨f4, fs⟩⟩⟩⟩⟩
  · cases hf
  · simp at hf
  · simp at hf
  · simp at hf
  · simp only [List.map_cons, List.map_nil, List.cons.injEq, Prod.mk.injEq, and_true] at hf
    obtain ⟨⟨n0, t0, o0⟩, ⟨n1, t1, o1⟩, ⟨n2, t2, o2⟩, n3, t3, o3⟩ := hf
    have es := fun (x y : ByteArray) (W : World) => run_equalIn_string (P := Try.prog) W D 9 x y Try.underlying9
    have ei := fun (x y : Int) (W : World) => run_equalIn_int (P := Try.prog) W D 2 .i64 .i64 x y Try.underlying2
    have eb := fun (x y : Bool) (W : World) => run_equalIn_bool (P := Try.prog) W D 4 x y Try.underlying4
    unfold gnE
    cases h0 : (t.name.toList == u.name.toList) <;> cases h1 : (t.tm == u.tm) <;> cases h2 : (t.inc == u.inc) <;> cases h3 : (t.reset == u.reset) <;>
      simp [Op.eqFields, n0, n1, n2, n3, t0, t1, t2, t3, o0, o1, o2, o3, gn_part0, gn_part1, gn_part2, gn_part3, es, ei, eb, Result.andThen, h0, h1, h2, h3]
  · simp at hf
theorem gn_neq (t u : Gn) (w : World) : (binOp .neq 54 (.agg #[.string t.name, .int .i64 t.tm, .int .i64 t.inc, .bool t.reset]) (.agg #[.string u.name, .int .i64 u.tm, .int .i64 u.inc, .bool u.reset])).run Try.prog w = .ok (.bool (!gnE t u)) w := by
  have h := gn_fldE 9998 t u w
  rw [run_neq_struct, run_equalIn_struct (P := Try.prog) w 9999 54 _ _ gn_str gn_stood, h]
  rfl
/-! Counts, compared -/
def tlE (s t : Tl) : Bool := (s.p == t.p) && ((s.a == t.a) && ((s.o == t.o) && ((s.t == t.t) && ((s.f == t.f) && ((s.g == t.g) && (s.r == t.r))))))
theorem tlE_iff {t u : Tl} : tlE t u = true ↔ t = u := by
  constructor
  · intro h
    obtain ⟨a, b, c, d, e, f, g⟩ := t
    obtain ⟨a', b', c', d', e', f', g'⟩ := u
    simp only [tlE, Bool.and_eq_true, beq_iff_eq] at h
    obtain ⟨h1, h2, h3, h4, h5, h6, h7⟩ := h
    rw [h1, h2, h3, h4, h5, h6, h7]
  · rintro rfl
    simp [tlE]
instance : DecidableEq Tl := fun _ _ => decidable_of_iff _ tlE_iff
theorem tl_str : Try.prog.underlying 34 = some (.struct (Try.prog.fieldsOf 34)) := by kernel_rfl
theorem tl_stood : Try.prog.stoodInHeld 34 = false := by kernel_rfl
theorem tl_guard : Try.prog.eqGuardType Try.prog.depth 34 = false := by kernel_rfl
theorem tl_named : (Try.prog.fieldsOf 34).toList.map (fun f => (f.name, f.type, f.offset)) = [("Parsed", 2, 0), ("Accepted", 2, 1), ("Order", 2, 2), ("Twice", 2, 3), ("Full", 2, 4), ("Gains", 2, 5), ("Resets", 2, 6)] := by kernel_rfl
section
variable (a b c d e f g : Int) (w : World)
theorem tl_part0 : (part 2 #[.int .i64 a, .int .i64 b, .int .i64 c, .int .i64 d, .int .i64 e, .int .i64 f, .int .i64 g] 0).run Try.prog w = .ok (.int .i64 a) w := by kernel_rfl
theorem tl_part1 : (part 2 #[.int .i64 a, .int .i64 b, .int .i64 c, .int .i64 d, .int .i64 e, .int .i64 f, .int .i64 g] 1).run Try.prog w = .ok (.int .i64 b) w := by kernel_rfl
theorem tl_part2 : (part 2 #[.int .i64 a, .int .i64 b, .int .i64 c, .int .i64 d, .int .i64 e, .int .i64 f, .int .i64 g] 2).run Try.prog w = .ok (.int .i64 c) w := by kernel_rfl
theorem tl_part3 : (part 2 #[.int .i64 a, .int .i64 b, .int .i64 c, .int .i64 d, .int .i64 e, .int .i64 f, .int .i64 g] 3).run Try.prog w = .ok (.int .i64 d) w := by kernel_rfl
theorem tl_part4 : (part 2 #[.int .i64 a, .int .i64 b, .int .i64 c, .int .i64 d, .int .i64 e, .int .i64 f, .int .i64 g] 4).run Try.prog w = .ok (.int .i64 e) w := by kernel_rfl
theorem tl_part5 : (part 2 #[.int .i64 a, .int .i64 b, .int .i64 c, .int .i64 d, .int .i64 e, .int .i64 f, .int .i64 g] 5).run Try.prog w = .ok (.int .i64 f) w := by kernel_rfl
theorem tl_part6 : (part 2 #[.int .i64 a, .int .i64 b, .int .i64 c, .int .i64 d, .int .i64 e, .int .i64 f, .int .i64 g] 6).run Try.prog w = .ok (.int .i64 g) w := by kernel_rfl
end
theorem natBeq (x y : Nat) : ((x : Int) == (y : Int)) = (x == y) := by
  rw [Bool.eq_iff_iff]
  simp only [beq_iff_eq]
  omega
set_option maxRecDepth 100000 in
theorem tl_fldE (D : Nat) (t u : Tl) (w : World) : (Op.eqFields (D + 1) t.cells.toArray u.cells.toArray (Try.prog.fieldsOf 34).toList).run Try.prog w = .ok (tlE t u) w := by
  have hf := tl_named
  generalize (Try.prog.fieldsOf 34).toList = fs at hf
  rcases fs with _ | ⟨f0, _ | ⟨f1, _ | ⟨f2, _ | ⟨f3, _ | ⟨f4, _ | ⟨f5, _ | ⟨f6, _ | ⟨f7, fs⟩⟩⟩⟩⟩⟩⟩⟩
  · cases hf
  · simp at hf
  · simp at hf
  · simp at hf
  · simp at hf
  · simp at hf
  · simp at hf
  · simp only [List.map_cons, List.map_nil, List.cons.injEq, Prod.mk.injEq, and_true] at hf
    obtain ⟨⟨n0, t0, o0⟩, ⟨n1, t1, o1⟩, ⟨n2, t2, o2⟩, ⟨n3, t3, o3⟩, ⟨n4, t4, o4⟩, ⟨n5, t5, o5⟩, n6, t6, o6⟩ := hf
    have ei := fun (x y : Int) (W : World) => run_equalIn_int (P := Try.prog) W D 2 .i64 .i64 x y Try.underlying2
    unfold tlE Tl.cells
    cases h0 : (t.p == u.p) <;> cases h1 : (t.a == u.a) <;> cases h2 : (t.o == u.o) <;> cases h3 : (t.t == u.t) <;> cases h4 : (t.f == u.f) <;> cases h5 : (t.g == u.g) <;> cases h6 : (t.r == u.r) <;>
      simp [Op.eqFields, n0, n1, n2, n3, n4, n5, n6, t0, t1, t2, t3, t4, t5, t6, o0, o1, o2, o3, o4, o5, o6, tl_part0, tl_part1, tl_part2, tl_part3, tl_part4, tl_part5, tl_part6, ei, Result.andThen, natBeq, h0, h1, h2, h3, h4, h5, h6]
  · simp at hf
theorem tl_eql (t u : Tl) (w : World) : (binOp .eql 34 t.val' u.val').run Try.prog w = .ok (.bool (tlE t u)) w := by
  have h := tl_fldE 9998 t u w
  unfold Tl.cells at h
  unfold Tl.val'
  rw [run_eql_struct, run_equalIn_struct (P := Try.prog) w 9999 34 _ _ tl_str tl_stood, h]
  rfl
instance : DecidableEq Gn := fun _ _ => decidable_of_iff _ gnE_iff
set_option maxRecDepth 100000 in
set_option maxHeartbeats 8000000 in
theorem rsameGn_any (A1 A2 : Option Addr) (c1 c2 : Nat) (l m : List Gn) (w : World) (hl : l.length ≤ 90000) (hr1 : gK.Reads w w.heap.size A1 l) (hr2 : gK.Reads w w.heap.size A2 m) :
    Calls Try.prog 27 #[.slice A1 l.length c1, .slice A2 m.length c2] w fun e w' => e = .returned (.bool (decide (l = m))) ∧ Turns [] w w' := by
  by_cases hne : l.length = m.length
  · have HR1 := Lib.hid hr1
    have HR2 := Lib.hid hr2
    have hgd := gn_guard
    have hnq := gn_neq
    rw [← hne]
    have HNE := Lib.hid hne
    have HLE := Lib.hid hl
    have f1 : (l.length : Int) ≤ 90000 := by omega
    clear hr1 hr2 hne hl
    go_enter Try.func27, Try.ntmps27
    go_wp2
    go_loopw [5] (fun i wr => ∃ k : Nat, i = .int .i64 (k : Int) ∧ k ≤ l.length ∧ Hid (l.take k = m.take k ∧ Turns [] w wr)) (fun i _ => l.length - (intOf i).toNat)
    case atStart => exact ⟨0, rfl, Nat.zero_le _, Lib.hid ⟨rfl, Turns.refl _ _⟩⟩
    case round =>
      obtain ⟨k, rfl, hk, HQ⟩ := hrel
      have HTD := Lib.hid (fun n : Nat => HQ.out.2.drewN0 n)
      by_cases hlt : k < l.length
      · have f2 : (k : Int) < (l.length : Int) := by omega
        have f3 : (0 : Int) ≤ (k : Int) := by omega
        obtain ⟨x, hx⟩ : ∃ x, l[k]? = some x := ⟨_, List.getElem?_eq_getElem hlt⟩
        obtain ⟨y, hy⟩ : ∃ y, m[k]? = some y := ⟨_, List.getElem?_eq_getElem (by have := HNE.out; omega)⟩
        obtain ⟨b1, o1, rfl, hb1, hc1⟩ := (HR1.out.turns (Nat.le_refl _) HQ.out.2 (by simp)).at gOk (by omega)
        obtain ⟨b2, o2, rfl, hb2, hc2⟩ := (HR2.out.turns (Nat.le_refl _) HQ.out.2 (by simp)).at gOk (by have := HNE.out; omega)
        have k0 : wr.cell? ⟨b1, o1 + k * 4, none⟩ = some (.string x.name) := hc1 k x hx 0 _ rfl
        have k1 : wr.cell? ⟨b1, o1 + k * 4 + 1, none⟩ = some (.int .i64 x.tm) := hc1 k x hx 1 _ rfl
        have k2 : wr.cell? ⟨b1, o1 + k * 4 + 2, none⟩ = some (.int .i64 x.inc) := hc1 k x hx 2 _ rfl
        have k3 : wr.cell? ⟨b1, o1 + k * 4 + 3, none⟩ = some (.bool x.reset) := hc1 k x hx 3 _ rfl
        have m0 : wr.cell? ⟨b2, o2 + k * 4, none⟩ = some (.string y.name) := hc2 k y hy 0 _ rfl
        have m1 : wr.cell? ⟨b2, o2 + k * 4 + 1, none⟩ = some (.int .i64 y.tm) := hc2 k y hy 1 _ rfl
        have m2 : wr.cell? ⟨b2, o2 + k * 4 + 2, none⟩ = some (.int .i64 y.inc) := hc2 k y hy 2 _ rfl
        have m3 : wr.cell? ⟨b2, o2 + k * 4 + 3, none⟩ = some (.bool y.reset) := hc2 k y hy 3 _ rfl
        have HX := Lib.hid hx
        have HY := Lib.hid hy
        have HJL := Lib.hid hlt
        clear hc1 hc2 hx hy hb1 hb2
        have hnn := hnq x y
        have HXY : Hid (gnE x y = true ↔ x = y) := Lib.hid gnE_iff
        clear hnq
        cases hb : gnE x y with
        | true =>
          rw [hb] at hnn
          go_wp2
          go_quiet (fail)
          go_wp2
          go_roundw
          case rel =>
            refine ⟨k + 1, by go_num, HJL.out, Lib.hid ⟨?_, HTD.out _⟩⟩
            rw [List.take_add_one, List.take_add_one, HX.out, HY.out, HQ.out.1, HXY.out.1 hb]
          case measure => simp [intOf] <;> omega
        | false =>
          rw [hb] at hnn
          have HD : Hid (decide (l = m) = false) := Lib.hid (by
            simp
            intro e
            have h1 := HX.out
            rw [e, HY.out] at h1
            cases h1
            rw [HXY.out.2 rfl] at hb
            cases hb)
          go_wp2
          go_quiet (fail)
          go_wp2
          go_ret
          exact ⟨by rw [HD.out]; rfl, HTD.out _⟩
      · have hge : decide ((k : Int) < (l.length : Int)) = false := by simp; omega
        have HD : Hid (decide (l = m) = true) := Lib.hid (by
          have h1 := HQ.out.1
          rw [List.take_of_length_le (by omega), List.take_of_length_le (by have := HNE.out; omega)] at h1
          simpa using h1)
        go_wp2
        go_ret
        exact ⟨by rw [HD.out]; rfl, HQ.out.2⟩
  · have hb : ((l.length : Int) != (m.length : Int)) = true := by simp; omega
    have hd : decide (l = m) = false := by simp; exact fun e => hne (by rw [e])
    rw [hd]
    clear hr1 hr2 hne hl hd
    go_enter Try.func27, Try.ntmps27
    go_wp2
    go_ret
    exact ⟨rfl, Turns.refl _ _⟩
end Go.Proofs.Ytcjmieofmogeiaa

namespace Go.Proofs.Ytcjmieofmogeiaa
open Go.RowKit

set_option maxRecDepth 100000 in
set_option maxHeartbeats 4000000 in
theorem rcopyM_any {B : Nat} {w : World} {rm rs : Nat} {T : Tl} {v : Value} {most : Nat} {L : List One} (h : RefM B w rm T rs v most L) (hl : L.length ≤ 90000) :
    Calls Try.prog 20 #[.pointer (some ⟨rm, 0, none⟩)] w fun e w' => (∃ r2 s2 v2, e = .returned (.pointer (some ⟨r2, 0, none⟩)) ∧ RefM w.heap.size w' r2 T s2 v2 most L) ∧ Turns [] w w' := by
  have HC : Hid (∀ W, Turns [] w W → W.cell? ⟨rm, 0, none⟩ = some (.pointer (some ⟨rs, 0, none⟩)) ∧ W.cell? ⟨rm, 1, none⟩ = some (.int .i64 (T.p : Int)) ∧ W.cell? ⟨rm, 2, none⟩ = some (.int .i64 (T.a : Int)) ∧ W.cell? ⟨rm, 3, none⟩ = some (.int .i64 (T.o : Int)) ∧ W.cell? ⟨rm, 4, none⟩ = some (.int .i64 (T.t : Int)) ∧ W.cell? ⟨rm, 5, none⟩ = some (.int .i64 (T.f : Int)) ∧ W.cell? ⟨rm, 6, none⟩ = some (.int .i64 (T.g : Int)) ∧ W.cell? ⟨rm, 7, none⟩ = some (.int .i64 (T.r : Int))) := Lib.hid (fun W ht => by
    obtain ⟨c0, c1, c2, c3, c4, c5, c6, c7, _⟩ := (h.pre ht).cells
    exact ⟨c0, c1, c2, c3, c4, c5, c6, c7⟩)
  have HS := Lib.hid (fun W (ht : Turns [] w W) => rcopyS_any (h.store.pre ht) hl)
  obtain ⟨c0, c1, c2, c3, c4, c5, c6, c7⟩ := HC.out w (Turns.refl _ _)
  have HE : Hid (∀ W r2 v2, RefS w.heap.size W r2 v2 most L → w.heap.size ≤ W.heap.size → RefM w.heap.size (W.alloc (.cells #[.pointer (some ⟨r2, 0, none⟩), .int .i64 (T.p : Int), .int .i64 (T.a : Int), .int .i64 (T.o : Int), .int .i64 (T.t : Int), .int .i64 (T.f : Int), .int .i64 (T.g : Int), .int .i64 (T.r : Int)] 44)) W.heap.size T r2 v2 most L) := Lib.hid (fun W r2 v2 hr hs => ⟨heap_alloc_new W _, hr.pre (Turns.alloc _ _), hs, fun hm => by have := (hr.foot' _ hm).2; omega⟩)
  have HD : Hid (Turns [] w w.drew) := Lib.hid (Turns.refl [] w).drew
  have hd0 := HC.out w (Turns.refl _ _)
  clear h hl
  go_enter Try.func20, Try.ntmps20
  go_wp2_with fail
  refine wp_region_noPanic ?_
  go_region_held (fun w' => w'.cell? ⟨rm, 0, none⟩ = some (.pointer (some ⟨rs, 0, none⟩)) ∧ w'.cell? ⟨rm, 1, none⟩ = some (.int .i64 (T.p : Int)) ∧ w'.cell? ⟨rm, 2, none⟩ = some (.int .i64 (T.a : Int)) ∧ w'.cell? ⟨rm, 3, none⟩ = some (.int .i64 (T.o : Int)) ∧ w'.cell? ⟨rm, 4, none⟩ = some (.int .i64 (T.t : Int)) ∧ w'.cell? ⟨rm, 5, none⟩ = some (.int .i64 (T.f : Int)) ∧ w'.cell? ⟨rm, 6, none⟩ = some (.int .i64 (T.g : Int)) ∧ w'.cell? ⟨rm, 7, none⟩ = some (.int .i64 (T.r : Int))) (first | exact hd0 | exact hd1 | exact HC.out _ (HD.out.then (HT1.out.then (Turns.alloc _ _))) | assumption) ((go_at_call 33; refine (HS.out _ (by first | exact Turns.refl _ _ | exact (Turns.refl _ _).drew)).mono ?_; rintro e w1 ⟨⟨r2, v2, rfl, hr2⟩, ht2⟩; have HT1 := Lib.hid ht2; have HR1 := Lib.hid hr2; have hd1 := HC.out w1 (HD.out.then ht2); clear hr2 ht2))
  all_goals
    refine NoPanic.normal ?_
    go_wp2
    go_ret
    exact ⟨⟨_, _, _, rfl, HE.out _ _ _ HR1.out HT1.out.size⟩, HD.out.then (HT1.out.then (Turns.alloc _ _))⟩
set_option maxRecDepth 100000 in
set_option maxHeartbeats 4000000 in
theorem ralikeM_any {B1 B2 : Nat} {w : World} {r1 r2 s1 s2 : Nat} {T1 T2 : Tl} {v1 v2 : Value} {most1 most2 : Nat} {L1 L2 : List One} (h1 : RefM B1 w r1 T1 s1 v1 most1 L1) (h2 : RefM B2 w r2 T2 s2 v2 most2 L2) (hl : L1.length ≤ 90000) (hl2 : L2.length ≤ 90000) :
    Calls Try.prog 22 #[.pointer (some ⟨r1, 0, none⟩), .pointer (some ⟨r2, 0, none⟩)] w fun e w' => e = .returned (.bool (decide (T1 = T2 ∧ most1 = most2 ∧ L1 = L2))) ∧ Turns [] w w' := by
  obtain ⟨c0, c1, c2, c3, c4, c5, c6, c7, -⟩ := h1.cells
  obtain ⟨d0, d1, d2, d3, d4, d5, d6, d7, -⟩ := h2.cells
  have HS := Lib.hid (fun W (ht : Turns [] w W) => ralike_any (h1.store.pre ht) (h2.store.pre ht) hl hl2)
  have HC : Hid (∀ W, Turns [] w W → W.cell? ⟨r1, 0, none⟩ = some (.pointer (some ⟨s1, 0, none⟩)) ∧ W.cell? ⟨r1, 1, none⟩ = some (.int .i64 (T1.p : Int)) ∧ W.cell? ⟨r1, 2, none⟩ = some (.int .i64 (T1.a : Int)) ∧ W.cell? ⟨r1, 3, none⟩ = some (.int .i64 (T1.o : Int)) ∧ W.cell? ⟨r1, 4, none⟩ = some (.int .i64 (T1.t : Int)) ∧ W.cell? ⟨r1, 5, none⟩ = some (.int .i64 (T1.f : Int)) ∧ W.cell? ⟨r1, 6, none⟩ = some (.int .i64 (T1.g : Int)) ∧ W.cell? ⟨r1, 7, none⟩ = some (.int .i64 (T1.r : Int)) ∧ W.cell? ⟨r2, 0, none⟩ = some (.pointer (some ⟨s2, 0, none⟩)) ∧ W.cell? ⟨r2, 1, none⟩ = some (.int .i64 (T2.p : Int)) ∧ W.cell? ⟨r2, 2, none⟩ = some (.int .i64 (T2.a : Int)) ∧ W.cell? ⟨r2, 3, none⟩ = some (.int .i64 (T2.o : Int)) ∧ W.cell? ⟨r2, 4, none⟩ = some (.int .i64 (T2.t : Int)) ∧ W.cell? ⟨r2, 5, none⟩ = some (.int .i64 (T2.f : Int)) ∧ W.cell? ⟨r2, 6, none⟩ = some (.int .i64 (T2.g : Int)) ∧ W.cell? ⟨r2, 7, none⟩ = some (.int .i64 (T2.r : Int))) := Lib.hid (fun W ht => by
    obtain ⟨a0, a1, a2, a3, a4, a5, a6, a7, -⟩ := (h1.pre ht).cells
    obtain ⟨b0, b1, b2, b3, b4, b5, b6, b7, -⟩ := (h2.pre ht).cells
    exact ⟨a0, a1, a2, a3, a4, a5, a6, a7, b0, b1, b2, b3, b4, b5, b6, b7⟩)
  have hd0 := HC.out w (Turns.refl _ _)
  have hgd := tl_guard
  have hnq := fun W => tl_eql T1 T2 W
  unfold Tl.val' at hnq
  have HD : Hid (Turns [] w w.drew) := Lib.hid (Turns.refl [] w).drew
  clear h1 h2 hl hl2
  by_cases he : T1 = T2
  · have hE : tlE T1 T2 = true := tlE_iff.2 he
    have HDE : Hid (decide (T1 = T2 ∧ most1 = most2 ∧ L1 = L2) = decide (most1 = most2 ∧ L1 = L2)) := Lib.hid (by simp [he])
    generalize decide (most1 = most2 ∧ L1 = L2) = al at HS HDE
    rw [hE] at hnq
    clear he hE
    go_enter Try.func22, Try.ntmps22
    go_wp2_with fail
    refine wp_region_noPanic ?_
    go_region_held (fun w' => w'.cell? ⟨r1, 0, none⟩ = some (.pointer (some ⟨s1, 0, none⟩)) ∧ w'.cell? ⟨r1, 1, none⟩ = some (.int .i64 (T1.p : Int)) ∧ w'.cell? ⟨r1, 2, none⟩ = some (.int .i64 (T1.a : Int)) ∧ w'.cell? ⟨r1, 3, none⟩ = some (.int .i64 (T1.o : Int)) ∧ w'.cell? ⟨r1, 4, none⟩ = some (.int .i64 (T1.t : Int)) ∧ w'.cell? ⟨r1, 5, none⟩ = some (.int .i64 (T1.f : Int)) ∧ w'.cell? ⟨r1, 6, none⟩ = some (.int .i64 (T1.g : Int)) ∧ w'.cell? ⟨r1, 7, none⟩ = some (.int .i64 (T1.r : Int)) ∧ w'.cell? ⟨r2, 0, none⟩ = some (.pointer (some ⟨s2, 0, none⟩)) ∧ w'.cell? ⟨r2, 1, none⟩ = some (.int .i64 (T2.p : Int)) ∧ w'.cell? ⟨r2, 2, none⟩ = some (.int .i64 (T2.a : Int)) ∧ w'.cell? ⟨r2, 3, none⟩ = some (.int .i64 (T2.o : Int)) ∧ w'.cell? ⟨r2, 4, none⟩ = some (.int .i64 (T2.t : Int)) ∧ w'.cell? ⟨r2, 5, none⟩ = some (.int .i64 (T2.f : Int)) ∧ w'.cell? ⟨r2, 6, none⟩ = some (.int .i64 (T2.g : Int)) ∧ w'.cell? ⟨r2, 7, none⟩ = some (.int .i64 (T2.r : Int))) (first | exact hd0 | exact hd1 | assumption) ((go_at_call 35; refine (HS.out _ (by first | exact Turns.refl _ _ | exact (Turns.refl _ _).drew)).mono ?_; rintro e w1 ⟨rfl, ht2⟩; have HT1 := Lib.hid ht2; have hd1 := HC.out w1 (HD.out.then ht2); clear ht2))
    all_goals
      refine NoPanic.normal ?_
      go_wp2
      go_ret
      exact ⟨by rw [HDE.out]; rfl, HD.out.then HT1.out⟩
  · have hE : tlE T1 T2 = false := by
      cases h : tlE T1 T2 with
      | false => rfl
      | true => exact absurd (tlE_iff.1 h) he
    have HDE : Hid (decide (T1 = T2 ∧ most1 = most2 ∧ L1 = L2) = false) := Lib.hid (by simp [he])
    have HDN := Lib.hid (fun n => (Turns.refl [] w).drewN n)
    rw [hE] at hnq
    clear he hE HS hd0
    go_enter Try.func22, Try.ntmps22
    go_wp2_with fail
    go_quiet (fail)
    go_wp2
    go_ret
    exact ⟨by rw [HDE.out]; rfl, HDN.out _⟩
end Go.Proofs.Ytcjmieofmogeiaa
