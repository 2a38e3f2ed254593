/- The program's values and agree. -/
import Derived.Test.YtlelemjmknbnaaaGreatDoorHeadRead
namespace Go.Proofs.YtlelemjmknbnaaaGreatDoor
open Go.RowKit

/-- The lines at p, wherever their fields lie. -/
structure Lin0 (w : World) (p : Nat) (old : Bool) (st : Nat) (v : Value) (fs : List Fld) (sz : Nat) : Prop where
  head : w.heap[p]? = some (.cells #[.bool old, .int .i64 (st : Int), v, .int .i64 (sz : Int)] 70 (0, 0))
  own : fK.Own 0 w v fs
theorem Lin0.cells {w : World} {p : Nat} {old : Bool} {st : Nat} {v : Value} {fs : List Fld} {sz : Nat} (h : Lin0 w p old st v fs sz) : w.cell? ⟨p, 0, none⟩ = some (.bool old) ∧ w.cell? ⟨p, 1, none⟩ = some (.int .i64 (st : Int)) ∧ w.cell? ⟨p, 2, none⟩ = some v ∧ w.cell? ⟨p, 3, none⟩ = some (.int .i64 (sz : Int)) ∧ ∀ j, w.frozen? ⟨p, j, none⟩ = false := by
  simp [World.cell?, World.frozen?, h.head]
theorem Lin0.below {w w' : World} {p : Nat} {old : Bool} {st : Nat} {v : Value} {fs : List Fld} {sz : Nat} (h : Lin0 w p old st v fs sz) (hb : Below w.heap.size w w') : Lin0 w' p old st v fs sz := ⟨(hb.block p (lt_of_block h.head)).trans h.head, h.own.below hb⟩
theorem valuesL_snoc {nm : List UInt8} {fs : List Fld} {k : Nat} {f : Fld} (h : fs[k]? = some f) : valuesL nm (fs.take (k + 1)) = valuesL nm (fs.take k) ++ (if f.1 = nm then [f.2] else []) := by
  unfold valuesL
  rw [List.take_add_one, h, Option.toList_some, List.filter_append, List.map_append]
  congr 1
  by_cases e : f.1 = nm
  · rw [if_pos e]; simp [e]
  · rw [if_neg e]; simp [e]
theorem valuesL_len (nm : List UInt8) (fs : List Fld) : (valuesL nm fs).length ≤ fs.length := by
  unfold valuesL
  rw [List.length_map]
  exact List.length_filter_le ..
/-- What a slice of texts holds, at each place. -/
theorem sK_at {w : World} {B : Nat} {A : Option Addr} {ls : List (List UInt8)} (h : sK.Reads w B A ls) {k : Nat} {x : List UInt8} (hx : ls[k]? = some x) : ∃ g off, A = some ⟨g, off, none⟩ ∧ g < B ∧ w.cell? ⟨g, off + k, none⟩ = some (.string ⟨x.toArray⟩) := by
  obtain ⟨g, off, rfl, hg, hc⟩ := EK.Reads.at sOk h (by have := (List.getElem?_eq_some_iff.1 hx).1; omega)
  refine ⟨g, off, rfl, hg, ?_⟩
  have := hc k x hx 0 _ rfl
  simpa [sK] using this
theorem fK_at {w : World} {B : Nat} {A : Option Addr} {fs : List Fld} (h : fK.Reads w B A fs) {k : Nat} {x : Fld} (hx : fs[k]? = some x) : ∃ g off, A = some ⟨g, off, none⟩ ∧ g < B ∧ w.cell? ⟨g, off + k * 2, none⟩ = some (.string ⟨x.1.toArray⟩) ∧ w.cell? ⟨g, off + k * 2 + 1, none⟩ = some (.string ⟨x.2.toArray⟩) := by
  obtain ⟨g, off, rfl, hg, hc⟩ := EK.Reads.at fOk h (by have := (List.getElem?_eq_some_iff.1 hx).1; omega)
  refine ⟨g, off, rfl, hg, ?_, ?_⟩
  · have := hc k x hx 0 _ rfl
    simpa [fK] using this
  · have := hc k x hx 1 _ rfl
    simpa [fK, Nat.add_assoc] using this
set_option maxRecDepth 100000 in
set_option maxHeartbeats 1000000 in
theorem values_any (nm : List UInt8) (w : World) (p : Nat) (old : Bool) (st sz : Nat) (v : Value) (fs : List Fld) (h : Lin0 w p old st v fs sz) (hfs : fs.length ≤ 64) :
    Calls Tryz.prog 42 #[.pointer (some ⟨p, 0, none⟩), .string ⟨nm.toArray⟩] w fun e w' => (∃ v', e = .returned v' ∧ sK.Own w.heap.size w' v' (valuesL nm fs)) ∧ Below w.heap.size w w' := by
  obtain ⟨-, -, hc2, -, -⟩ := h.cells
  obtain ⟨A, cap, rfl, hrd, hcap, -⟩ := h.own.reads
  have HRD := Lib.hid hrd
  obtain ⟨n, hn⟩ : ∃ n, n = fs.length := ⟨_, rfl⟩
  rw [← hn] at hc2 hcap hfs
  have HN := Lib.hid hn
  clear h hrd hn
  go_enter Tryz.func42, Tryz.ntmps42
  go_wp2
  go_loopw [5, 13] (fun vs i wr => ∃ (k : Nat) (vv : Value), vv = vs ∧ k ≤ n ∧ i = .int .i64 k ∧ Hid (sK.Own w.heap.size wr vv (valuesL nm (fs.take k))) ∧ Hid (Below w.heap.size w wr)) (fun _ i _ => n - (intOf i).toNat)
  case atStart => exact ⟨0, _, rfl, Nat.zero_le _, rfl, Lib.hid (EK.Own.nil _ _ (Nat.zero_le _)), Lib.hid (Below.refl _ _)⟩
  case round =>
    obtain ⟨k, vv, rfl, hk, rfl, HO, HB⟩ := hrel
    by_cases hlt : k < n
    · have hkl : k < fs.length := by rw [← HN.out]; exact hlt
      obtain ⟨x, hx⟩ : ∃ x, fs[k]? = some x := ⟨_, List.getElem?_eq_getElem hkl⟩
      have HSN := Lib.hid (valuesL_snoc (nm := nm) hx)
      obtain ⟨g, off, hA, hg, hx0, hx1⟩ := fK_at (HRD.out.below HB.out) hx
      subst hA
      have hlt' : (k : Int) < (n : Int) := by omega
      have HLEN := Lib.hid (show (valuesL nm (fs.take k)).length ≤ 64 by have := valuesL_len nm (fs.take k); rw [List.length_take] at this; omega)
      have hgr : g < wr.heap.size := Nat.lt_of_lt_of_le hg HB.out.size
      have hx0' : ∀ o, (wr.alloc o).cell? ⟨g, off + k * 2, none⟩ = some (.string ⟨x.1.toArray⟩) := fun o => (World.cell?_alloc_lt wr o ⟨g, _, none⟩ hgr).trans hx0
      have hx1' : ∀ o, (wr.alloc o).cell? ⟨g, off + k * 2 + 1, none⟩ = some (.string ⟨x.2.toArray⟩) := fun o => (World.cell?_alloc_lt wr o ⟨g, _, none⟩ hgr).trans hx1
      clear hx hkl hg
      by_cases hxe : x.1 = nm
      · rw [if_pos hxe] at HSN
        have bq : (x.1 == nm) = true := by simpa using hxe
        rw [hxe] at hx0 hx0'
        have HRL := Lib.hid (EK.Reads.lone sOk (W := wr.alloc (.cells #[.string ⟨nm.toArray⟩, .string ⟨x.2.toArray⟩] 105)) (p := wr.heap.size + 1) x.2 #[.string ⟨x.2.toArray⟩] 9 rfl (by simp))
        have HOA := Lib.hid (((HO.out.alloc (.cells #[.string ⟨nm.toArray⟩, .string ⟨x.2.toArray⟩] 105)).alloc (.cells #[.string ⟨x.2.toArray⟩] 9)))
        have HBA := Lib.hid ((HB.out.alloc HB.out.size (.cells #[.string ⟨nm.toArray⟩, .string ⟨x.2.toArray⟩] 105)).alloc (Nat.le_trans HB.out.size (by simp)) (.cells #[.string ⟨x.2.toArray⟩] 9))
        have HLE := Lib.hid (show (valuesL nm (fs.take k)).length + [x.2].length ≤ 100000 by have := HLEN.out; simp; omega)
        clear hxe
        go_wp2_with (at_builtin; refine EK.wpList_append (K := sK) sOk rfl (.tmp 21) (.tmp 24) rfl w.heap.size vv _ rfl HOA.out _ _ [x.2] 1 1 rfl rfl HRL.out (by simp) HLE.out HBA.out.size ?_; intro v5 w5 hown5 ht5 hf5; have HO5 := Lib.hid hown5; have HB5 := Lib.hid (HBA.out.trans (ht5.below (fun i hi => (HOA.out.foot i hi).1) HBA.out.size)); clear hown5 ht5 hf5)
        go_round
        case rel => exact ⟨k + 1, v5, rfl, by omega, by go_num, Lib.hid (by rw [HSN.out]; exact HO5.out), HB5⟩
        case measure => simp [intOf] <;> omega
      · rw [if_neg hxe, List.append_nil] at HSN
        have bq : (x.1 == nm) = false := by simpa using hxe
        go_wp2_with fail
        go_round
        case rel => exact ⟨k + 1, vv, rfl, by omega, by go_num, Lib.hid (by rw [HSN.out]; exact HO.out.alloc _), Lib.hid (HB.out.alloc HB.out.size _)⟩
        case measure => simp [intOf] <;> omega
    · have hge : decide ((k : Int) < (n : Int)) = false := by simp; omega
      have HE := Lib.hid (show valuesL nm (fs.take k) = valuesL nm fs by rw [List.take_of_length_le (by rw [← HN.out]; omega)])
      go_wp2
      go_ret
      exact ⟨⟨_, rfl, HE.out ▸ HO.out⟩, HB.out⟩
def agB (a : List UInt8) (s : List UInt8) : Bool := s == a && isNum 1 15 s
def agK (a : List UInt8) (ls : List (List UInt8)) : Bool := ls.all (agB a)
theorem agreeL_eq (ls : List (List UInt8)) : agreeL ls = agK (ls.headD []) ls := rfl
theorem agK_snoc {a : List UInt8} {ls : List (List UInt8)} {k : Nat} {x : List UInt8} (h : ls[k]? = some x) : agK a (ls.take (k + 1)) = (agK a (ls.take k) && agB a x) := by
  unfold agK
  rw [List.take_add_one, h]
  simp
theorem agK_false {a : List UInt8} {ls : List (List UInt8)} {k : Nat} {x : List UInt8} (h : ls[k]? = some x) (h1 : agB a x = false) : agK a ls = false := by
  unfold agK
  rw [List.all_eq_false]
  exact ⟨x, List.mem_of_getElem? h, by simp [h1]⟩
set_option maxRecDepth 100000 in
set_option maxHeartbeats 1000000 in
theorem agree_any {w : World} {B : Nat} {A : Option Addr} {c : Nat} {ls : List (List UInt8)} (h : sK.Reads w B A ls) (hc : ls.length ≤ c) (hl : ls.length ≤ 64) (hz : ∀ x ∈ ls, x.length ≤ 1000000) :
    Calls Tryz.prog 43 #[.slice A ls.length c] w fun e w' => e = .returned (.bool (agreeL ls)) ∧ w = w' := by
  have HRD := Lib.hid h
  have HAG := Lib.hid (agreeL_eq ls)
  obtain ⟨n, hn⟩ : ∃ n, n = ls.length := ⟨_, rfl⟩
  rw [← hn] at hc hl ⊢
  have HN := Lib.hid hn
  have HZ := Lib.hid hz
  clear h hn hz
  go_enter Tryz.func43, Tryz.ntmps43
  go_wp2
  go_loop [7] (fun i => ∃ (k : Nat), k ≤ n ∧ i = .int .i64 k ∧ Hid (agK (ls.headD []) (ls.take k) = true)) (fun i => n - (intOf i).toNat)
  case atStart => exact ⟨0, Nat.zero_le _, rfl, Lib.hid rfl⟩
  case round =>
    obtain ⟨k, hk, rfl, HK⟩ := hrel
    by_cases hlt : k < n
    · have hkl : k < ls.length := by rw [← HN.out]; exact hlt
      obtain ⟨x, hx⟩ : ∃ x, ls[k]? = some x := ⟨_, List.getElem?_eq_getElem hkl⟩
      obtain ⟨y, hy⟩ : ∃ y, ls[0]? = some y := ⟨_, List.getElem?_eq_getElem (by omega)⟩
      have HY := Lib.hid (show ls.headD [] = y by cases ls with | nil => cases hy | cons a l => simpa using hy)
      have HSN := Lib.hid (agK_snoc (a := y) hx)
      have HFA := Lib.hid (fun h1 => agK_false (a := y) hx h1)
      obtain ⟨g, off, hA, hg, hx0⟩ := sK_at HRD.out hx
      obtain ⟨g2, off2, hA2, hg2, hy0⟩ := sK_at HRD.out hy
      subst hA
      obtain ⟨rfl, rfl⟩ : g = g2 ∧ off = off2 := by injection hA2 with h; injection h with h1 h2; exact ⟨h1, h2⟩
      rw [Nat.add_zero] at hy0
      have hlt' : (k : Int) < (n : Int) := by omega
      have h0n : (0 : Int) < (n : Int) := by omega
      have HIN := Lib.hid (isNumber_any ⟨x.toArray⟩ 1 15 w (by rw [Lib.size_eq]; have := HZ.out x (List.mem_of_getElem? hx); show x.length ≤ _; omega) (by omega) (by omega))
      change Hid (Calls _ _ _ _ fun e w' => e = .returned (.bool (isNum 1 15 x)) ∧ w = w') at HIN
      clear hx hy hkl hg hg2 hA2
      by_cases hxe : x = y
      · have HAB := Lib.hid (show agB y x = isNum 1 15 x by unfold agB; rw [hxe]; simp)
        have bq : (x == y) = true := by simpa using hxe
        rw [← hxe] at hy0
        generalize isNum 1 15 x = t at HIN HAB
        clear hxe
        cases t with
        | true =>
          go_wp2_with (refine (Hid.out HIN).mono ?_; rintro e w1 ⟨rfl, rfl⟩)
          go_round
          case rel => exact ⟨k + 1, by omega, by go_num, Lib.hid (by rw [HY.out, HSN.out, ← HY.out, HK.out, HY.out, HAB.out]; rfl)⟩
          case measure => simp [intOf] <;> omega
        | false =>
          have HR := Lib.hid (show agreeL ls = false by rw [HAG.out, HY.out]; exact HFA.out HAB.out)
          go_wp2_with (refine (Hid.out HIN).mono ?_; rintro e w1 ⟨rfl, rfl⟩)
          go_ret
          exact ⟨ret_bool' HR.out.symm, rfl⟩
      · have HAB := Lib.hid (show agB y x = false by unfold agB; simp [hxe])
        have bq : (x == y) = false := by simpa using hxe
        have HR := Lib.hid (show agreeL ls = false by rw [HAG.out, HY.out]; exact HFA.out HAB.out)
        go_wp2_with fail
        go_ret
        exact ⟨ret_bool' HR.out.symm, rfl⟩
    · have hge : decide ((k : Int) < (n : Int)) = false := by simp; omega
      have HE := Lib.hid (show agreeL ls = true by rw [HAG.out, ← HK.out, List.take_of_length_le (by rw [← HN.out]; omega)])
      go_wp2
      go_ret
      exact ⟨ret_bool' HE.out.symm, rfl⟩
end Go.Proofs.YtlelemjmknbnaaaGreatDoor
