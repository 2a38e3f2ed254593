/- Slices of bytes that came in; bytes.Cut, strings.Cut, strings.Trim in lists' words; what digits tell. -/
import Derived.Test.YtlelemjmknbnaaaGreatDoorHeadSmall
import Derived.Test.YtlelemjmknbnaaaGreatDoorShelf
import Derived.Shelf.Strings.SlTrimAscii
namespace Go.Proofs.YtlelemjmknbnaaaGreatDoor
open Go.RowKit

def numsL (l : List UInt8) : List Int := l.map fun c => (c.toNat : Int)
theorem numsL_len (l : List UInt8) : (numsL l).length = l.length := List.length_map ..
theorem bytesOf_nums (l : List UInt8) : Lib.bytesOf (numsL l) = l := by
  unfold Lib.bytesOf numsL
  rw [List.map_map]
  conv => rhs; rw [← List.map_id l]
  refine List.map_congr_left fun c _ => ?_
  simp
theorem nums_range (l : List UInt8) : ∀ x ∈ numsL l, 0 ≤ x ∧ x < 256 := by
  intro x hx
  obtain ⟨c, _, rfl⟩ := List.mem_map.1 hx
  have := c.toNat_lt
  omega
theorem BReads.inn {w : World} {B : Nat} {A : Option Addr} {l : List UInt8} (h : BReads w B A l) : Lib.BytesIn w A l.length (numsL l) := by
  intro h0
  obtain ⟨b, off, rfl, _, hc⟩ := h.addr h0
  refine ⟨b, off, rfl, fun i hi => ?_⟩
  rw [hc i l[i] (List.getElem?_eq_getElem hi)]
  unfold numsL bcell
  simp [List.getD, hi]
/-- v is a slice that holds l. -/
def Sl (w : World) (B : Nat) (v : Value) (l : List UInt8) : Prop := ∃ A c, v = .slice A l.length c ∧ BReads w B A l ∧ l.length ≤ c ∧ (A = none → c = 0)
theorem Sl.below {w w' : World} {B : Nat} {v : Value} {l : List UInt8} (h : Sl w B v l) (hb : Below B w w') : Sl w' B v l := by
  obtain ⟨A, c, rfl, hr, hc, hn⟩ := h
  exact ⟨A, c, rfl, hr.below hb, hc, hn⟩
theorem Sl.keep {w w' : World} {B : Nat} {v : Value} {l : List UInt8} (h : Sl w B v l) (hB : B ≤ w.heap.size) (hb : Below w.heap.size w w') : Sl w' B v l := h.below (hb.mono hB)
theorem Sl.text {w : World} {B : Nat} {v : Value} {l : List UInt8} (h : Sl w B v l) : (convert 22 9 v).run Tryz.prog w = .ok (.string ⟨l.toArray⟩) w := by
  obtain ⟨A, c, rfl, hr, _, _⟩ := h
  exact run_bytes_text w 9 22 Tryz.underlying22 Tryz.underlying9 c hr
theorem Sl.nil (w : World) (B : Nat) : Sl w B (.slice none 0 0) [] := ⟨none, 0, rfl, .inl rfl, Nat.le_refl _, fun _ => rfl⟩
theorem BReads.take {w : World} {B : Nat} {A : Option Addr} {l : List UInt8} (h : BReads w B A l) (n : Nat) : BReads w B A (l.take n) := by
  rcases h with rfl | ⟨b, off, rfl, hb, hc⟩
  · exact .inl (by simp)
  · refine .inr ⟨b, off, rfl, hb, fun j c hj => hc j c ?_⟩
    rw [List.getElem?_take] at hj
    split at hj
    · exact hj
    · cases hj
theorem Sl.take {w : World} {B : Nat} {A : Option Addr} {l : List UInt8} {c : Nat} (hr : BReads w B A l) (hc : l.length ≤ c) (hn : A = none → c = 0) (n : Nat) (hnl : n ≤ l.length) : Sl w B (.slice A n c) (l.take n) :=
  ⟨A, c, by rw [List.length_take, Nat.min_eq_left hnl], hr.take n, by rw [List.length_take]; omega, hn⟩
theorem Sl.from {w : World} {B : Nat} {A : Option Addr} {l : List UInt8} {c : Nat} (hr : BReads w B A l) (hc : l.length ≤ c) (hn : A = none → c = 0) (j : Nat) (hj : j ≤ l.length) : Sl w B (Lib.fromV A l.length c j) (l.drop j) := by
  unfold Lib.fromV
  refine ⟨_, c - j, by rw [List.length_drop], ?_, by rw [List.length_drop]; omega, fun hA => ?_⟩
  · by_cases hcj : c = j
    · exact .inl (List.eq_nil_of_length_eq_zero (by rw [List.length_drop]; omega))
    · rw [if_neg hcj]
      rcases hr with rfl | ⟨b, off, rfl, hb, h2⟩
      · exact .inl (by simp)
      · refine .inr ⟨b, off + j, by simp [add_plain'], hb, fun i u hi => ?_⟩
        rw [List.getElem?_drop] at hi
        have := h2 (j + i) u hi
        rwa [← Nat.add_assoc] at this
  · split at hA
    · rw [‹c = j›]; omega
    · cases A with
      | none => rw [hn rfl]; omega
      | some a => simp at hA
def MX (w : World) : Prop := ∃ m, w.cell? ⟨0, 0, none⟩ = some (.int .i64 m)
theorem MX.below {w w' : World} {B : Nat} (h : MX w) (hB : 0 < B) (hb : Below B w w') : MX w' := by
  obtain ⟨m, hm⟩ := h
  exact ⟨m, (hb.cell (p := ⟨0, 0, none⟩) hB).trans hm⟩
theorem below_drewN {B : Nat} (w : World) (q : Nat) : Below B w (w.drewN q) := ⟨rfl, rfl, rfl, Nat.le_refl _, fun _ _ => rfl⟩
theorem cut_ok {w : World} {B : Nat} {v s : Value} {l : List UInt8} (h : Sl w B v l) (hl : l.length ≤ 1000000) {B2 : Nat} (hs : Sl w B2 s tEnd) (hm : MX w) :
    Calls Tryz.prog 39 #[v, s] w fun e w' => ∃ a r b, e = .returned (.tuple #[a, r, .bool b]) ∧ Sl w' B a (cutL l) ∧ Sl w' B r (cutR l) ∧ Below w.heap.size w w' := by
  obtain ⟨A, c, rfl, hr, hc, hn⟩ := h
  obtain ⟨A2, c2, rfl, hr2, hc2, hn2⟩ := hs
  obtain ⟨m, hm⟩ := hm
  have hx := numsL_len l
  refine (Tryz.bytes_Cut_all A A2 l.length c tEnd.length c2 (numsL l) (numsL tEnd) m w hx (numsL_len _) (nums_range l) (nums_range _) hr.inn hr2.inn hn hc (by omega) (by decide) hm).mono fun e w' hh => ?_
  obtain ⟨he, q, rfl⟩ := hh
  rw [he, bytesOf_nums, bytesOf_nums]
  unfold Lib.cutV cutL cutR
  have hroom := Lib.index_room l tEnd
  have e2 : tEnd.length = 2 := rfl
  rw [e2] at hroom ⊢
  by_cases h0 : 0 ≤ Lib.index l tEnd
  · have h1 := hroom h0
    rw [if_pos h0, if_pos h0, if_pos h0]
    exact ⟨_, _, _, rfl, (Sl.take hr hc hn _ (by omega)).below (below_drewN w q), (Sl.from hr hc hn _ (by omega)).below (below_drewN w q), below_drewN w q⟩
  · rw [if_neg h0, if_neg h0, if_neg h0]
    exact ⟨_, _, _, rfl, Sl.below ⟨A, c, rfl, hr, hc, hn⟩ (below_drewN w q), Sl.nil _ _, below_drewN w q⟩
theorem lit_reads (w : World) (t : TypeId) (l : List UInt8) (fr : Nat × Nat) : BReads (w.alloc (.cells (l.map bcell).toArray t fr)) (w.heap.size + 1) (some ⟨w.heap.size, 0, none⟩) l := by
  refine .inr ⟨w.heap.size, 0, rfl, Nat.lt_succ_self _, fun j c hj => ?_⟩
  rw [cell_of_row _ w.heap.size (0 + j) _ t fr (heap_alloc_new w _), List.getElem?_toArray, Nat.zero_add, List.getElem?_map, hj]
  rfl
theorem sl_lit (w : World) (t : TypeId) (l : List UInt8) (C : Array Value) (n : Nat) (fr : Nat × Nat) (hC : C = (l.map bcell).toArray) (hn : n = l.length) : Sl (w.alloc (.cells C t fr)) (w.heap.size + 1) (.slice (some ⟨w.heap.size, 0, none⟩) n n) l := by
  subst hC hn
  exact ⟨_, _, rfl, lit_reads w t l fr, Nat.le_refl _, fun h => by cases h⟩
theorem Owned.sl {B : Nat} {w : World} {v : Value} {l : List UInt8} (h : Owned B w v l) : Sl w w.heap.size v l := by
  obtain ⟨A, cap, h1, hr, hc, _⟩ := h.reads
  refine ⟨A, cap, h1, hr, hc, fun hA => ?_⟩
  rcases h.form with ⟨h2, _⟩ | ⟨g, c, h2, _⟩
  · rw [h1] at h2
    exact (Value.slice.inj h2).2.2
  · rw [h1] at h2
    have := (Value.slice.inj h2).1
    rw [hA] at this
    cases this

theorem MX.drewN {w : World} (h : MX w) (q : Nat) : MX (w.drewN q) := h
theorem MX.lt {w : World} (h : MX w) : 0 < w.heap.size := by
  obtain ⟨m, hm⟩ := h
  simpa using World.block_lt_of_cell? w ⟨0, 0, none⟩ hm
theorem MX.grown {w w' : World} (h : MX w) (hb : Below w.heap.size w w') : MX w' := by
  have hl := h.lt
  obtain ⟨m, hm⟩ := h
  exact ⟨m, (hb.cell (p := ⟨0, 0, none⟩) hl).trans hm⟩
/-- strings.Cut. -/
theorem cutS_any (s sep : ByteArray) (w : World) (hs : s.size ≤ 1000000) (hm : MX w) :
    Calls Tryz.prog 52 #[.string s, .string sep] w fun e w' => e = .returned (.tuple #[.string ⟨(Lib.cut s.data.toList sep.data.toList).1.toArray⟩, .string ⟨(Lib.cut s.data.toList sep.data.toList).2.1.toArray⟩, .bool (Lib.cut s.data.toList sep.data.toList).2.2]) ∧ ∃ n, w' = w.drewN n := by
  obtain ⟨m, hm⟩ := hm
  exact Tryz.strings_Cut s sep m w (by omega) hm
theorem cut_len {s sep : List UInt8} : (Lib.cut s sep).1.length ≤ s.length ∧ (Lib.cut s sep).2.1.length ≤ s.length := by
  unfold Lib.cut
  split
  · simp
    omega
  · simp
/-- strings.Trim of blanks and tabs. -/
theorem trim_any (s : ByteArray) (w : World) (hs : s.size ≤ 1000000) :
    Calls Tryz.prog 56 #[.string s, .string ⟨#[32, 9]⟩] w fun e w' => e = .returned (.string ⟨(trimL s.data.toList).toArray⟩) ∧ Below w.heap.size w w' :=
  Any.strings_Trim_laid Tryz.lays160 (by kernel_rfl) s ⟨#[32, 9]⟩ w (by omega) (by decide) (Go.Proofs.ascii_of_all (by decide))
theorem numL_snoc (l : List UInt8) (c : UInt8) : numL (l ++ [c]) = 10 * numL l + (c.toNat - 48) := by
  unfold numL
  rw [List.foldl_append]
  rfl
theorem numL_take {l : List UInt8} {k : Nat} {c : UInt8} (h : l[k]? = some c) : numL (l.take (k + 1)) = 10 * numL (l.take k) + (c.toNat - 48) := by
  rw [List.take_add_one, h, Option.toList_some, numL_snoc]
theorem numL_lt (l : List UInt8) (h : ∀ c ∈ l, digB c = true) : numL l < 10 ^ l.length := by
  suffices ∀ (r : List UInt8) (n m : Nat), (∀ c ∈ r, digB c = true) → n < 10 ^ m → r.foldl (fun n c => 10 * n + (c.toNat - 48)) n < 10 ^ (m + r.length) by
    have := this l 0 0 h (by decide)
    rw [Nat.zero_add] at this
    exact this
  intro r
  induction r with
  | nil => intro n m _ h; exact h
  | cons c r ih =>
    intro n m hc hn
    rw [List.foldl_cons, List.length_cons, show m + (r.length + 1) = m + 1 + r.length by omega]
    refine ih _ _ (fun d hd => hc d (List.mem_cons_of_mem _ hd)) ?_
    have h1 := hc c (List.mem_cons_self ..)
    unfold digB at h1
    rw [decide_eq_true_eq] at h1
    rw [Nat.pow_succ]
    omega
theorem numL_small {l : List UInt8} (h : isNum 0 15 l = true) (k : Nat) : numL (l.take k) ≤ 1000000000000000 := by
  unfold isNum at h
  rw [Bool.and_eq_true, Bool.and_eq_true, decide_eq_true_eq, decide_eq_true_eq, List.all_eq_true] at h
  have h1 := numL_lt (l.take k) (fun c hc => h.2 c (List.mem_of_mem_take hc))
  have h2 : 10 ^ (l.take k).length ≤ 10 ^ 15 := Nat.pow_le_pow_right (by decide) (by rw [List.length_take]; omega)
  have h3 : (10 : Nat) ^ 15 = 1000000000000000 := by decide
  omega
theorem isNum_dig {l : List UInt8} (h : isNum 0 15 l = true) {k : Nat} {c : UInt8} (hc : l[k]? = some c) : 48 ≤ c.toNat ∧ c.toNat ≤ 57 := by
  unfold isNum at h
  rw [Bool.and_eq_true, List.all_eq_true] at h
  have := h.2 c (List.mem_of_getElem? hc)
  unfold digB at this
  rwa [decide_eq_true_eq] at this
theorem isNum_more {a b : Nat} {l : List UInt8} (h : isNum a b l = true) (hb : b ≤ 15) : isNum 0 15 l = true := by
  unfold isNum at h ⊢
  rw [Bool.and_eq_true, Bool.and_eq_true, decide_eq_true_eq, decide_eq_true_eq] at h ⊢
  exact ⟨⟨Nat.zero_le _, by omega⟩, h.2⟩
set_option maxRecDepth 100000 in
set_option maxHeartbeats 2000000 in
theorem number_any (s : ByteArray) (w : World) (hs : isNum 0 15 s.data.toList = true) :
    Calls Tryz.prog 45 #[.string s] w fun e w' => e = .returned (.int .i64 (numL s.data.toList : Int)) ∧ w = w' := by
  have hz : s.size ≤ 15 := by
    have h := hs
    unfold isNum at h
    rw [Bool.and_eq_true, Bool.and_eq_true, decide_eq_true_eq, decide_eq_true_eq, ← Lib.size_eq] at h
    exact h.1.2
  have HS := Lib.hid hs
  clear hs
  go_enter Tryz.func45, Tryz.ntmps45
  go_wp2
  go_loop [3, 7] (fun n i => ∃ k m : Nat, k ≤ s.size ∧ i = .int .i64 k ∧ n = .int .i64 m ∧ Hid (m = numL (s.data.toList.take k))) (fun _ i => s.size - (intOf i).toNat)
  case atStart => exact ⟨0, 0, Nat.zero_le _, rfl, rfl, Lib.hid rfl⟩
  case round =>
    obtain ⟨k, m, hk, rfl, rfl, HM⟩ := hrel
    by_cases hlt : k < s.size
    · obtain ⟨c, hc, hcl⟩ := data_at s k hlt
      have hlt' : (k : Int) < (s.size : Int) := by omega
      have HT := Lib.hid (numL_take hcl)
      have hd := isNum_dig HS.out hcl
      have hmb : m ≤ 1000000000000000 := by rw [HM.out]; exact numL_small HS.out k
      clear hcl
      obtain ⟨n, hn⟩ : ∃ n : Int, n = (c.toNat : Int) := ⟨_, rfl⟩
      have HN := Lib.hid hn
      have hq0 : 48 ≤ n := by omega
      have hq : n ≤ 57 := by omega
      have hcn : (c.toNat : Int) = n := hn.symm
      clear hn hd
      go_wp2
      go_round
      case rel => exact ⟨k + 1, 10 * m + (c.toNat - 48), by omega, by go_num, by go_num, Lib.hid (by rw [HT.out, HM.out])⟩
      case measure => simp [intOf] <;> omega
    · have hge : decide ((k : Int) < (s.size : Int)) = false := by simp; omega
      have HE := Lib.hid (show m = numL s.data.toList by rw [HM.out, List.take_of_length_le (by rw [← Lib.size_eq]; omega)])
      go_wp2
      go_ret
      exact ⟨by rw [HE.out]; rfl, rfl⟩
end Go.Proofs.YtlelemjmknbnaaaGreatDoor
