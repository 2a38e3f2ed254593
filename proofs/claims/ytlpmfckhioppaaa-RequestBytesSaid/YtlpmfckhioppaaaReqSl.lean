/- Slices of bytes that came in, or are parts of such: bytes.Cut, TrimPrefix, TrimSuffix, HasPrefix in lists' words. -/
import Derived.Test.YtlpmfckhioppaaaReqEach
import Derived.Test.YtlpmfckhioppaaaShelf
namespace Go.Proofs.Ytlpmfckhioppaaa
open Go.RowKit

def numsL (l : List UInt8) : List Int := l.map fun c => (c.toNat : Int)
theorem numsL_len (l : List UInt8) : (numsL l).length = l.length := List.length_map ..
theorem bytesOf_nums (l : List UInt8) : Lib.bytesOf (numsL l) = l := by
  unfold Lib.bytesOf numsL
  rw [List.map_map]
  conv => rhs; rw [← List.map_id l]
  refine List.map_congr_left fun c _ => ?_
  simp
theorem nums_range (l : List UInt8) : ∀ x ∈ numsL l, 0 ≤ x ∧ x < 256 := by
  intro x hx
  obtain ⟨c, _, rfl⟩ := List.mem_map.1 hx
  have := c.toNat_lt
  omega
theorem BReads.inn {w : World} {B : Nat} {A : Option Addr} {l : List UInt8} (h : BReads w B A l) : Lib.BytesIn w A l.length (numsL l) := by
  intro h0
  obtain ⟨b, off, rfl, _, hc⟩ := h.addr h0
  refine ⟨b, off, rfl, fun i hi => ?_⟩
  rw [hc i l[i] (List.getElem?_eq_getElem hi)]
  unfold numsL bcell
  simp [List.getD, hi]
/-- v is a slice that holds l. -/
def Sl (w : World) (B : Nat) (v : Value) (l : List UInt8) : Prop := ∃ A c, v = .slice A l.length c ∧ BReads w B A l ∧ l.length ≤ c ∧ (A = none → c = 0)
theorem Sl.below {w w' : World} {B : Nat} {v : Value} {l : List UInt8} (h : Sl w B v l) (hb : Below B w w') : Sl w' B v l := by
  obtain ⟨A, c, rfl, hr, hc, hn⟩ := h
  exact ⟨A, c, rfl, hr.below hb, hc, hn⟩
theorem Sl.keep {w w' : World} {B : Nat} {v : Value} {l : List UInt8} (h : Sl w B v l) (hB : B ≤ w.heap.size) (hb : Below w.heap.size w w') : Sl w' B v l := h.below (hb.mono hB)
theorem Sl.text {w : World} {B : Nat} {v : Value} {l : List UInt8} (h : Sl w B v l) : (convert 30 9 v).run Try.prog w = .ok (.string ⟨l.toArray⟩) w := by
  obtain ⟨A, c, rfl, hr, _, _⟩ := h
  exact run_bytes_text w 9 30 Try.underlying30 Try.underlying9 c hr
theorem Sl.nil (w : World) (B : Nat) : Sl w B (.slice none 0 0) [] := ⟨none, 0, rfl, .inl rfl, Nat.le_refl _, fun _ => rfl⟩
theorem BReads.take {w : World} {B : Nat} {A : Option Addr} {l : List UInt8} (h : BReads w B A l) (n : Nat) : BReads w B A (l.take n) := by
  rcases h with rfl | ⟨b, off, rfl, hb, hc⟩
  · exact .inl (by simp)
  · refine .inr ⟨b, off, rfl, hb, fun j c hj => hc j c ?_⟩
    rw [List.getElem?_take] at hj
    split at hj
    · exact hj
    · cases hj
theorem Sl.take {w : World} {B : Nat} {A : Option Addr} {l : List UInt8} {c : Nat} (hr : BReads w B A l) (hc : l.length ≤ c) (hn : A = none → c = 0) (n : Nat) (hnl : n ≤ l.length) : Sl w B (.slice A n c) (l.take n) :=
  ⟨A, c, by rw [List.length_take, Nat.min_eq_left hnl], hr.take n, by rw [List.length_take]; omega, hn⟩
theorem Sl.from {w : World} {B : Nat} {A : Option Addr} {l : List UInt8} {c : Nat} (hr : BReads w B A l) (hc : l.length ≤ c) (hn : A = none → c = 0) (j : Nat) (hj : j ≤ l.length) : Sl w B (Lib.fromV A l.length c j) (l.drop j) := by
  unfold Lib.fromV
  refine ⟨_, c - j, by rw [List.length_drop], ?_, by rw [List.length_drop]; omega, fun hA => ?_⟩
  · by_cases hcj : c = j
    · exact .inl (List.eq_nil_of_length_eq_zero (by rw [List.length_drop]; omega))
    · rw [if_neg hcj]
      rcases hr with rfl | ⟨b, off, rfl, hb, h2⟩
      · exact .inl (by simp)
      · refine .inr ⟨b, off + j, by simp [add_plain'], hb, fun i u hi => ?_⟩
        rw [List.getElem?_drop] at hi
        have := h2 (j + i) u hi
        rwa [← Nat.add_assoc] at this
  · split at hA
    · rw [‹c = j›]; omega
    · cases A with
      | none => rw [hn rfl]; omega
      | some a => simp at hA
def MX (w : World) : Prop := ∃ m, w.cell? ⟨0, 0, none⟩ = some (.int .i64 m)
theorem MX.below {w w' : World} {B : Nat} (h : MX w) (hB : 0 < B) (hb : Below B w w') : MX w' := by
  obtain ⟨m, hm⟩ := h
  exact ⟨m, (hb.cell (p := ⟨0, 0, none⟩) hB).trans hm⟩
theorem below_drewN {B : Nat} (w : World) (q : Nat) : Below B w (w.drewN q) := ⟨rfl, rfl, rfl, Nat.le_refl _, fun _ _ => rfl⟩
theorem cut_ok {w : World} {B : Nat} {v s : Value} {l : List UInt8} (h : Sl w B v l) (hl : l.length ≤ 1000000) {B2 : Nat} (hs : Sl w B2 s tEnd) (hm : MX w) :
    Calls Try.prog 75 #[v, s] w fun e w' => ∃ a r b, e = .returned (.tuple #[a, r, .bool b]) ∧ Sl w' B a (cutL l) ∧ Sl w' B r (cutR l) ∧ Below w.heap.size w w' := by
  obtain ⟨A, c, rfl, hr, hc, hn⟩ := h
  obtain ⟨A2, c2, rfl, hr2, hc2, hn2⟩ := hs
  obtain ⟨m, hm⟩ := hm
  have hx := numsL_len l
  refine (Try.bytes_Cut_all A A2 l.length c tEnd.length c2 (numsL l) (numsL tEnd) m w hx (numsL_len _) (nums_range l) (nums_range _) hr.inn hr2.inn hn hc (by omega) (by decide) hm).mono fun e w' hh => ?_
  obtain ⟨he, q, rfl⟩ := hh
  rw [he, bytesOf_nums, bytesOf_nums]
  unfold Lib.cutV cutL cutR
  have hroom := Lib.index_room l tEnd
  have e2 : tEnd.length = 2 := rfl
  rw [e2] at hroom ⊢
  by_cases h0 : 0 ≤ Lib.index l tEnd
  · have h1 := hroom h0
    rw [if_pos h0, if_pos h0, if_pos h0]
    exact ⟨_, _, _, rfl, (Sl.take hr hc hn _ (by omega)).below (below_drewN w q), (Sl.from hr hc hn _ (by omega)).below (below_drewN w q), below_drewN w q⟩
  · rw [if_neg h0, if_neg h0, if_neg h0]
    exact ⟨_, _, _, rfl, Sl.below ⟨A, c, rfl, hr, hc, hn⟩ (below_drewN w q), Sl.nil _ _, below_drewN w q⟩
theorem cons_of {l : List UInt8} (h : 0 < l.length) : ∃ y r, l = y :: r := by
  cases l with
  | nil => simp at h
  | cons y r => exact ⟨y, r, rfl⟩
theorem trimPV {w : World} {B : Nat} {A : Option Addr} {l pre : List UInt8} (c : Nat) (hr : BReads w B A l) (h0 : 0 < pre.length) :
    Lib.trimPrefixV A l.length c (numsL l) (numsL pre) = if pre.isPrefixOf l = true then Lib.fromV A l.length c pre.length else .slice A l.length c := by
  obtain ⟨y, r, rfl⟩ := cons_of h0
  have hb : ∀ b off, Lib.trimPrefixV (some ⟨b, off, none⟩) l.length c (numsL l) (numsL (y :: r)) = Lib.bytesTrimPrefix b off l.length c (numsL l) (numsL (y :: r)) := fun _ _ => rfl
  rcases hr with rfl | ⟨b, off, rfl, _, _⟩
  · rw [if_neg (by simp)]
    cases A with
    | none => rfl
    | some a =>
      obtain ⟨b, off, spot⟩ := a
      cases spot with
      | some _ => rfl
      | none => rfl
  · rw [hb]
    unfold Lib.bytesTrimPrefix
    rw [bytesOf_nums, bytesOf_nums, numsL_len]
    unfold Lib.hasPrefix Lib.sliceFrom Lib.fromV
    by_cases hp : (y :: r).isPrefixOf l = true
    · rw [if_pos hp, if_pos hp]
      simp [add_plain']
    · rw [if_neg hp, if_neg hp]
theorem trimSV {w : World} {B : Nat} {A : Option Addr} {l suf : List UInt8} (c : Nat) (hr : BReads w B A l) (h0 : 0 < suf.length) :
    Lib.trimSuffixV A l.length c (numsL l) (numsL suf) = if suf.isSuffixOf l = true then .slice A (l.length - suf.length) c else .slice A l.length c := by
  obtain ⟨y, r, rfl⟩ := cons_of h0
  have hb : ∀ b off, Lib.trimSuffixV (some ⟨b, off, none⟩) l.length c (numsL l) (numsL (y :: r)) = Lib.bytesTrimSuffix b off l.length c (numsL l) (numsL (y :: r)) := fun _ _ => rfl
  rcases hr with rfl | ⟨b, off, rfl, _, _⟩
  · rw [if_neg (by simp [List.isSuffixOf_iff_suffix])]
    cases A with
    | none => rfl
    | some a =>
      obtain ⟨b, off, spot⟩ := a
      cases spot with
      | some _ => rfl
      | none =>
        rw [hb]
        unfold Lib.bytesTrimSuffix
        rw [if_neg]
        · rw [bytesOf_nums, bytesOf_nums]
          unfold Lib.hasSuffix
          rw [List.isSuffixOf_iff_suffix]
          simp
  · rw [hb]
    unfold Lib.bytesTrimSuffix
    rw [bytesOf_nums, bytesOf_nums, numsL_len]
    unfold Lib.hasSuffix Lib.sliceTo
    rfl
theorem trimP_ok {w : World} {B : Nat} {v s : Value} {l pre : List UInt8} (h : Sl w B v l) {B2 : Nat} (hs : Sl w B2 s pre) (h0 : 0 < pre.length) :
    Calls Try.prog 76 #[v, s] w fun e w' => ∃ a, e = .returned a ∧ Sl w B a (trimP pre l) ∧ w' = w := by
  obtain ⟨A, c, rfl, hr, hc, hn⟩ := h
  obtain ⟨A2, c2, rfl, hr2, hc2, hn2⟩ := hs
  refine (Try.bytes_TrimPrefix_all A A2 l.length c pre.length c2 (numsL l) (numsL pre) w (numsL_len l) (numsL_len _) hc hr.inn hr2.inn).mono fun e w' hh => ⟨_, hh.1, ?_, hh.2⟩
  rw [trimPV c hr h0]
  unfold trimP
  by_cases hp : pre.isPrefixOf l = true
  · have hle := (List.isPrefixOf_iff_prefix.1 hp).length_le
    rw [if_pos hp, if_pos hp]
    exact Sl.from hr hc hn _ hle
  · rw [if_neg hp, if_neg hp]
    exact ⟨A, c, rfl, hr, hc, hn⟩
theorem trimS_ok {w : World} {B : Nat} {v s : Value} {l suf : List UInt8} (h : Sl w B v l) (hl : l.length ≤ 1000000) {B2 : Nat} (hs : Sl w B2 s suf) (h0 : 0 < suf.length) :
    Calls Try.prog 77 #[v, s] w fun e w' => ∃ a, e = .returned a ∧ Sl w B a (trimS' suf l) ∧ w' = w := by
  obtain ⟨A, c, rfl, hr, hc, hn⟩ := h
  obtain ⟨A2, c2, rfl, hr2, hc2, hn2⟩ := hs
  refine (Try.bytes_TrimSuffix_all A A2 l.length c suf.length c2 (numsL l) (numsL suf) w (numsL_len l) (numsL_len _) hc (by omega) hr.inn hr2.inn).mono fun e w' hh => ⟨_, hh.1, ?_, hh.2⟩
  rw [trimSV c hr h0]
  unfold trimS'
  by_cases hp : suf.isSuffixOf l = true
  · have hle := (List.isSuffixOf_iff_suffix.1 hp).length_le
    rw [if_pos hp, if_pos hp]
    exact Sl.take hr hc hn _ (by omega)
  · rw [if_neg hp, if_neg hp]
    exact ⟨A, c, rfl, hr, hc, hn⟩
theorem hasP_ok {w : World} {B : Nat} {v s : Value} {l pre : List UInt8} (h : Sl w B v l) {B2 : Nat} (hs : Sl w B2 s pre) :
    Calls Try.prog 78 #[v, s] w fun e w' => e = .returned (.bool (pre.isPrefixOf l)) ∧ w = w' := by
  obtain ⟨A, c, rfl, hr, hc, hn⟩ := h
  obtain ⟨A2, c2, rfl, hr2, hc2, hn2⟩ := hs
  refine (Try.bytes_HasPrefix_all A A2 l.length c pre.length c2 (numsL l) (numsL pre) w (numsL_len l) (numsL_len _) hc hr.inn hr2.inn).mono fun e w' hh => ⟨?_, hh.2.symm⟩
  rw [hh.1, bytesOf_nums, bytesOf_nums]
  rfl
/-- The program's IsPath, by strings.HasPrefix. -/
theorem mayPath_of (s : ByteArray) (b : Bool) (w : World) (hb : Hid (Lib.hasPrefix s.data.toList [47] = b)) (hs : s.size ≤ 9223372036854775807) :
    Hid (mayPath s.data.toList = (b && decide (s.size ≤ 1024) && allB pathB s.data.toList)) := by
  refine Lib.hid ?_
  unfold mayPath allB
  rw [← Lib.size_eq, ← hb.out]
  congr 2
  unfold slashB Lib.hasPrefix
  cases s.data.toList with
  | nil => rfl
  | cons c l =>
    show decide (c.toNat = 47) = ((47 : UInt8) == c && List.isPrefixOf [] l)
    rw [List.isPrefixOf_nil_left, Bool.and_true]
    have e : (c.toNat = 47) ↔ (47 : UInt8) = c := ⟨fun h => UInt8.toNat_inj.1 (by rw [h]; rfl), fun h => by rw [← h]; rfl⟩
    by_cases h : (47 : UInt8) = c
    · rw [decide_eq_true (e.2 h), ← h]; rfl
    · rw [decide_eq_false (fun x => h (e.1 x))]
      symm
      rw [beq_eq_false_iff_ne]
      exact h
set_option maxRecDepth 100000 in
set_option maxHeartbeats 2000000 in
theorem mayPath_any (s : ByteArray) (w : World) (hs : s.size ≤ 9223372036854775807) :
    Calls Try.prog 24 #[.string s] w fun e w' => e = .returned (.bool (mayPath s.data.toList)) ∧ w = w' := by
  have HE := Lib.hid (each_path s w hs)
  have HP := Lib.hid (Try.strings_HasPrefix s ⟨#[47]⟩ w)
  have HR := mayPath_of s _ w (Lib.hid rfl) hs
  change Hid (Calls _ _ _ _ fun e w' => e = .returned (.bool (Lib.hasPrefix s.data.toList [47])) ∧ w' = w) at HP
  generalize Lib.hasPrefix s.data.toList [47] = b at HP HR
  cases b with
  | false =>
    rw [Bool.false_and, Bool.false_and] at HR
    go_enter Try.func24, Try.ntmps24
    go_wp2_with (refine (Hid.out HP).mono ?_; rintro e w1 ⟨rfl, rfl⟩)
    go_ret
    exact ⟨ret_bool' HR.out.symm, rfl⟩
  | true =>
    by_cases h2 : (s.size : Int) ≤ 1024
    · rw [decide_eq_true (p := s.size ≤ 1024) (by omega), Bool.true_and, Bool.true_and] at HR
      generalize allB pathB s.data.toList = c at HE HR
      cases c
      all_goals
        go_enter Try.func24, Try.ntmps24
        go_wp2_with fail
        refine (Hid.out HP).mono ?_
        rintro e w1 ⟨rfl, rfl⟩
        go_wp2_with (refine (Hid.out HE).mono ?_; rintro e w1 ⟨rfl, rfl⟩)
        go_ret
        exact ⟨ret_bool' HR.out.symm, rfl⟩
    · have h2' : decide ((s.size : Int) ≤ 1024) = false := by simpa using h2
      rw [decide_eq_false (p := s.size ≤ 1024) (by omega), Bool.and_false, Bool.false_and] at HR
      clear h2
      go_enter Try.func24, Try.ntmps24
      go_wp2_with (refine (Hid.out HP).mono ?_; rintro e w1 ⟨rfl, rfl⟩)
      go_ret
      exact ⟨ret_bool' HR.out.symm, rfl⟩
end Go.Proofs.Ytlpmfckhioppaaa
