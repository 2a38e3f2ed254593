/- The program's find, in, and whether a state is one of these. -/
import Derived.Test.YtlelemjmknbnaaaNetMem
namespace Go.Proofs.Ytlelemjmknbnaaa
open Go.RowKit

theorem keyed : Go.Maps.Keyed Try.prog 3 := Go.Maps.int_keyed Try.underlying3
theorem zeroConn (w : World) : (zeroValue 62).run Try.prog w = .ok (.pointer none) w := by kernel_rfl
theorem NetAt.c0 {B : Nat} {w : World} {bn bm : Nat} {most last : Int} {L : List NE} (h : NetAt B w bn bm most last L) : w.cell? ⟨bn, 0, none⟩ = some (.int .i64 most) := by simp [World.cell?, h.head]
theorem NetAt.c1 {B : Nat} {w : World} {bn bm : Nat} {most last : Int} {L : List NE} (h : NetAt B w bn bm most last L) : w.cell? ⟨bn, 1, none⟩ = some (.int .i64 last) := by simp [World.cell?, h.head]
theorem NetAt.c2 {B : Nat} {w : World} {bn bm : Nat} {most last : Int} {L : List NE} (h : NetAt B w bn bm most last L) : w.cell? ⟨bn, 2, none⟩ = some (.map (some bm)) := by simp [World.cell?, h.head]
theorem NetAt.free {B : Nat} {w : World} {bn bm : Nat} {most last : Int} {L : List NE} (h : NetAt B w bn bm most last L) (j : Nat) : w.frozen? ⟨bn, j, none⟩ = false := by simp [World.frozen?, h.head]
def findV (o : Option NE) : Value := match o with
  | some x => .tuple #[.pointer (some ⟨x.2.b, 0, none⟩), .int .i64 0]
  | none => .tuple #[.pointer none, .int .i64 8]
set_option maxRecDepth 100000 in
set_option maxHeartbeats 2000000 in
theorem find_any {B : Nat} {w : World} {bn bm : Nat} {most last : Int} {L : List NE} (h : NetAt B w bn bm most last L) (k : Int) (hk : (Lit.int .i64 k).wf = true) :
    Calls Try.prog 46 #[.pointer (some ⟨bn, 0, none⟩), .int .i64 k] w fun e w' => e = .returned (findV (getE L k)) ∧ w = w' := by
  have c2 := h.c2
  obtain ⟨n, D, ho, _, hks⟩ := h.hmap
  have HO := Lib.hid ho
  have HH := Lib.hid (hks.has k)
  have HA := Lib.hid (hks.at_ k)
  have HK := Lib.hid (Go.Maps.keyOf_int_mk Try.underlying3 hk : Go.keyOf Try.prog 3 (.int .i64 k) = some (.int .i64 k))
  clear h ho hks hk
  cases hg : getE L k with
  | some x =>
    rw [hg] at HH HA
    have HX := Lib.hid (fun v ps (hv : pelem v = some (D.atKey (.int .i64 k) (.lit (.bool false)), ps)) => (show v = .pointer (some ⟨x.2.b, 0, none⟩) from by
      rw [HA.out] at hv
      exact pelem_ptr hv))
    have HH2 := Lib.hid (show Maps.has D (.int .i64 k) = true from HH.out)
    clear hg
    go_enter Try.func46, Try.ntmps46
    go_wp2_with (at_lookup; refine wpList_lookup_own_ok _ rfl _ _ 45 rfl 3 62 keyed Try.underlying45 pelem (zeroConn _) (.lit (.bool false)) [] rfl bm n D rfl HO.out _ _ rfl HK.out ?_; intro v ps hv; obtain rfl := HX.out v ps hv; rw [HH2.out]; clear hv)
    go_ret2
    exact ⟨rfl, rfl⟩
  | none =>
    rw [hg] at HH HA
    have HX := Lib.hid (fun v ps (hv : pelem v = some (D.atKey (.int .i64 k) (.lit (.bool false)), ps)) => (show v = .pointer none from by
      rw [HA.out] at hv
      exact pelem_nil hv))
    have HH2 := Lib.hid (show Maps.has D (.int .i64 k) = false from HH.out)
    clear hg
    go_enter Try.func46, Try.ntmps46
    go_wp2_with (at_lookup; refine wpList_lookup_own_ok _ rfl _ _ 45 rfl 3 62 keyed Try.underlying45 pelem (zeroConn _) (.lit (.bool false)) [] rfl bm n D rfl HO.out _ _ rfl HK.out ?_; intro v ps hv; obtain rfl := HX.out v ps hv; rw [HH2.out]; clear hv)
    go_ret2
    exact ⟨rfl, rfl⟩
/-- The slice of states at ⟨b, 0⟩ holds these. -/
def StAt (w : World) (b : Nat) (zs : List Int) : Prop := ∀ (j : Nat) (z : Int), zs[j]? = some z → w.cell? ⟨b, j, none⟩ = some (.int .i64 z)
def IdxZ (x : Int) (l : List Int) (i : Int) : Prop := (x ∈ l ∧ 0 ≤ i ∧ i ≤ 1000) ∨ (x ∉ l ∧ i = -1)
set_option maxRecDepth 100000 in
set_option maxHeartbeats 2000000 in
theorem index_st (b cap : Nat) (zs : List Int) (x : Int) (w : World) (hl : zs.length ≤ 1000) (hr : StAt w b zs) :
    Calls Try.prog 57 #[.slice (some ⟨b, 0, none⟩) zs.length cap, .int .i64 x] w fun e w' => (∃ i, e = .returned (.int .i64 i) ∧ IdxZ x zs i) ∧ w = w' := by
  have HR := Lib.hid hr
  clear hr
  go_enter Try.func57, Try.ntmps57
  go_wp2
  go_loopw [8] (fun i wr => ∃ k : Nat, k ≤ zs.length ∧ i = .int .i64 k ∧ Hid (∀ (j : Nat) (y : Int), j < k → zs[j]? = some y → y ≠ x) ∧ w = wr) (fun i _ => zs.length - (intOf i).toNat)
  case atStart => exact ⟨0, Nat.zero_le _, rfl, Lib.hid (fun j y h => by omega), rfl⟩
  case round =>
    obtain ⟨k, hk, rfl, HNE, rfl⟩ := hrel
    by_cases hlt : k < zs.length
    · obtain ⟨y, hy⟩ : ∃ y, zs[k]? = some y := ⟨_, List.getElem?_eq_getElem hlt⟩
      have hc1 := HR.out k y hy
      have hlt' : (k : Int) < (zs.length : Int) := by omega
      have hk0 : (0 : Int) ≤ (k : Int) := by omega
      by_cases he : y = x
      · have HM := Lib.hid (show x ∈ zs from he ▸ List.mem_of_getElem? hy)
        subst he
        clear hy
        go_wp2
        go_ret
        exact ⟨⟨_, rfl, .inl ⟨HM.out, by omega, by omega⟩⟩, rfl⟩
      · have he1 : (x == y) = false := by rw [beq_eq_false_iff_ne]; exact fun h => he h.symm
        have HNE1 := Lib.hid (show ∀ (j : Nat) (z : Int), j < k + 1 → zs[j]? = some z → z ≠ x from fun j z h1 h2 => by
          rcases Nat.lt_or_ge j k with h | h
          · exact HNE.out j z h h2
          · obtain rfl : j = k := by omega
            rw [hy] at h2
            cases h2
            exact he)
        clear hy he
        go_wp2
        go_roundw
        case rel => exact ⟨k + 1, by omega, by go_num, HNE1, trivial⟩
        case measure => simp [intOf] <;> omega
    · have hge : decide ((k : Int) < (zs.length : Int)) = false := by simp; omega
      have HN := Lib.hid (show x ∉ zs from fun hm => by
        obtain ⟨j, hj⟩ := List.getElem?_of_mem hm
        exact HNE.out j _ (by have := (List.getElem?_eq_some_iff.1 hj).1; omega) hj rfl)
      go_wp2
      go_ret
      exact ⟨⟨_, rfl, .inr ⟨HN.out, rfl⟩⟩, rfl⟩
theorem ret_bool' {a b : Bool} (h : a = b) : Ending.returned (.bool a) = .returned (.bool b) := by rw [h]
theorem contains_st (b cap : Nat) (zs : List Int) (x : Int) (w : World) (hl : zs.length ≤ 1000) (hr : StAt w b zs) :
    Calls Try.prog 54 #[.slice (some ⟨b, 0, none⟩) zs.length cap, .int .i64 x] w fun e w' => e = .returned (.bool (decide (x ∈ zs))) ∧ w = w' := by
  have HI := Lib.hid (index_st b cap zs x w hl hr)
  clear hr
  go_enter Try.func54, Try.ntmps54
  go_wp2_with fail
  refine (Hid.out HI).mono ?_
  rintro e w' ⟨⟨i, rfl, h⟩, rfl⟩
  rcases h with ⟨hm, h0, h1⟩ | ⟨hm, rfl⟩
  · have hd := decide_eq_true hm
    have HD := Lib.hid hd
    clear hm hd
    go_wp2
    go_ret
    exact ⟨ret_bool' HD.out.symm, rfl⟩
  · have hd := decide_eq_false hm
    have HD := Lib.hid hd
    clear hm hd
    go_wp2
    go_ret
    exact ⟨ret_bool' HD.out.symm, rfl⟩
def inV (o : Option NE) (zs : List Int) : Value := match o with
  | some x => if x.1.st ∈ zs then .tuple #[.pointer (some ⟨x.2.b, 0, none⟩), .int .i64 0] else .tuple #[.pointer none, .int .i64 7]
  | none => .tuple #[.pointer none, .int .i64 8]
theorem getE_mem {L : List NE} {k : Int} {x : NE} (h : getE L k = some x) : x ∈ L ∧ (x.1.id : Int) = k := by
  unfold getE at h
  exact ⟨List.mem_of_find?_eq_some h, by simpa using List.find?_some h⟩
set_option maxRecDepth 100000 in
set_option maxHeartbeats 2000000 in
theorem in_any {B : Nat} {w : World} {bn bm : Nat} {most last : Int} {L : List NE} (h : NetAt B w bn bm most last L) (k : Int) (hk : (Lit.int .i64 k).wf = true) (sb cap : Nat) (zs : List Int) (hl : zs.length ≤ 1000) (hs : StAt w sb zs) :
    Calls Try.prog 45 #[.pointer (some ⟨bn, 0, none⟩), .int .i64 k, .slice (some ⟨sb, 0, none⟩) zs.length cap] w fun e w' => e = .returned (inV (getE L k) zs) ∧ w = w' := by
  have HF := Lib.hid (find_any h k hk)
  cases hg : getE L k with
  | some x =>
    rw [hg] at HF
    have hx := (h.conns x (getE_mem hg).1).1
    have hst : w.cell? ⟨x.2.b, 1, none⟩ = some (.int .i64 x.1.st) := by simp [World.cell?, hx, cellsC]
    have HC := Lib.hid (contains_st sb cap zs x.1.st w hl hs)
    change Hid (Calls _ _ _ _ fun e w' => e = .returned (.tuple #[.pointer (some ⟨x.2.b, 0, none⟩), .int .i64 0]) ∧ w = w') at HF
    by_cases hm : x.1.st ∈ zs
    · rw [decide_eq_true hm] at HC
      have HV := Lib.hid (show inV (some x) zs = .tuple #[.pointer (some ⟨x.2.b, 0, none⟩), .int .i64 0] from if_pos hm)
      clear hm hg hx hs h
      go_enter Try.func45, Try.ntmps45
      go_wp2_with fail
      refine (Hid.out HF).mono ?_
      rintro e w1 ⟨rfl, rfl⟩
      go_wp2_with fail
      refine (Hid.out HC).mono ?_
      rintro e w1 ⟨rfl, rfl⟩
      go_wp2
      go_ret2
      exact ⟨by rw [HV.out]; rfl, rfl⟩
    · rw [decide_eq_false hm] at HC
      have HV := Lib.hid (show inV (some x) zs = .tuple #[.pointer none, .int .i64 7] from if_neg hm)
      clear hm hg hx hs h
      go_enter Try.func45, Try.ntmps45
      go_wp2_with fail
      refine (Hid.out HF).mono ?_
      rintro e w1 ⟨rfl, rfl⟩
      go_wp2_with fail
      refine (Hid.out HC).mono ?_
      rintro e w1 ⟨rfl, rfl⟩
      go_wp2
      go_ret2
      exact ⟨by rw [HV.out]; rfl, rfl⟩
  | none =>
    rw [hg] at HF
    change Hid (Calls _ _ _ _ fun e w' => e = .returned (.tuple #[.pointer none, .int .i64 8]) ∧ w = w') at HF
    clear hg hs h
    go_enter Try.func45, Try.ntmps45
    go_wp2_with fail
    refine (Hid.out HF).mono ?_
    rintro e w1 ⟨rfl, rfl⟩
    go_wp2
    go_ret2
    exact ⟨rfl, rfl⟩
end Go.Proofs.Ytlelemjmknbnaaa
