/- The program's Live, liveOf: going over its map in any order. -/
import Derived.Test.YtadndefbdofodaaSrGet
namespace Go.Proofs.Ytadndefbdofodaa
open Go.RowKit

abbrev ptrsM (P : PM) : ByteArray → Option Value := fun x => (P x).map fun q => .pointer (some ⟨q.1, 0, none⟩)
/-- The map holds just what the list tells. -/
structure Tells (P : PM) (L : List One) : Prop where
  ne : NamesNe One.name L
  mem : ∀ y ∈ L, ∃ g, P y.name = some (g, y.l)
  all : ∀ x q, P x = some q → ∃ y ∈ L, y.name = x ∧ y.l = q.2
set_option maxRecDepth 100000 in
set_option maxHeartbeats 1000000 in
theorem liveM_any {B : Nat} {w : World} {p b most n : Nat} {P : PM} (h : Sm B w p b most P n) {L : List One} (hL : Tells P L) (hl : L.length ≤ 90000) :
    Calls Try.prog 22 #[ptr p] w fun e w' => e = .returned (.int .i64 ((L.filter fun y => y.l.live).length : Nat)) ∧ Turns [] w w' := by
  have c1 := h.c1
  have HM := Lib.hid h.map
  have HTL := Lib.hid hL
  have HLL := Lib.hid hl
  clear h hL hl
  go_enter Try.func22, Try.ntmps22
  go_wp2_with (at_range; refine wpList_range_g nameKD rfl _ 50 rfl 71 sm_keyed Try.underlying50 pread b n _ rfl HM.out.map ?_; intro w0 hrg0 ht0 hs0)
  go_frame
  have HR0 := Lib.hid hrg0
  have HT0 := Lib.hid ht0
  clear hrg0 ht0 hs0 c1
  go_loopw [3] (fun nv wr => ∃ left cnt, RangeG nameKD pread wr b w.heap.size (ptrsM P) left cnt ∧ Hid (nv = .int .i64 (((seenL One.name left L).filter fun y => y.l.live).length : Nat) ∧ Turns [] w wr)) (fun _ wr => wr.rangeLeft b w.heap.size)
  case atStart => exact ⟨_, _, HR0.out, Lib.hid ⟨by
    rw [seenL_none fun z hz => by
      obtain ⟨g, hg⟩ := HTL.out.mem z hz
      simp [hg]]
    rfl, HT0.out⟩⟩
  case round =>
    obtain ⟨left, cnt, hrg, HQ⟩ := hrel
    have HRG := Lib.hid hrg
    clear hrg
    obtain ⟨rfl, ht1⟩ := HQ.out
    have HT1 := Lib.hid ht1
    clear ht1 HQ
    go_wp2_with (at_next; refine wpList_next_g nameKD rfl _ rfl sm_keyed pread pread_inj b w.heap.size _ left cnt rfl HRG.out ?_ ?_)
    · intro hl0
      have HL0 := Lib.hid hl0
      clear hl0
      go_wp2
      go_ret
      rw [seenL_all HL0.out]
      exact ⟨rfl, HT1.out⟩
    · intro x v w1 cnt1 hwx hlx g l hq hv hrg1 hlt hg1 hs1 hen
      subst hv
      obtain ⟨y, hy, rfl, hyl⟩ := HTL.out.all x (g, l) hq
      have HC := Lib.hid (seenL_count (nm := One.name) (fun y : One => y.l.live) HTL.out.ne hy (left := left) hlx)
      have T1 : Turns [] w w1 := HT1.out.trans hg1 fun i hi => .inr (by simp at hi; omega)
      have k1 := (HM.out.pre T1).cell hq (j := 4) (u := .bool l.live) rfl
      have k2 := k1.1
      simp only at k2
      have hyl2 : y.l.live = l.live := by rw [hyl]
      rw [← hyl2] at k2
      clear hyl2
      have HR1 := Lib.hid hrg1
      have HT2 := Lib.hid T1
      have HLT := Lib.hid hlt
      generalize hm : ((seenL One.name left L).filter fun y => y.l.live).length = m at HC ⊢
      have hmb : m ≤ 90000 := by
        have e1 := List.length_filter_le (fun y : One => y.l.live) (seenL One.name left L)
        have e2 : (seenL One.name left L).length ≤ L.length := List.length_filter_le _ _
        have := HLL.out
        omega
      simp only at hyl
      clear hrg1 hlt hg1 hs1 hyl hy k1 T1 hlx hm
      obtain ⟨lv, hlv⟩ : ∃ lv, lv = y.l.live := ⟨_, rfl⟩
      rw [← hlv] at k2 HC
      clear hlv
      have hmi : (m : Int) ≤ 90000 := by omega
      have HRL := Lib.hid (show w1.rangeLeft b w.heap.size < wr.rangeLeft b w.heap.size by rw [HR1.out.left_eq, HRG.out.left_eq]; exact HLT.out)
      cases lv with
      | true =>
        go_wp2_with fail
        exact ⟨⟨_, cnt1, HR1.out, Lib.hid ⟨by rw [HC.out]; rfl, HT2.out⟩⟩, HRL.out⟩
      | false =>
        go_wp2_with fail
        exact ⟨⟨_, cnt1, HR1.out, Lib.hid ⟨by rw [HC.out]; rfl, HT2.out⟩⟩, HRL.out⟩
theorem ite_le (z : Prop) [Decidable z] (c : Nat) : (if z then c else c + 1) ≤ c + 1 := by split <;> omega
/-- An owner's live series. -/
def mineM (owner : Int) (o : Option (Nat × Lst)) : Option Value := match o with
  | some q => if q.2.live = true ∧ q.2.own = owner then some (.pointer (some ⟨q.1, 0, none⟩)) else none
  | none => none
theorem mine_yes {owner : Int} {g : Nat} {l : Lst} (h1 : l.live = true) (h2 : l.own = owner) : mineM owner (some (g, l)) = some (.pointer (some ⟨g, 0, none⟩)) := if_pos ⟨h1, h2⟩
theorem mine_no {owner : Int} {g : Nat} {l : Lst} (h : ¬ (l.live = true ∧ l.own = owner)) : mineM owner (some (g, l)) = none := if_neg h
/-- What has been found so far: the map at bu. -/
structure LiveQ (Z wr : World) (bu : Nat) (P : PM) (owner : Int) (left : ByteArray → Bool) (cnt n : Nat) : Prop where
  got : ∃ c, MapG nameKD pread wr bu (fun x => if left x = true then none else mineM owner (P x)) c ∧ c + cnt ≤ n
  turns : Turns [bu] Z wr
theorem Sm.in_lt {B : Nat} {w : World} {p b most n : Nat} {P : PM} (h : Sm B w p b most P n) {i : Nat} (hi : MapP.In b P i) : i < w.heap.size := by
  rcases hi with rfl | ⟨x, q, hq, rfl⟩
  · exact h.map.map.lt
  · exact lt_of_block (h.map.blk x q hq).1
set_option maxRecDepth 100000 in
set_option maxHeartbeats 2000000 in
theorem liveOf_any {B : Nat} {w : World} {p b most n : Nat} {P : PM} (h : Sm B w p b most P n) (hn : n ≤ 100000) (owner : Int) :
    Calls Try.prog 25 #[ptr p, .int .i64 owner] w fun e w' => e = .returned (.map (some w.heap.size)) ∧ (∃ c, MapG nameKD pread w' w.heap.size (fun x => mineM owner (P x)) c) ∧ Turns [] w w' := by
  have hmm := @run_makeMap Try.prog
  obtain ⟨Z, hZ⟩ : ∃ Z, Z = w.alloc (.map #[] 0) := ⟨_, rfl⟩
  have hT0 : Turns [] w Z := by rw [hZ]; exact Turns.alloc _ _
  have hM : MapG nameKD pread Z w.heap.size (fun _ => none) 0 := by rw [hZ]; exact MapG.made nameKD pread w
  have HZS : Hid (Z.heap.size = w.heap.size + 1) := Lib.hid (by rw [hZ]; simp)
  have HS := Lib.hid h
  have HS0 := Lib.hid (h.pre hT0)
  have HT0 := Lib.hid hT0
  have HM := Lib.hid hM
  have hlp := h.lt
  have HNN := Lib.hid hn
  have HNU : Hid (∀ i, MapP.In b P i → i ≠ w.heap.size) := Lib.hid fun i hi => Nat.ne_of_lt (h.in_lt hi)
  have c1 := HS0.out.c1
  clear h hT0 hn hM
  go_enter Try.func25, Try.ntmps25
  go_upto_region 2 with fail
  rw [← hZ]
  clear hZ hmm
  obtain ⟨bu, hbu⟩ : ∃ bu, bu = w.heap.size := ⟨_, rfl⟩
  rw [← hbu] at HM HZS HNU ⊢
  have HBU := Lib.hid hbu
  clear hbu
  go_wp2_with (at_range; refine wpList_range_g nameKD rfl _ 50 rfl 71 sm_keyed Try.underlying50 pread b n _ rfl HS0.out.map.map ?_; intro w0 hrg0 ht0 hs0)
  go_frame
  have HQ0 : Hid (LiveQ Z w0 bu P owner (fun x => (ptrsM P x).isSome) n n) := Lib.hid ⟨⟨0, (HM.out.turns ht0 (by simp)).congr fun x => by
      cases hp : P x with
      | none => simp [ptrsM, hp, mineM]
      | some q => simp [ptrsM, hp], by omega⟩, ht0.mono (by simp)⟩
  have HR0 := Lib.hid hrg0
  clear hrg0 ht0 hs0 c1
  go_loopw [] (fun wr => ∃ left cnt, RangeG nameKD pread wr b Z.heap.size (ptrsM P) left cnt ∧ Hid (LiveQ Z wr bu P owner left cnt n)) (fun wr => wr.rangeLeft b Z.heap.size)
  case atStart => exact ⟨_, _, HR0.out, HQ0⟩
  case round =>
    obtain ⟨left, cnt, hrg, HQ⟩ := hrel
    have HRG := Lib.hid hrg
    clear hrg
    go_wp2_with (at_next; refine wpList_next_g nameKD rfl _ rfl sm_keyed pread pread_inj b Z.heap.size _ left cnt rfl HRG.out ?_ ?_)
    · intro hl0
      have HL0 := Lib.hid hl0
      clear hl0
      go_wp2
      go_ret
      obtain ⟨c, hc, _⟩ := HQ.out.got
      rw [← HBU.out]
      exact ⟨rfl, ⟨c, hc.congr fun x => by rw [HL0.out x, if_neg (by simp)]⟩, HT0.out.trans HQ.out.turns fun i hi => .inr (by have := HBU.out; simp at hi; omega)⟩
    · intro x v w1 cnt1 hwx hlx g l hq hv hrg1 hlt hg1 hs1 hen
      subst hv
      have hrZ : bu ≠ Z.heap.size := by have := HZS.out; omega
      have hT1 : Turns [bu] Z w1 := HQ.out.turns.trans hg1 fun i hi => .inr (by simp at hi; omega)
      have hS1 := HS0.out.turns hT1 (by have := HS.out.lt; have := HBU.out; simp; omega) (by intro i hi hin; rw [List.mem_singleton] at hi; exact HNU.out i hin hi)
      have k1 := (hS1.map.cell hq (j := 4) (u := .bool l.live) rfl).1
      have k2 := (hS1.map.cell hq (j := 5) (u := .int .i64 l.own) rfl).1
      simp only at k1 k2
      obtain ⟨c, hc, hcn⟩ := HQ.out.got
      have hc1 := hc.turns hg1 (by simpa using hrZ)
      have HR1 := Lib.hid hrg1
      have HT1 := Lib.hid hT1
      have HRL := Lib.hid (show w1.rangeLeft b Z.heap.size < wr.rangeLeft b Z.heap.size by rw [HR1.out.left_eq, HRG.out.left_eq]; exact hlt)
      have HC1 := Lib.hid hc1
      have HCN := Lib.hid (show c + cnt1 + 1 ≤ n by omega)
      have HNO : Hid (¬ (l.live = true ∧ l.own = owner) → LiveQ Z w1 bu P owner (fun y => left y && !decide (y = x)) cnt1 n) := Lib.hid fun hno => ⟨⟨c, hc1.congr fun y => by
        by_cases hy : y = x
        · subst hy
          rw [if_pos hlx, if_neg (by simp), hq, mine_no hno]
        · simp [hy], by omega⟩, hT1⟩
      have HHX := Lib.hid hwx
      have HLX := Lib.hid hlx
      have HHQ := Lib.hid hq
      clear hrg1 hlt hg1 hs1 hT1 hS1 hc hc1 hwx hlx hq hcn
      obtain ⟨lv, hlv⟩ : ∃ lv, lv = l.live := ⟨_, rfl⟩
      rw [← hlv] at k1
      have HLV := Lib.hid hlv
      clear hlv
      cases lv with
      | false =>
        go_wp2_with fail
        go_roundw
        case rel => exact ⟨_, cnt1, HR1.out, Lib.hid (HNO.out fun h => by rw [← HLV.out] at h; simp at h)⟩
        case measure => exact HRL.out
      | true =>
        by_cases ho : l.own = owner
        · have hb : (l.own == owner) = true := by simpa using ho
          have HO := Lib.hid ho
          obtain ⟨w2, hrun, hm2, htu⟩ := HC1.out.store (t := 50) (e := 71) sm_keyed Try.underlying50 (by have := HCN.out; have := HNN.out; unfold maxLen; omega) HHX.out (v := .pointer (some ⟨g, 0, none⟩)) (pread_ptr g)
          have hlb : b < w.heap.size := HS.out.map.map.lt
          have HR2 := Lib.hid (HR1.out.turns htu (by have := HBU.out; simp; omega) (by have := HZS.out; simp; omega))
          have HQ2 : Hid (LiveQ Z w2 bu P owner (fun y => left y && !decide (y = x)) cnt1 n) := Lib.hid ⟨⟨_, hm2.congr fun y => by
            by_cases hy : y = x
            · subst hy
              rw [if_pos rfl, if_neg (by simp), HHQ.out, mine_yes HLV.out.symm HO.out]
            · simp [hy], by have := HCN.out; exact Nat.le_trans (Nat.add_le_add_right (ite_le _ c) cnt1) (by omega)⟩, HT1.out.then htu⟩
          have HRL2 := Lib.hid (show w2.rangeLeft b Z.heap.size < wr.rangeLeft b Z.heap.size by rw [HR2.out.left_eq]; have := HRL.out; rwa [HR1.out.left_eq] at this)
          clear hm2 htu ho
          go_wp2_with fail
          go_roundw
          case rel => exact ⟨_, cnt1, HR2.out, HQ2⟩
          case measure => exact HRL2.out
        · have hb : (l.own == owner) = false := by simpa using ho
          have HO := Lib.hid ho
          clear ho
          go_wp2_with fail
          go_roundw
          case rel => exact ⟨_, cnt1, HR1.out, Lib.hid (HNO.out fun h => HO.out h.2)⟩
          case measure => exact HRL.out
end Go.Proofs.Ytadndefbdofodaa
