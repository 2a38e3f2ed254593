/- Bytes that are the body's as they are. -/
import Derived.Test.YtlelemjmknbnaaaGreatDoorBodyTrail
namespace Go.Proofs.YtlelemjmknbnaaaGreatDoor
open Go.RowKit

def bK : EK UInt8 := ⟨22, 5, 1, 1, .int .u8 0, fun c => [bcell c]⟩
theorem bOk : bK.Ok Tryz.prog := ⟨Tryz.underlying22, by kernel_rfl, rfl, by decide, by decide, fun _ => rfl, fun x u hu => by simp [bK] at hu; rcases hu with rfl; rfl⟩
theorem flat_b (l : List UInt8) : bK.flat l = l.map bcell := by
  induction l with
  | nil => rfl
  | cons c l ih => rw [EK.flat_cons, ih]; rfl
theorem own_b {B : Nat} {w : World} {v : Value} {l : List UInt8} : bK.Own B w v l ↔ Owned B w v l := by
  unfold EK.Own Owned
  rw [flat_b]
  exact Iff.rfl
theorem reads_b {B : Nat} {w : World} {A : Option Addr} {l : List UInt8} (h : BReads w B A l) : bK.Reads w B A l := by
  rcases h with h | ⟨b, off, h1, h2, h3⟩
  · exact .inl h
  · refine .inr ⟨b, off, h1, h2, fun j u hj => ?_⟩
    rw [flat_b, List.getElem?_map] at hj
    obtain ⟨c, hc, rfl⟩ := Option.map_eq_some_iff.1 hj
    exact h3 j c hc
theorem BReads.turns {w w' : World} {A : Option Addr} {l : List UInt8} {F : List Nat} (h : BReads w w.heap.size A l) (ht : Turns F w w') (hF : ∀ a, A = some a → a.block ∉ F) : BReads w' w'.heap.size A l := by
  rcases h with h | ⟨b, off, rfl, hb, hc⟩
  · exact .inl h
  · exact .inr ⟨b, off, rfl, Nat.lt_of_lt_of_le hb ht.size, fun j c hj => (World.cell?_of_block (a := ⟨b, off + j, none⟩) (ht.block b hb (hF _ rfl))).trans (hc j c hj)⟩
theorem BReads.lift {w w' : World} {A : Option Addr} {l : List UInt8} (h : BReads w w.heap.size A l) (ht : Turns [] w w') : BReads w' w'.heap.size A l := h.turns ht (fun _ _ => by simp)
set_option maxRecDepth 100000 in
set_option maxHeartbeats 4000000 in
theorem keep_any {B : Nat} {w : World} {p : Nat} {d : Dc} {lv bv nv : Value} (h : DecR B w p d lv bv nv) {A : Option Addr} {c : Nat} {l : List UInt8} (hr : BReads w w.heap.size A l) (hc : l.length ≤ c) (hA : ∀ a, A = some a → a.block ∉ foot p lv bv)
    (hl : d.body.length + l.length ≤ 100000) (k : Nat) (hk : k = min d.left l.length) (hlf : d.left < 9223372036854775808) (h0 : 0 < l.length) :
    Calls Tryz.prog 27 #[.pointer (some ⟨p, 0, none⟩), .slice A l.length c] w fun e w' => e = .returned (.int .i64 (k : Int)) ∧ ∃ bv', DecR B w' p { d with left := d.left - k, body := d.body ++ l.take k } lv bv' nv ∧ Turns (foot p lv bv) w w' ∧ ∀ g ∈ foot p lv bv', g ∈ foot p lv bv ∨ w.heap.size ≤ g := by
  have HD := Lib.hid h
  have hkl : k ≤ l.length := by omega
  have HB1 : Hid (∀ W, Turns [] w W → bK.Own B W bv d.body ∧ bK.Reads W W.heap.size A (l.take k) ∧ B ≤ W.heap.size) := Lib.hid (fun W ht => ⟨own_b.2 (h.body.turns ht (by simp)), reads_b ((hr.lift ht).take k), Nat.le_trans (Nat.le_of_lt (Nat.lt_of_le_of_lt h.low h.lt)) ht.size⟩)
  have HLT := Lib.hid (show (l.take k).length = k by rw [List.length_take]; omega)
  have HLE := Lib.hid (show d.body.length + (l.take k).length ≤ 100000 by rw [List.length_take]; omega)
  obtain ⟨c0, -, -, -, -, -, c6, -, hf⟩ := h.cells
  have f0 := hf 0
  have f6 := hf 6
  have hmin : min (d.left : Int) (l.length : Int) = (k : Int) := by omega
  obtain ⟨g0, off0, hA0, -, -⟩ := hr.addr h0
  subst hA0
  obtain ⟨n, hn⟩ : ∃ n, n = l.length := ⟨_, rfl⟩
  rw [← hn] at hmin hc hkl ⊢
  have hkc : (k : Int) ≤ (c : Int) := by omega
  have HK := Lib.hid hk
  have HLF := Lib.hid hlf
  have hkc' : k ≤ c := by omega
  clear hf hA hr h0 hn hl h hk hlf
  go_enter Tryz.func27, Tryz.ntmps27
  go_wp2
  go_region_law (refine EK.step_append_all bOk (by rfl) (.tmp 17) (.tmp 20) (by rfl) B bv d.body (by rfl) (HB1.out _ (by first | exact Turns.refl _ _ | exact (Turns.refl _ _).drew0)).1 _ (some ⟨g0, off0, none⟩) (l.take k) k c HLT.out (by rfl) (HB1.out _ (by first | exact Turns.refl _ _ | exact (Turns.refl _ _).drew0)).2.1 HLE.out (HB1.out _ (by first | exact Turns.refl _ _ | exact (Turns.refl _ _).drew0)).2.2 ?_; intro v2 w2 hown2 ht2 hf2; have HT2 := Lib.hid (show Turns (ownB bv) w w2 from by first | exact ht2 | exact ((Turns.refl [] w).drew0.mono (by simp)).trans ht2 (fun i hi => .inl hi)); have HO2 := Lib.hid (own_b.1 hown2); have HF2 := Lib.hid (show ∀ i ∈ ownB v2, i ∈ ownB bv ∨ i = w.heap.size from hf2); obtain ⟨m6, n6⟩ := HD.out.cell6 (Turns.refl _ _) HT2.out; have HG := Lib.hid (HD.out.grownBody (Turns.refl _ _) HO2.out HT2.out HF2.out); obtain ⟨A1, cap1, rfl, -⟩ := HO2.out.reads; obtain ⟨m, hm⟩ : ∃ m, m = (d.body ++ l.take k).length := ⟨_, rfl⟩; rw [← hm] at HG ⊢; clear hown2 ht2 hf2 hm HO2 HF2)
  all_goals
    obtain ⟨hd3, ht3, hf3⟩ := HG.out
    clear m6 n6 HG HT2 c0 c6 f0 f6
    generalize w2.setCell ⟨p, 6, none⟩ (.slice A1 m cap1) = w3 at hd3 ht3 ⊢
    obtain ⟨c0, -, -, -, -, -, -, -, cf⟩ := hd3.cells
    change w3.cell? ⟨p, 0, none⟩ = some (.int .i64 (d.left : Int)) at c0
    have f0 := cf 0
    have hkd : k ≤ d.left := by have := HK.out; omega
    have g5 : IntKind.i64.wrap ((d.left : Int) - (k : Int)) = ((d.left - k : Nat) : Int) := by have := HLF.out; rw [IntKind.wrap_i64]; omega
    have HTS : Hid (Turns [p] w3 (w3.setCell ⟨p, 0, none⟩ (.int .i64 ((d.left - k : Nat) : Int)))) := Lib.hid (Turns.setCell w3 ⟨p, 0, none⟩ _ (List.mem_singleton.2 rfl))
    have HDS : Hid (DecR B (w3.setCell ⟨p, 0, none⟩ (.int .i64 ((d.left - k : Nat) : Int))) p { d with left := d.left - k, body := d.body ++ l.take k } lv (.slice A1 m cap1) nv) := Lib.hid (hd3.set HTS.out (heap_setCell_same _ p 0 _ _ _ hd3.head) rfl rfl)
    have HT3 := Lib.hid (ht3.trans HTS.out (fun i hi => .inl (foot_p (lv := lv) (bv := bv) i hi)))
    have HF3 := Lib.hid hf3
    have hwk : IntKind.i64.wrap (k : Int) = (k : Int) := by have := HLF.out; rw [IntKind.wrap_i64]; omega
    clear hd3 ht3 hf3 cf hkd HTS
    go_wp2
    go_ret
    exact ⟨rfl, _, HDS.out, HT3.out, HF3.out⟩
end Go.Proofs.YtlelemjmknbnaaaGreatDoor
