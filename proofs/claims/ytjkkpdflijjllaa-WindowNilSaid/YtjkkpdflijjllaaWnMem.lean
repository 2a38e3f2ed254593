/- Rows of credits; the document's credit: what it has told, beside the gain. -/
import Derived.Test.YtjkkpdflijjllaaRowK2
import Derived.Test.YtjkkpdflijjllaaWnPlain
import Derived.Test.YtjkkpdflijjllaaBase
import Derived.Deep.QuietTactic
import Derived.BigQuiet
namespace Go.Proofs.Ytjkkpdflijjllaa
open Go.RowKit

def cK : EK Cr := ⟨40, 44, 3, 32, .agg #[.string ⟨#[]⟩, .int .i64 0, .bool false], Cr.cells⟩
theorem cOk : cK.Ok Try.prog := ⟨Try.underlying40, by kernel_rfl, rfl, by decide, by decide, fun _ => rfl, fun x u hu => by simp [cK, Cr.cells] at hu; rcases hu with rfl | rfl | rfl <;> rfl⟩
/-- What has been told, beside the gain in its box. -/
structure CredB (w : World) (name : ByteArray) (tm inc : Int) (rs : Bool) (v : Value) (R : List Cr) (X : World) : Prop where
  own : cK.Own (w.heap.size + 1) X v R
  box : X.heap[w.heap.size]? = some (.cells #[.string name, .int .i64 tm, .int .i64 inc, .bool rs] 34 (0, 0))
  tt : Turns [] w X
  more : w.heap.size + 1 ≤ X.heap.size
section
variable {w X Y : World} {name : ByteArray} {tm inc : Int} {rs : Bool} {v v' : Value} {R R' : List Cr}
theorem CredB.next (h : CredB w name tm inc rs v R X) (ht : Turns [] X Y) : CredB w name tm inc rs v R Y :=
  ⟨h.own.turns ht (by simp), (ht.block _ (by have := h.more; omega) (by simp)).trans h.box, h.tt.then ht, Nat.le_trans h.more ht.size⟩
theorem CredB.app (h : CredB w name tm inc rs v R X) (ho : cK.Own (w.heap.size + 1) Y v' R') (ht : Turns (ownB v) X Y) : CredB w name tm inc rs v' R' Y :=
  ⟨ho, (ht.block _ (by have := h.more; omega) fun hm => by have := (h.own.foot _ hm).1; omega).trans h.box, h.tt.trans ht fun i hi => .inr (by have := (h.own.foot i hi).1; omega), Nat.le_trans h.more ht.size⟩
theorem CredB.more' (h : CredB w name tm inc rs v R X) : w.heap.size + 1 ≤ X.heap.size := h.more
theorem CredB.keepx (h : CredB w name tm inc rs v R X) {C C' : Array Value} {t t' : TypeId} (ht : Turns (ownB v) ((X.alloc (.cells C t)).alloc (.cells C' t')) Y) (j : Nat) (u : Value) (hj : C[j]? = some u) : Y.cell? ⟨X.heap.size, j, none⟩ = some u := by
  have h1 : (X.alloc (.cells C t)).heap.size = X.heap.size + 1 := by simp
  have h2 : ((X.alloc (.cells C t)).alloc (.cells C' t')).heap.size = X.heap.size + 2 := by simp
  rw [ht.cell (by omega) (fun hm => by have := (h.own.foot _ hm).2; simp at this), (Turns.alloc (F := []) (X.alloc (.cells C t)) (.cells C' t')).cell (by omega) (by simp)]
  have := heap_alloc_new X (.cells C t)
  unfold World.cell?
  simp only [this]
  exact hj
theorem CredB.cells (h : CredB w name tm inc rs v R X) : X.cell? ⟨w.heap.size, 0, none⟩ = some (.string name) ∧ X.cell? ⟨w.heap.size, 1, none⟩ = some (.int .i64 tm) ∧ X.cell? ⟨w.heap.size, 2, none⟩ = some (.int .i64 inc) ∧ X.cell? ⟨w.heap.size, 3, none⟩ = some (.bool rs) := by
  have h1 := h.box
  refine ⟨?_, ?_, ?_, ?_⟩ <;> simp [World.cell?, h1]
end
theorem cread_at {W : World} {B : Nat} {A : Option Addr} {l : List Cr} (hr : cK.Reads W B A l) {k : Nat} {x : Cr} (hx : l[k]? = some x) : ∃ g off, A = some ⟨g, off, none⟩ ∧ g < B ∧ W.cell? ⟨g, off + k * 3, none⟩ = some (.string x.name) ∧ W.cell? ⟨g, off + k * 3 + 1, none⟩ = some (.int .i64 x.inc) ∧ W.cell? ⟨g, off + k * 3 + 2, none⟩ = some (.bool x.over) := by
  rcases hr with h | ⟨g, off, rfl, hg, hc⟩
  · rw [h] at hx
    simp at hx
  · have hf := fun j u hj => hc _ u (EK.flat_at cOk hx j u hj)
    have h0 := hf 0 _ rfl
    have h1 := hf 1 _ rfl
    have h2 := hf 2 _ rfl
    simp only [cK, Nat.add_zero, ← Nat.add_assoc] at h0 h1 h2
    exact ⟨g, off, rfl, hg, h0, h1, h2⟩
set_option maxRecDepth 100000 in
set_option maxHeartbeats 8000000 in
theorem rcred_any (A : Option Addr) (c0 : Nat) (l : List Cr) (name : ByteArray) (tm inc : Int) (rs : Bool) (w : World) (hl : l.length ≤ 50000) (hr : cK.Reads w w.heap.size A l) (hok : COk l) (hi : 0 ≤ inc ∧ inc ≤ 9223372036854775807) :
    Calls Try.prog 43 #[.slice A l.length c0, .agg #[.string name, .int .i64 tm, .int .i64 inc, .bool rs]] w fun e w' => ∃ o, e = .returned o ∧ cK.Own w.heap.size w' o (credL name inc l) ∧ Turns [] w w' := by
  have HR := Lib.hid (fun X (ht : Turns [] w X) => hr.turns (Nat.le_refl _) ht (by simp))
  obtain ⟨N, hN⟩ : ∃ N, N = l.length := ⟨_, rfl⟩
  have HN := Lib.hid hN
  have HOK := Lib.hid hok
  have HI := Lib.hid hi
  rw [← hN]
  rw [← hN] at hl
  have HL := Lib.hid hl
  have f1 : (N : Int) ≤ 50000 := by omega
  have HB0 : Hid (CredB w name tm inc rs (.slice none 0 0) [] (w.alloc (.cells #[.string name, .int .i64 tm, .int .i64 inc, .bool rs] 34))) := Lib.hid ⟨World.ownsRow_nil _ _ _ _, heap_alloc_new w _, Turns.alloc _ _, by simp⟩
  clear hr hok hi hl hN
  go_enter Try.func43, Try.ntmps43
  go_wp2_with fail
  generalize w.alloc (.cells #[.string name, .int .i64 tm, .int .i64 inc, .bool rs] 34) = w0 at HB0 ⊢
  obtain ⟨v0, hv0⟩ : ∃ v0, v0 = Value.slice none 0 0 := ⟨_, rfl⟩
  go_loopw [5, 6, 7] (fun o d i wr => ∃ k : Nat, k ≤ N ∧ i = .int .i64 (k : Int) ∧ d = .bool (credT name inc false (l.take k)).2 ∧ Hid (CredB w name tm inc rs o (credT name inc false (l.take k)).1 wr)) (fun _ _ i _ => N - (intOf i).toNat)
  case atStart => exact ⟨0, Nat.zero_le _, rfl, rfl, HB0⟩
  case round =>
    obtain ⟨k, hk, rfl, rfl, HB⟩ := hrel
    have HKL := Lib.hid (credT_len name inc false (l.take k))
    by_cases hlt : k < N
    · have hlt' : (k : Int) < (N : Int) := by omega
      have hk0 : (0 : Int) ≤ (k : Int) := by omega
      obtain ⟨x, hx⟩ : ∃ x, l[k]? = some x := ⟨_, List.getElem?_eq_getElem (by have := HN.out; omega)⟩
      have hsn := credT_snoc name inc false (l.take k) x
      rw [show l.take k ++ [x] = l.take (k + 1) by rw [List.take_add_one, hx]; rfl] at hsn
      have hxo := HOK.out x (List.mem_of_getElem? hx)
      generalize credT name inc false (l.take k) = p at *
      obtain ⟨R, dn⟩ := p
      simp only at HB HKL
      obtain ⟨g, off, rfl, hg, d0, d1, d2⟩ := cread_at (HR.out wr HB.out.tt) hx
      obtain ⟨b0, b1, b2, b3⟩ := HB.out.cells
      have HX1 : Hid (∀ C, CredB w name tm inc rs u5 R (wr.alloc (.cells C 44))) := Lib.hid (fun C => HB.out.next (Turns.alloc _ _))
      have HKR := Lib.hid (show R.length ≤ 50001 by have := HKL.out.1; have := HL.out; have := List.length_take_le k l; omega)
      have hne : w.heap.size < wr.heap.size := by have := HB.out.more; omega
      have HSN := Lib.hid hsn
      have HX2 : Hid (∀ C C', CredB w name tm inc rs u5 R ((wr.alloc (.cells C 44)).alloc (.cells C' 44))) := Lib.hid (fun C C' => (HX1.out C).next (Turns.alloc _ _))
      have HLA : Hid (R.length + 1 ≤ 100000) := Lib.hid (by have := HKR.out; omega)
      obtain ⟨xo, hxv⟩ : ∃ xo, x.over = xo := ⟨_, rfl⟩
      rw [hxv] at d2
      have HKN := Lib.hid hlt
      have hii := HI.out
      cases hb : eqC x.name name with
      | true =>
        have hbe : (x.name.toList == name.toList) = true := hb
        have HSE : Hid (credT name inc false (l.take (k + 1)) = (R ++ [addC x inc], true)) := Lib.hid (by rw [HSN.out]; unfold credS; rw [if_pos hb])
        by_cases hs : 9223372036854775807 < x.inc + inc
        · have hw : IntKind.i64.wrap (x.inc + inc) = x.inc + inc - 18446744073709551616 := by
            simp [IntKind.wrap, IntKind.bits, IntKind.signed]
            omega
          have hlt0 : decide (x.inc + inc - 18446744073709551616 < 0) = true := by simp; omega
          have HAC : Hid (addC x inc = ⟨x.name, 9223372036854775807, true⟩) := Lib.hid (by unfold addC; rw [if_pos hs])
          clear hsn hx hb hii
          cases xo with
          | true =>
            go_wp2_with (at_builtin; refine EK.wpList_append cOk rfl (.tmp 58) (.tmp 60) rfl (w.heap.size + 1) u5 R rfl (HX2.out _ _).own (wr.heap.size + 1 + 1) (some ⟨wr.heap.size + 1, 0, none⟩) [addC x inc] 1 1 rfl rfl (by rw [HAC.out]; exact EK.Reads.lone cOk (W := wr.alloc _) _ _ _ rfl (by simp)) (by simp) HLA.out (HX2.out _ _).more' ?_; intro v2 w2 ho2 ht2 hf2; have HA2 := Lib.hid ((HX2.out _ _).app ho2 ht2); clear ho2 ht2 hf2)
            exact ⟨⟨k + 1, HKN.out, by go_num, by rw [HSE.out], by rw [HSE.out]; exact HA2⟩, by have := HKN.out; simp [intOf]; omega⟩
          | false =>
            go_wp2_with (at_builtin; refine EK.wpList_append cOk rfl (.tmp 58) (.tmp 60) rfl (w.heap.size + 1) u5 R rfl (HX2.out _ _).own (wr.heap.size + 1 + 1) (some ⟨wr.heap.size + 1, 0, none⟩) [addC x inc] 1 1 rfl rfl (by rw [HAC.out]; exact EK.Reads.lone cOk (W := wr.alloc _) _ _ _ rfl (by simp)) (by simp) HLA.out (HX2.out _ _).more' ?_; intro v2 w2 ho2 ht2 hf2; have HA2 := Lib.hid ((HX2.out _ _).app ho2 ht2); clear ho2 ht2 hf2)
            exact ⟨⟨k + 1, HKN.out, by go_num, by rw [HSE.out], by rw [HSE.out]; exact HA2⟩, by have := HKN.out; simp [intOf]; omega⟩
        · have hw : IntKind.i64.wrap (x.inc + inc) = x.inc + inc := IntWalk.i64_in _ (by omega)
          have hlt0 : decide (x.inc + inc < 0) = false := by simp; omega
          have HAC : Hid (addC x inc = ⟨x.name, x.inc + inc, xo⟩) := Lib.hid (by unfold addC; rw [if_neg hs, hxv])
          clear hsn hx hb hii
          cases xo with
          | true =>
            go_wp2_with (at_builtin; refine EK.wpList_append cOk rfl (.tmp 58) (.tmp 60) rfl (w.heap.size + 1) u5 R rfl (HX2.out _ _).own (wr.heap.size + 1 + 1) (some ⟨wr.heap.size + 1, 0, none⟩) [addC x inc] 1 1 rfl rfl (by rw [HAC.out]; exact EK.Reads.lone cOk (W := wr.alloc _) _ _ _ rfl (by simp)) (by simp) HLA.out (HX2.out _ _).more' ?_; intro v2 w2 ho2 ht2 hf2; have HA2 := Lib.hid ((HX2.out _ _).app ho2 ht2); clear ho2 ht2 hf2)
            exact ⟨⟨k + 1, HKN.out, by go_num, by rw [HSE.out], by rw [HSE.out]; exact HA2⟩, by have := HKN.out; simp [intOf]; omega⟩
          | false =>
            go_wp2_with (at_builtin; refine EK.wpList_append cOk rfl (.tmp 58) (.tmp 60) rfl (w.heap.size + 1) u5 R rfl (HX2.out _ _).own (wr.heap.size + 1 + 1) (some ⟨wr.heap.size + 1, 0, none⟩) [addC x inc] 1 1 rfl rfl (by rw [HAC.out]; exact EK.Reads.lone cOk (W := wr.alloc _) _ _ _ rfl (by simp)) (by simp) HLA.out (HX2.out _ _).more' ?_; intro v2 w2 ho2 ht2 hf2; have HA2 := Lib.hid ((HX2.out _ _).app ho2 ht2); clear ho2 ht2 hf2)
            exact ⟨⟨k + 1, HKN.out, by go_num, by rw [HSE.out], by rw [HSE.out]; exact HA2⟩, by have := HKN.out; simp [intOf]; omega⟩
      | false =>
        have hbe : (x.name.toList == name.toList) = false := hb
        have HXE : Hid (x = ⟨x.name, x.inc, xo⟩) := Lib.hid (by rw [← hxv])
        cases hg2 : gtC name x.name with
        | true =>
          have hge : Op.bytesLess x.name.toList name.toList = false := by unfold gtC at hg2; simpa using hg2
          cases dn with
          | true =>
            have HSE : Hid (credT name inc false (l.take (k + 1)) = (R ++ [x], true)) := Lib.hid (by rw [HSN.out]; unfold credS; rw [if_neg (by simp [hb])]; simp)
            clear hsn hx hb hii hg2
            go_wp2_with (at_builtin; refine EK.wpList_append cOk rfl (.tmp 58) (.tmp 60) rfl (w.heap.size + 1) u5 R rfl (HX2.out _ _).own (wr.heap.size + 1 + 1) (some ⟨wr.heap.size + 1, 0, none⟩) [x] 1 1 rfl rfl (by rw [HXE.out]; exact EK.Reads.lone cOk (W := wr.alloc _) _ _ _ rfl (by simp)) (by simp) HLA.out (HX2.out _ _).more' ?_; intro v2 w2 ho2 ht2 hf2; have HA2 := Lib.hid ((HX2.out _ _).app ho2 ht2); clear ho2 ht2 hf2)
            exact ⟨⟨k + 1, HKN.out, by go_num, by rw [HSE.out], by rw [HSE.out]; exact HA2⟩, by have := HKN.out; simp [intOf]; omega⟩
          | false =>
            have HSE : Hid (credT name inc false (l.take (k + 1)) = (R ++ [⟨name, inc, false⟩, x], true)) := Lib.hid (by rw [HSN.out]; unfold credS; rw [if_neg (by simp [hb])]; simp [hg2])
            clear hsn hx hb hii hg2
            go_wp2_with (first | (at_builtin; refine EK.wpList_append cOk rfl (.tmp 50) (.tmp 56) rfl (w.heap.size + 1) u5 R rfl (HX2.out _ _).own (wr.heap.size + 1 + 1) (some ⟨wr.heap.size + 1, 0, none⟩) [⟨name, inc, false⟩] 1 1 rfl rfl (EK.Reads.lone cOk (W := wr.alloc _) _ _ _ rfl (by simp)) (by simp) HLA.out (HX2.out _ _).more' ?_; intro v2 w2 ho2 ht2 hf2; have HA1 := Lib.hid ((HX2.out _ _).app ho2 ht2); have hkx := HB.out.keepx ht2; have x0 := hkx 0 (.string x.name) rfl; have x1 := hkx 1 (.int .i64 x.inc) rfl; have x2 := hkx 2 (.bool xo) rfl; obtain ⟨g0, g1, g2, g3⟩ := HA1.out.cells; have HY2 : Hid (∀ C, CredB w name tm inc rs v2 (R ++ [⟨name, inc, false⟩]) (w2.alloc (.cells C 44))) := Lib.hid (fun C => HA1.out.next (Turns.alloc _ _)); have HLB : Hid ((R ++ [(⟨name, inc, false⟩ : Cr)]).length + 1 ≤ 100000) := Lib.hid (by have := HKR.out; simp; omega); clear hkx ho2 ht2 hf2) | (at_builtin; refine EK.wpList_append cOk rfl (.tmp 58) (.tmp 60) rfl (w.heap.size + 1) v2 (R ++ [⟨name, inc, false⟩]) rfl (HY2.out _).own (w2.heap.size + 1) (some ⟨w2.heap.size, 0, none⟩) [x] 1 1 rfl rfl (by rw [HXE.out]; exact EK.Reads.lone cOk (W := w2) _ _ _ rfl rfl) (by simp) HLB.out (HY2.out _).more' ?_; intro v3 w3 ho2 ht2 hf2; have HA3 := Lib.hid ((HY2.out _).app ho2 ht2); clear ho2 ht2 hf2))
            exact ⟨⟨k + 1, HKN.out, by go_num, by rw [HSE.out], by rw [HSE.out, show R ++ [⟨name, inc, false⟩, x] = (R ++ [⟨name, inc, false⟩]) ++ [x] by simp]; exact HA3⟩, by have := HKN.out; simp [intOf]; omega⟩
        | false =>
          have hge : Op.bytesLess x.name.toList name.toList = true := by unfold gtC at hg2; simpa using hg2
          have HSE : Hid (credT name inc false (l.take (k + 1)) = (R ++ [x], dn)) := Lib.hid (by rw [HSN.out]; unfold credS; rw [if_neg (by simp [hb])]; simp [hg2])
          clear hsn hx hb hii hg2
          cases dn with
          | true =>
            go_wp2_with (at_builtin; refine EK.wpList_append cOk rfl (.tmp 58) (.tmp 60) rfl (w.heap.size + 1) u5 R rfl (HX2.out _ _).own (wr.heap.size + 1 + 1) (some ⟨wr.heap.size + 1, 0, none⟩) [x] 1 1 rfl rfl (by rw [HXE.out]; exact EK.Reads.lone cOk (W := wr.alloc _) _ _ _ rfl (by simp)) (by simp) HLA.out (HX2.out _ _).more' ?_; intro v2 w2 ho2 ht2 hf2; have HA2 := Lib.hid ((HX2.out _ _).app ho2 ht2); clear ho2 ht2 hf2)
            exact ⟨⟨k + 1, HKN.out, by go_num, by rw [HSE.out], by rw [HSE.out]; exact HA2⟩, by have := HKN.out; simp [intOf]; omega⟩
          | false =>
            go_wp2_with (at_builtin; refine EK.wpList_append cOk rfl (.tmp 58) (.tmp 60) rfl (w.heap.size + 1) u5 R rfl (HX2.out _ _).own (wr.heap.size + 1 + 1) (some ⟨wr.heap.size + 1, 0, none⟩) [x] 1 1 rfl rfl (by rw [HXE.out]; exact EK.Reads.lone cOk (W := wr.alloc _) _ _ _ rfl (by simp)) (by simp) HLA.out (HX2.out _ _).more' ?_; intro v2 w2 ho2 ht2 hf2; have HA2 := Lib.hid ((HX2.out _ _).app ho2 ht2); clear ho2 ht2 hf2)
            exact ⟨⟨k + 1, HKN.out, by go_num, by rw [HSE.out], by rw [HSE.out]; exact HA2⟩, by have := HKN.out; simp [intOf]; omega⟩
    · have hge : decide ((k : Int) < (N : Int)) = false := by simp; omega
      have hfin := credG_T name inc false l
      rw [show l.take k = l by rw [show k = l.length by have := HN.out; omega, List.take_length]] at HB HKL ⊢
      obtain ⟨b0, b1, b2, b3⟩ := HB.out.cells
      generalize credT name inc false l = p at *
      obtain ⟨R, dn⟩ := p
      simp only at HB HKL hfin
      have HLA : Hid (R.length + 1 ≤ 100000) := Lib.hid (by have := HKL.out.1; have := HL.out; have := HN.out; omega)
      have HFN := Lib.hid hfin
      have HLOW : Hid (∀ X o L, cK.Own (w.heap.size + 1) X o L → cK.Own w.heap.size X o L) := Lib.hid (fun X o L h => h.low (by omega))
      cases dn with
      | true =>
        clear hfin
        go_wp2_with fail
        go_ret
        exact ⟨_, rfl, by
          have := HFN.out
          simp only [if_true, List.append_nil] at this
          unfold credL
          rw [this]
          exact HLOW.out _ _ _ HB.out.own, HB.out.tt⟩
      | false =>
        have HX2 : Hid (∀ C, CredB w name tm inc rs u5 R (wr.alloc (.cells C 44))) := Lib.hid (fun C => HB.out.next (Turns.alloc _ _))
        clear hfin
        go_wp2_with (at_builtin; refine EK.wpList_append cOk rfl (.tmp 64) (.tmp 70) rfl (w.heap.size + 1) u5 R rfl (HX2.out _).own (wr.heap.size + 1) (some ⟨wr.heap.size, 0, none⟩) [⟨name, inc, false⟩] 1 1 rfl rfl (EK.Reads.lone cOk (W := wr) _ _ _ rfl rfl) (by simp) HLA.out (HX2.out _).more' ?_; intro v2 w2 ho2 ht2 hf2; have HA2 := Lib.hid ((HX2.out _).app ho2 ht2); clear ho2 ht2 hf2)
        go_ret
        exact ⟨_, rfl, by
          have := HFN.out
          simp only [Bool.false_eq_true, if_false] at this
          unfold credL
          rw [this]
          exact HLOW.out _ _ _ HA2.out.own, HA2.out.tt⟩
end Go.Proofs.Ytjkkpdflijjllaa
