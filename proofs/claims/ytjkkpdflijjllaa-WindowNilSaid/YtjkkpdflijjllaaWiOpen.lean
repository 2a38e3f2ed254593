/- The program's Open: all open windows, told one by one. -/
import Derived.Test.YtjkkpdflijjllaaWiTell
import Derived.Test.YtjkkpdflijjllaaWnList
namespace Go.Proofs.Ytjkkpdflijjllaa
open Go.RowKit Go.Maps Go.Sort Go.Shelf

/-- A list of windows as it is built: the raw ones R, their credits in blocks G. -/
structure LisJ (w : World) (v : Value) (G : List Nat) (R : List Rw) (L : List Wn) (X : World) : Prop where
  own : wK.Own w.heap.size X v R
  rds : WRds X G R L
  gb : ∀ i ∈ G, w.heap.size ≤ i ∧ i < X.heap.size ∧ i ∉ ownB v
section
variable {w X X3 X4 X5 Y : World} {v v' : Value} {G F : List Nat} {R : List Rw} {L : List Wn}
theorem LisJ.start (w X : World) : LisJ w (.slice none 0 0) [] [] [] X := ⟨World.ownsRow_nil _ _ _ _, .nil, by simp⟩
theorem LisJ.next (h : LisJ w v G R L X) (ht : Turns F X Y) (hF : ∀ i ∈ F, i ∉ ownB v ∧ i ∉ G) : LisJ w v G R L Y :=
  ⟨h.own.turns ht fun g hg hm => (hF g hm).1 (by unfold ownB; rw [hg]; simp), h.rds.turns ht fun i hi hm => (hF i hm).2 hi, fun i hi => ⟨(h.gb i hi).1, Nat.lt_of_lt_of_le (h.gb i hi).2.1 ht.size, (h.gb i hi).2.2⟩⟩
theorem LisJ.low (h : LisJ w v G R L X) (ht : Turns F X Y) (hF : ∀ i ∈ F, i < w.heap.size) : LisJ w v G R L Y :=
  h.next ht fun i hi => ⟨fun hm => by have := (h.own.foot i hm).1; have := hF i hi; omega, fun hm => by have := (h.gb i hm).1; have := hF i hi; omega⟩
theorem LisJ.app (h : LisJ w v G R L X) {x : Wn} {A : Option Addr} {c : Nat} (hw : w.heap.size ≤ X.heap.size) (hc : cK.Own X.heap.size X3 (.slice A x.cr.length c) x.cr) (h3 : Turns [] X X3) (h34 : Turns [] X3 X4)
    (ho : wK.Own w.heap.size X5 v' (R ++ [⟨x.num, A, x.cr.length, c⟩])) (ht : Turns (ownB v) X4 X5) (hf : ∀ i ∈ ownB v', i ∈ ownB v ∨ i = X4.heap.size) :
    LisJ w v' (ownB (.slice A x.cr.length c) ++ G) (R ++ [⟨x.num, A, x.cr.length, c⟩]) (L ++ [x]) X5 := by
  obtain ⟨A', c', e, hrd, hc1, hc2⟩ := hc.readsG
  injection e with e1 e2 e3
  subst e1 e3
  have h4 : Turns [] X X4 := h3.then h34
  refine ⟨ho, ?_, fun i hi => ?_⟩
  · refine ((h.rds.turns h4 (by simp)).turns ht (fun i hi => (h.gb i hi).2.2) |>.mono fun i hi => List.mem_append.2 (.inr hi)).append (.one ⟨rfl, rfl, ⟨hc1, hc2⟩, ?_⟩)
    refine ((hrd.turns h34 (by simp)).turns ht fun i hi hm => ?_).mono fun i hi => List.mem_append.2 (.inl hi)
    have := (hc.foot i hi).1
    have := (h.own.foot i hm).2
    omega
  · rcases List.mem_append.1 hi with h1 | h1
    · have h2 := hc.foot i h1
      have := h34.size
      have := ht.size
      refine ⟨by omega, by omega, fun hm => ?_⟩
      rcases hf i hm with h5 | h5
      · have := (h.own.foot i h5).2; omega
      · omega
    · have h2 := h.gb i h1
      have := h4.size
      have := ht.size
      refine ⟨h2.1, by omega, fun hm => ?_⟩
      rcases hf i hm with h5 | h5
      · exact h2.2.2 h5
      · omega
theorem LisJ.fin (h : LisJ w v G R L X) : WnL X (G ++ ownB v) v L ∧ ∀ i ∈ G ++ ownB v, w.heap.size ≤ i ∧ i < X.heap.size :=
  ⟨WnL.built h.own (h.rds.mono fun i hi => List.mem_append.2 (.inl hi)) fun i hi => List.mem_append.2 (.inr hi), fun i hi => by
    rcases List.mem_append.1 hi with h1 | h1
    · exact ⟨(h.gb i h1).1, (h.gb i h1).2.1⟩
    · exact h.own.foot i h1⟩
end
/-- Numbers and lengths are small. -/
structure SmallL (L : List Wn) : Prop where
  srt : SrtW L
  num : ∀ x ∈ L, -9223372036854775808 ≤ x.num ∧ x.num ≤ 9223372036854775807
  cr : ∀ x ∈ L, x.cr.length ≤ 50000
  len : L.length ≤ 50000
theorem SmallL.of {S : Ws} {N : Nat} (h : WsOk S N) (hN : N ≤ 10000) : SmallL S.L :=
  ⟨h.srt, fun x hx => by
    obtain ⟨h1, h2, -⟩ := h.each x hx
    have := h.len.1
    have h3 : x.num * 1 ≤ x.num * S.len := Int.mul_le_mul_of_nonneg_left this h1
    omega, fun x hx => by
    obtain ⟨-, -, -, -, h5, -⟩ := h.each x hx
    omega, by have := h.room; have := h.most; omega⟩
set_option maxRecDepth 100000 in
set_option maxHeartbeats 4000000 in
theorem open_any {B : Nat} {w : World} {p b : Nat} {P : PW} {S : Ws} (h : WiA B w p b P S) (hs : SmallL S.L) :
    Calls Try.prog 18 #[ptrV p] w fun e w' => ∃ o H, e = .returned o ∧ WnL w' H o S.L ∧ Turns [] w w' ∧ ∀ i ∈ H, w.heap.size ≤ i := by
  have H := Lib.hid h
  have HS := Lib.hid hs
  have HN := Lib.hid (isNone_no h.head h.len)
  obtain ⟨-, -, -, -, -, -, -, c7, -⟩ := h.head.cells
  have HR := Lib.hid (risingI_any h hs.srt (by have := hs.len; omega))
  clear h hs
  go_enter Try.func18, Try.ntmps18
  go_wp2_with fail
  refine HN.out.mono ?_
  rintro e w0 ⟨rfl, rfl⟩
  go_wp2_with fail
  refine HR.out.mono ?_
  rintro e w1 ⟨⟨kv, rfl, hkv⟩, ht1⟩
  obtain ⟨KA, kc, rfl, hkeys⟩ := i64K_cells hkv
  have HKY := Lib.hid hkeys
  have HT1 := Lib.hid ht1
  have hln : (S.L.map Wn.num).length = S.L.length := by simp
  rw [hln]
  clear hkv hkeys ht1 hln c7 HN HR
  go_wp2_with fail
  obtain ⟨v0, hv0⟩ : ∃ v0, v0 = Value.slice none 0 0 := ⟨_, rfl⟩
  go_loopw [3, 14] (fun s i wr => ∃ (k : Nat) (v : Value) (G : List Nat) (R : List Rw), v = s ∧ k ≤ S.L.length ∧ i = .int .i64 k ∧ Hid (LisJ w v G R (S.L.take k) wr) ∧ Hid (Turns [] w wr) ∧ Hid (∀ i, w.heap.size ≤ i → i < w1.heap.size → i ∉ ownB v ∧ wr.heap[i]? = w1.heap[i]?) ∧ Hid (w1.heap.size ≤ wr.heap.size)) (fun _ i _ => S.L.length - (intOf i).toNat)
  case atStart => exact ⟨0, _, _, _, rfl, Nat.zero_le _, rfl, Lib.hid (LisJ.start w w1), HT1, Lib.hid (fun i h1 h2 => ⟨by simp [ownB, Value.ownBlock], rfl⟩), Lib.hid (Nat.le_refl _)⟩
  case round =>
    obtain ⟨k, v, G, R, rfl, hk, rfl, HJ, HT, HK, HSZ⟩ := hrel
    have hl9 : (S.L.length : Int) ≤ 50000 := by have := HS.out.len; omega
    by_cases hlt : k < S.L.length
    · obtain ⟨x, hx⟩ : ∃ x, S.L[k]? = some x := ⟨_, List.getElem?_eq_getElem hlt⟩
      have hxm := List.mem_of_getElem? hx
      obtain ⟨kb, rfl, hk1, hk2, hkc⟩ := HKY.out k x.num (by simp [hx])
      have hc1 : wr.cell? ⟨kb, k, none⟩ = some (.int .i64 x.num) := by
        rw [World.cell?_of_block (a := ⟨kb, k, none⟩) (HK.out kb hk1 hk2).2, hkc]
      obtain ⟨g, f, hpg, htc⟩ := H.out.tel.mem x hxm
      have HTE := Lib.hid (tell_any (H.out.pre HT.out) (HS.out.num x hxm) hpg htc (HS.out.cr x hxm))
      have hlt' : (k : Int) < (S.L.length : Int) := by omega
      have hk0 : (0 : Int) ≤ (k : Int) := by omega
      have HX := Lib.hid hx
      clear hxm hx hk1 hk2 hkc hpg htc
      go_wp2_with fail
      refine HTE.out.mono ?_
      rintro e w3 ⟨cv, rfl, hcv, ht3⟩
      obtain ⟨A, c, rfl, -, -, -⟩ := hcv.readsG
      have HCV := Lib.hid hcv
      have HT3 := Lib.hid ht3
      have HO3 : Hid (∀ C, wK.Own w.heap.size (w3.alloc (.cells C 42)) v R ∧ w.heap.size ≤ (w3.alloc (.cells C 42)).heap.size) := Lib.hid fun C => by
        have h1 := ht3.then (Turns.alloc (F := []) w3 (.cells C 42))
        exact ⟨HJ.out.own.turns h1 (by simp), Nat.le_trans HT.out.size h1.size⟩
      have HLN : Hid (R.length + [(⟨x.num, A, x.cr.length, c⟩ : Rw)].length ≤ 100000) := Lib.hid (by have h1 := HJ.out.rds.1; have := HS.out.len; rw [List.length_take] at h1; simp; omega)
      have HFIN : Hid (∀ (w5 : World) (C : Array Value) (v5 : Value), Hid (wK.Own w.heap.size w5 v5 (R ++ [⟨x.num, A, x.cr.length, c⟩])) → Hid (Turns (ownB v) (w3.alloc (.cells C 42)) w5) → Hid (∀ i ∈ ownB v5, i ∈ ownB v ∨ i = (w3.alloc (.cells C 42)).heap.size) →
          LisJ w v5 (ownB (.slice A x.cr.length c) ++ G) (R ++ [⟨x.num, A, x.cr.length, c⟩]) (S.L.take (k + 1)) w5 ∧ Turns [] w w5 ∧ (∀ i, w.heap.size ≤ i → i < w1.heap.size → i ∉ ownB v5 ∧ w5.heap[i]? = w1.heap[i]?) ∧ w1.heap.size ≤ w5.heap.size) := Lib.hid fun w5 C v5 ho ht hf => by
        have e : S.L.take (k + 1) = S.L.take k ++ [x] := by rw [List.take_add_one, HX.out]; rfl
        have h34 : Turns [] w3 (w3.alloc (.cells C 42)) := Turns.alloc _ _
        have h4 := HT3.out.then h34
        have := h4.size
        have := ht.out.size
        have := HSZ.out
        rw [e]
        refine ⟨HJ.out.app HT.out.size HCV.out HT3.out h34 ho.out ht.out hf.out, (HT.out.then h4).trans ht.out fun i hi => .inr (HJ.out.own.foot i hi).1, fun i h1 h2 => ⟨fun hm => ?_, ?_⟩, by omega⟩
        · rcases hf.out i hm with h5 | h5
          · exact (HK.out i h1 h2).1 h5
          · omega
        · rw [ht.out.block i (by omega) (HK.out i h1 h2).1, h4.block i (by omega) (by simp), (HK.out i h1 h2).2]
      clear hcv ht3 HTE hc1
      go_wp2_with (at_builtin; refine EK.wpList_append (K := wK) wOk rfl (.tmp 18) (.tmp 22) rfl w.heap.size v R rfl (HO3.out _).1 (w3.heap.size + 1) (some ⟨w3.heap.size, 0, none⟩) [⟨x.num, A, x.cr.length, c⟩] 1 1 rfl rfl (EK.Reads.lone wOk (W := w3) (⟨x.num, A, x.cr.length, c⟩ : Rw) _ _ rfl rfl) (by simp) HLN.out (HO3.out _).2 ?_; intro v5 w5 ho5 ht5 hf5; have HO5 := Lib.hid ho5; have HT5 := Lib.hid ht5; have HF5 := Lib.hid hf5; clear ho5 ht5 hf5)
      go_roundw
      case rel =>
        obtain ⟨e1, e2, e3, e4⟩ := HFIN.out w5 _ v5 HO5 HT5 HF5
        exact ⟨k + 1, _, _, _, rfl, by omega, by go_num, Lib.hid e1, Lib.hid e2, Lib.hid e3, Lib.hid e4⟩
      case measure => simp [intOf] <;> omega
    · obtain rfl : k = S.L.length := by omega
      have hge : decide ((S.L.length : Int) < (S.L.length : Int)) = false := by simp
      rw [List.take_length] at HJ
      go_wp2_with fail
      go_ret
      exact ⟨_, _, rfl, HJ.out.fin.1, HT.out, fun i hi => (HJ.out.fin.2 i hi).1⟩
end Go.Proofs.Ytjkkpdflijjllaa
