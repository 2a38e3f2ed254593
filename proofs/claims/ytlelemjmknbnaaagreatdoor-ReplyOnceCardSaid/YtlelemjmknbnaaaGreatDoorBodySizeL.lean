/- A byte of a size line. -/
import Derived.Test.YtlelemjmknbnaaaGreatDoorBodyApp
import Derived.Deep.CutBlock
namespace Go.Proofs.YtlelemjmknbnaaaGreatDoor
open Go.RowKit

def GX (w : World) : Prop := MX w ∧ EX w
theorem GX.grown {w w' : World} (h : GX w) (hb : Below w.heap.size w w') : GX w' := ⟨h.1.grown hb, h.2.grown hb⟩
theorem GX.turns {w w' : World} {F : List Nat} (h : GX w) (ht : Turns F w w') (hF : ∀ g ∈ F, 1 < g) : GX w' := by
  obtain ⟨⟨m, hm⟩, ev, h1, h2⟩ := h
  have key : ∀ {g : Nat} {u : Value}, g ≤ 1 → w.cell? ⟨g, 0, none⟩ = some u → w'.cell? ⟨g, 0, none⟩ = some u := fun {g u} hg hc => by
    have hl : g < w.heap.size := by simpa using World.block_lt_of_cell? w ⟨g, 0, none⟩ hc
    have hb := ht.block g hl (fun hm => by have := hF g hm; omega)
    unfold World.cell? at hc ⊢
    simpa [hb] using hc
  exact ⟨⟨m, key (by decide) hm⟩, ev, key (by decide) h1, h2⟩
namespace DecR
variable {B : Nat} {w w1 w2 : World} {p : Nat} {d : Dc} {lv bv nv v' : Value}
theorem nxAny (h : DecR B w p d lv bv nv) (n : Nx) : DecR B w p { d with nx := n } lv bv nv := ⟨h.head, h.low, h.line, h.body, h.offL, h.offB, h.apart⟩
theorem cell4 (h : DecR B w p d lv bv nv) (h1 : Turns [] w w1) (ht : Turns (ownB lv) w1 w2) : w2.cell? ⟨p, 4, none⟩ = some lv ∧ w2.frozen? ⟨p, 4, none⟩ = false := by
  have hb := ((h1.mono (G := ownB lv) (by simp)).trans ht (fun i hi => .inl hi)).block p h.lt h.offL
  have hh := hb.trans h.head
  simp [World.cell?, World.frozen?, hh]
theorem cell6 (h : DecR B w p d lv bv nv) (h1 : Turns [] w w1) (ht : Turns (ownB bv) w1 w2) : w2.cell? ⟨p, 6, none⟩ = some bv ∧ w2.frozen? ⟨p, 6, none⟩ = false := by
  have hb := ((h1.mono (G := ownB bv) (by simp)).trans ht (fun i hi => .inl hi)).block p h.lt h.offB
  have hh := hb.trans h.head
  simp [World.cell?, World.frozen?, hh]
end DecR
theorem foot_nil {p : Nat} {lv bv : Value} : ∀ g ∈ foot p (.slice none 0 0) bv, g ∈ foot p lv bv := by
  intro g hg
  unfold foot at hg ⊢
  simp [ownB, Value.ownBlock] at hg ⊢
  rcases hg with hg | hg
  · exact .inl hg
  · exact .inr (.inr hg)
theorem foot_p {p : Nat} {lv bv : Value} : ∀ g ∈ [p], g ∈ foot p lv bv := by
  intro g hg
  rw [List.mem_singleton] at hg
  subst hg
  simp [foot]
theorem StP.mk' {B : Nat} {w w' : World} {p : Nat} {lv bv lv' bv' nv' v : Value} {K K' : List Nat} {d : Dc} (hd : DecR B w' p d lv' bv' nv') (hn : NxV w' v d.nx K') (ht : Turns (foot p lv bv) w w')
    (hf : ∀ g ∈ foot p lv' bv', g ∈ foot p lv bv ∨ w.heap.size ≤ g) (hk : ∀ g ∈ K', g ∈ K ∨ w.heap.size ≤ g) (ho : ∀ g ∈ K', g ∉ foot p lv' bv') {e : Ending} (he : e = .returned v) : StP B w p lv bv K d e w' :=
  ⟨v, lv', bv', nv', K', he, hd, hn, ht, hf, hk, ho⟩
set_option maxRecDepth 100000 in
set_option maxHeartbeats 8000000 in
theorem sizeLine_any {B : Nat} {w : World} {p : Nat} {d : Dc} {lv bv nv : Value} {K : List Nat} (h : DecR B w p d lv bv nv) (c : UInt8) (hl : d.line.length ≤ 500000) (hm : GX w) (hB : 1 < B) (hr : d.room < 9223372036854775808) :
    Calls Tryz.prog 37 #[.pointer (some ⟨p, 0, none⟩), .int .u8 (c.toNat : Int)] w (StP B w p lv bv K (d.size1 c)) := by
  have HD := Lib.hid h
  have hBs : B ≤ (w.alloc (.cells #[.int .u8 (c.toNat : Int)] 5)).heap.size := Nat.le_trans (Nat.le_of_lt (Nat.lt_of_le_of_lt h.low h.lt)) (by simp)
  have HBS := Lib.hid hBs
  have HLE := Lib.hid (show d.line.length + [c].length ≤ 1000000 by simp; omega)
  obtain ⟨-, -, -, -, c4, -, -, -, hf⟩ := h.cells
  have f4 := hf 4
  have HGX := Lib.hid hm
  have HLF := Lib.hid (fun g (hg : g ∈ foot p lv bv) => Nat.lt_of_lt_of_le hB (h.ltF g hg).1)
  have HP := Lib.hid (show 1 < p from Nat.lt_of_lt_of_le hB h.low)
  have HS1 : Hid (d.size1 c = if c ≠ 10 ∧ (d.line ++ [c]).length < 256 then { d with line := d.line ++ [c], nx := .size } else d.sized (d.line ++ [c])) := Lib.hid rfl
  generalize d.size1 c = dq at HS1 ⊢
  clear hBs hf hm h
  go_enter Tryz.func37, Tryz.ntmps37
  go_upto_region 2 with (at_builtin; refine wpList_append_bytesT rfl (.tmp 11) (.tmp 13) rfl B lv d.line rfl (HD.out.line.alloc _) (w.heap.size + 1) (some ⟨w.heap.size, 0, none⟩) [c] 1 rfl (breads_one w _ c _ rfl) (fun h => by cases h) HLE.out HBS.out ?_; intro v1 w2 hown2 ht2 hl2; obtain ⟨m4, n4⟩ := HD.out.cell4 (Turns.alloc (F := []) w _) ht2; have HG := Lib.hid (HD.out.grownLine (Turns.alloc (F := []) w _) hown2 ht2 hl2); obtain ⟨A1, cap1, rfl, -⟩ := hown2.reads; obtain ⟨n, hn⟩ : ∃ n, n = (d.line ++ [c]).length := ⟨_, rfl⟩; rw [← hn] at HG ⊢; have HN0 := Lib.hid hn; clear hown2 ht2 hl2 hn)
  obtain ⟨hd3, ht3, hf3⟩ := HG.out
  clear m4 n4 HG c4 f4
  generalize w2.setCell ⟨p, 4, none⟩ (.slice A1 n cap1) = w3 at hd3 ht3 ⊢
  have HD3 := Lib.hid hd3
  have HT3 := Lib.hid ht3
  have HF3 := Lib.hid hf3
  obtain ⟨-, -, -, -, c4, -, -, -, -⟩ := hd3.cells
  have HLL := Lib.hid (show (d.line ++ [c]).length ≤ 500001 by simp; omega)
  obtain ⟨l, hll⟩ : ∃ l, l = d.line ++ [c] := ⟨_, rfl⟩
  rw [← hll] at HS1 HLL HD3 HN0
  have HN := Lib.hid HN0.out
  rw [← HN.out] at HS1 HLL
  clear hd3 ht3 hf3 hll HN0 HBS HLE hl
  by_cases hA : c ≠ 10 ∧ n < 256
  · have g1 : ((c.toNat : Int) != 10) = true := by
      simp
      intro e
      exact hA.1 (UInt8.toNat_inj.1 (show c.toNat = 10 by omega))
    have g2 : (n : Int) < 256 := by omega
    have HE := Lib.hid (show dq = { d with line := l, nx := .size } by rw [HS1.out, if_pos hA])
    clear hA HS1
    go_wp2
    go_ret
    exact StP.mk' (v := fnS 37) (K' := []) (HE.out ▸ HD3.out.nxAny .size) (by rw [HE.out]; exact ⟨rfl, rfl⟩) HT3.out HF3.out (by simp) (by simp) rfl
  · have HE := Lib.hid (show dq = d.sized l by rw [HS1.out, if_neg hA])
    have HEN := Lib.hid (ended_any HD3.out)
    have HSZ : Hid (∀ W, GX W → Calls Tryz.prog 47 #[.string ⟨l.toArray⟩] W fun e w' => e = .returned (SzV (sizeL l)) ∧ Below W.heap.size W w') := Lib.hid (fun W hg => size_any ⟨l.toArray⟩ W (by rw [Lib.size_eq]; show l.length ≤ _; have := HLL.out; have := HN.out; omega) hg.1 hg.2)
    have hor : (c.toNat : Int) = 10 ∨ (((c.toNat : Int) != 10) = true ∧ decide ((n : Int) < 256) = false) := by
      by_cases e : (c.toNat : Int) = 10
      · exact .inl e
      · refine .inr ⟨by simpa using e, ?_⟩
        simp
        have : ¬ n < 256 := fun h => hA ⟨fun e2 => e (by rw [e2]; rfl), h⟩
        omega
    clear HS1 hA
    generalize (c.toNat : Int) = q at hor ⊢
    rcases hor with rfl | ⟨g1, g2⟩
    all_goals
      go_wp2_with fail
      refine (Hid.out HEN).mono ?_
      rintro e w4 ⟨rfl, hd4, ht4⟩
      have HD4 := Lib.hid hd4
      have HT4 := Lib.hid (HT3.out.trans ht4 (fun i hi => .inl (foot_p (lv := lv) (bv := bv) i hi)))
      clear hd4 ht4 HEN c4 HD3
      go_wp2_with fail
      refine (HSZ.out w4 (HGX.out.turns HT4.out HLF.out)).mono ?_
      rintro e w5 ⟨rfl, hb5⟩
      have hd5 := HD4.out.below hb5
      have HT5 := Lib.hid (HT4.out.trans (Turns.of_below hb5 (Nat.le_refl _)) (by simp))
      have hsz : w.heap.size ≤ w5.heap.size := HT5.out.size
      have HD5 := Lib.hid hd5
      obtain ⟨c0, -, -, c3, -, -, -, -, cf⟩ := hd5.cells
      have cf0 := cf 0
      have cf3 := cf 3
      have HZ := Lib.hid hsz
      clear hb5 HD4 HSZ hd5 cf hsz
      have HFN : Hid (∀ g ∈ foot p (.slice none 0 0) bv, g ∈ foot p lv bv ∨ w.heap.size ≤ g) := Lib.hid (fun g hg => .inl (foot_nil g hg))
      cases hx : sizeL l with
      | none =>
        have HF := Lib.hid (fail_any HD5.out 12)
        change Hid (Calls _ _ #[_, .int .i64 12] _ _) at HF
        have HE2 := Lib.hid (show dq = ({ d with line := [] } : Dc).fail 12 by rw [HE.out]; unfold Dc.sized; rw [hx])
        clear hx HE
        unfold SzV
        go_wp2_with fail
        refine (Hid.out HF).mono ?_
        rintro e w6 ⟨rfl, hd6, ht6⟩
        have HD6 := Lib.hid hd6
        have HT6 := Lib.hid (HT5.out.trans ht6 (fun i hi => .inl (foot_p (lv := lv) (bv := bv) i hi)))
        clear hd6 ht6
        go_wp2
        go_ret
        exact StP.mk' (v := .nilFunc) (K' := []) (HE2.out ▸ HD6.out) (by rw [HE2.out]; exact ⟨rfl, rfl⟩) HT6.out HFN.out (by simp) (by simp) rfl
      | some m =>
        unfold SzV
        by_cases hrm : d.room < m
        · have HF := Lib.hid (fail_any HD5.out 13)
          change Hid (Calls _ _ #[_, .int .i64 13] _ _) at HF
          have HE2 := Lib.hid (show dq = ({ d with line := [] } : Dc).fail 13 by rw [HE.out]; unfold Dc.sized; rw [hx]; exact if_pos hrm)
          have g3 : (d.room : Int) < (m : Int) := by omega
          clear hx HE
          go_wp2_with fail
          refine (Hid.out HF).mono ?_
          rintro e w6 ⟨rfl, hd6, ht6⟩
          have HD6 := Lib.hid hd6
          have HT6 := Lib.hid (HT5.out.trans ht6 (fun i hi => .inl (foot_p (lv := lv) (bv := bv) i hi)))
          clear hd6 ht6
          go_wp2
          go_ret
          exact StP.mk' (v := .nilFunc) (K' := []) (HE2.out ▸ HD6.out) (by rw [HE2.out]; exact ⟨rfl, rfl⟩) HT6.out HFN.out (by simp) (by simp) rfl
        · have g3 : decide ((d.room : Int) < (m : Int)) = false := by simp; omega
          by_cases hm0 : m = 0
          · have HE2 := Lib.hid (show dq = { d with line := [], nx := .trailer } by rw [HE.out]; unfold Dc.sized; rw [hx]; exact (if_neg hrm).trans (if_pos hm0))
            subst hm0
            clear hx HE hrm
            go_wp2
            go_ret
            exact StP.mk' (v := fnS 49) (K' := []) (HE2.out ▸ HD5.out.nxAny .trailer) (by rw [HE2.out]; exact ⟨rfl, rfl⟩) HT5.out HFN.out (by simp) (by simp) rfl
          · have HE2 := Lib.hid (show dq = { d with line := [], left := m, room := d.room - m, nx := .cr } by rw [HE.out]; unfold Dc.sized; rw [hx]; exact (if_neg hrm).trans (if_neg hm0))
            have g4 : ((m : Int) == 0) = false := by simp; omega
            have g5 : IntKind.i64.wrap ((d.room : Int) - (m : Int)) = (d.room : Int) - (m : Int) := by rw [IntKind.wrap_i64]; omega
            have hcast : (d.room : Int) - (m : Int) = ((d.room - m : Nat) : Int) := by omega
            rw [hcast] at g5
            have HTS : Hid (Turns [p] w5 ((w5.setCell ⟨p, 0, none⟩ (.int .i64 (m : Int))).setCell ⟨p, 3, none⟩ (.int .i64 ((d.room - m : Nat) : Int)))) := Lib.hid ((Turns.setCell w5 ⟨p, 0, none⟩ _ (List.mem_singleton.2 rfl)).trans (Turns.setCell (F := [p]) _ ⟨p, 3, none⟩ _ (List.mem_singleton.2 rfl)) (fun i hi => .inl hi))
            have HDS : Hid (DecR B ((w5.setCell ⟨p, 0, none⟩ (.int .i64 (m : Int))).setCell ⟨p, 3, none⟩ (.int .i64 ((d.room - m : Nat) : Int))) p { d with line := [], left := m, room := d.room - m, nx := .cr } (.slice none 0 0) bv nv) := Lib.hid (HD5.out.set HTS.out (heap_setCell_same _ p 3 _ _ _ (heap_setCell_same _ p 0 _ _ _ HD5.out.head)) rfl rfl)
            clear hx HE hrm hm0
            go_upto_region 12 with fail
            have HTR := Lib.hid (HT5.out.trans HTS.out (fun i hi => .inl (foot_p (lv := lv) (bv := bv) i hi)))
            generalize (w5.setCell ⟨p, 0, none⟩ (.int .i64 (m : Int))).setCell ⟨p, 3, none⟩ (.int .i64 ((d.room - m : Nat) : Int)) = w6 at HDS HTR ⊢
            have HM1 : Hid (Calls Tryz.prog 50 #[.int .u8 10, fnS 37] w6 fun en w' => en = .returned (mustV w6.heap.size (w6.heap.size + 1)) ∧ BoxU w' w6.heap.size 10 ∧ BoxF w' (w6.heap.size + 1) (fnS 37) ∧ Below w6.heap.size w6 w') := Lib.hid (must_any w6 10 (fnS 37) rfl)
            clear HTS c0 c3 cf0 cf3 HD5 HT5 HZ
            go_wp2_with fail
            refine (Hid.out HM1).mono ?_
            rintro e w7 ⟨rfl, hu7, hf7, hb7⟩
            have HM2 : Hid (Calls Tryz.prog 50 #[.int .u8 13, mustV w6.heap.size (w6.heap.size + 1)] w7 fun en w' => en = .returned (mustV w7.heap.size (w7.heap.size + 1)) ∧ BoxU w' w7.heap.size 13 ∧ BoxF w' (w7.heap.size + 1) (mustV w6.heap.size (w6.heap.size + 1)) ∧ Below w7.heap.size w7 w') := Lib.hid (must_any w7 13 (mustV w6.heap.size (w6.heap.size + 1)) rfl)
            have HU7 := Lib.hid hu7
            have HF7 := Lib.hid hf7
            have HB7 := Lib.hid hb7
            clear hu7 hf7 hb7 HM1
            go_wp2_with fail
            refine (Hid.out HM2).mono ?_
            rintro e w8 ⟨rfl, hu8, hf8, hb8⟩
            have HU8 := Lib.hid hu8
            have HF8 := Lib.hid hf8
            have HB8 := Lib.hid hb8
            clear hu8 hf8 hb8 HM2
            go_wp2
            go_ret
            have hd8 := (HDS.out.below HB7.out).below HB8.out
            have ht8 := (HTR.out.trans (Turns.of_below HB7.out (Nat.le_refl _)) (by simp)).trans (Turns.of_below HB8.out (Nat.le_refl _)) (by simp)
            have hu : BoxU w8 w6.heap.size 10 := (HB8.out.block _ (lt_of_block HU7.out)).trans HU7.out
            have hf : BoxF w8 (w6.heap.size + 1) (fnS 37) := (HB8.out.block _ (lt_of_block HF7.out)).trans HF7.out
            have s6 := HTR.out.size
            have s7 := HB7.out.size
            have hlf := HDS.out.ltF
            refine StP.mk' (v := mustV w7.heap.size (w7.heap.size + 1)) (K' := [w7.heap.size, w7.heap.size + 1, w6.heap.size, w6.heap.size + 1]) (HE2.out ▸ hd8) (by rw [HE2.out]; exact ⟨_, _, _, _, rfl, rfl, HU8.out, HF8.out, hu, hf⟩) ht8 HFN.out (fun g hg => ?_) (fun g hg hm => ?_) rfl
            · simp at hg
              exact .inr (by omega)
            · have := (hlf g hm).2
              simp at hg
              omega
end Go.Proofs.YtlelemjmknbnaaaGreatDoor
