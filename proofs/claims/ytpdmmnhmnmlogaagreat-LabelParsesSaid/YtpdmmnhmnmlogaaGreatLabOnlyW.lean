/- The program's Only: slices.DeleteFunc at labels, and Only itself. -/
import Derived.Test.YtpdmmnhmnmlogaaGreatLabOnly
import Derived.Lib.EndianMore
namespace Go.Proofs.YtpdmmnhmnmlogaaGreat
open Go.RowKit

def DelPost (B : Nat) (L : List Lbl) (e : Ending) (w' : World) : Prop := ∃ A' c', e = .returned (.slice A' L.length c') ∧ LReads w' w'.heap.size A' L
theorem flatL_at' {l : List Lbl} {j : Nat} (hj : j < l.length * 2) : ((flatL l)[j]?).isSome = true := by
  rw [List.getElem?_eq_getElem (by rw [flatL_len]; exact hj)]
  rfl
theorem owned_cells {B g cap : Nat} {w : World} {l : List Lbl} (h : OwnedL B w (.slice (some ⟨g, 0, none⟩) l.length cap) l) : ∀ j, j < l.length * 2 → w.cell? ⟨g, j, none⟩ = (flatL l)[j]? := fun j hj => World.ownsRow.cellAt h j hj
theorem owned_free {B g cap : Nat} {w : World} {l : List Lbl} (h : OwnedL B w (.slice (some ⟨g, 0, none⟩) l.length cap) l) : ∀ j, w.frozen? ⟨g, j, none⟩ = false := fun j => World.ownsRow.frozenAt h j
theorem cleared {B g cap i n : Nat} {w : World} {l' : List Lbl} (h : OwnedL B w (.slice (some ⟨g, 0, none⟩) l'.length cap) l') (hi : i ≤ l'.length) (vs : List Value) :
    LReads (w.setCells g (i * 2) vs) (w.setCells g (i * 2) vs).heap.size (some ⟨g, 0, none⟩) (l'.take i) := by
  rcases h.form with ⟨h1, _⟩ | ⟨g', cap', h1, _, hg, _, _⟩
  · cases h1
  · cases h1
    have hsz : (w.setCells g (i * 2) vs).heap.size = w.heap.size := by
      clear h hi
      generalize i * 2 = o
      induction vs generalizing w o with
      | nil => rfl
      | cons v vs ih =>
        show ((w.setCell ⟨g, o, none⟩ v).setCells g (o + 1) vs).heap.size = _
        rw [ih (by simpa using hg)]
        simp
    refine .inr ⟨g, 0, rfl, by rw [hsz]; exact hg, fun j u hj => ?_⟩
    have hlt : j < i * 2 := by
      have := (List.getElem?_eq_some_iff.1 hj).1
      rw [flatL_len, List.length_take] at this
      have : min i l'.length ≤ i := Nat.min_le_left _ _
      omega
    rw [World.cell?_setCells_out g vs (i * 2) w ⟨g, 0 + j, none⟩ (fun _ _ => .inl (by simpa using hlt))]
    rw [Nat.zero_add, owned_cells h j (by omega)]
    exact flatL_take l' i j hj
set_option maxRecDepth 100000 in
set_option maxHeartbeats 6000000 in
theorem delf_any (B b : Nat) (A : Option Addr) (cap : Nat) (l : List Lbl) (bs : List (List UInt8)) (w : World) (hB : B ≤ w.heap.size) (hl : l.length ≤ 1000) (hc : ClosAt B b bs w) (hown : OwnedL B w (.slice A l.length cap) l) :
    Calls Tryz.prog 24 #[.slice A l.length cap, .func (.func 25) #[] #[.pointer (some ⟨b, 0, none⟩)]] w fun e w' => DelPost B (onlyL bs l) e w' ∧ Below B w w' := by
  obtain ⟨A', cap', hAc, hrd, _, _⟩ := hown.reads
  cases hAc
  have HI := Lib.hid (idxf_any B b A cap l bs w hB hl hc hrd)
  have HC := Lib.hid hc
  have HO := Lib.hid hown
  clear hc hown hrd
  go_enter Tryz.func24, Tryz.ntmps24
  go_wp2_with fail
  refine (Hid.out HI).mono ?_
  rintro e w1 ⟨⟨i0, rfl, hfirst⟩, hb1⟩
  have HO1 := Lib.hid (HO.out.below hb1)
  have HB1 := Lib.hid (hb1.mono hB)
  have hB1 : B ≤ w1.heap.size := Nat.le_trans hB hb1.size
  clear hb1
  rcases hfirst with ⟨rfl, hall⟩ | ⟨k, x0, rfl, hx0, hm0, hall⟩
  · have HE := Lib.hid (onlyL_all hall)
    clear hall
    go_wp2
    go_ret
    obtain ⟨A', cap', hAc, hrd, _, _⟩ := HO1.out.reads
    cases hAc
    refine ⟨⟨A, cap, ?_, ?_⟩, HB1.out⟩
    · rw [HE.out]; rfl
    · rw [HE.out]; exact hrd
  · have HK := Lib.hid (KeptL.start hx0 hm0 hall)
    have hkl := (List.getElem?_eq_some_iff.1 hx0).1
    have hne1 : ((k : Int) == -1) = false := beq_eq_false_iff_ne.2 (by omega)
    have hk0 : (0 : Int) ≤ (k : Int) := by omega
    obtain ⟨g, rfl, hBg⟩ : ∃ g, A = some ⟨g, 0, none⟩ ∧ B ≤ g := by
      rcases HO1.out.form with ⟨h1, h2⟩ | ⟨g, c, h1, h2, _⟩
      · rw [h2] at hkl; simp at hkl
      · cases h1
        exact ⟨g, rfl, h2⟩
    have hcl2 : l.length ≤ cap := by
      rcases HO1.out.form with ⟨h1, h2⟩ | ⟨g, c, h1, _, _, h2, _⟩
      · cases h1
      · cases h1
        exact h2
    have hcm : cap ≤ maxLen := by
      rcases HO1.out.form with ⟨h1, h2⟩ | ⟨g, c, h1, _, _, _, h2⟩
      · cases h1
      · cases h1
        exact h2
    unfold maxLen at hcm
    clear hall hx0 hm0
    go_wp2
    go_loopw [5, 6] (fun iv jv wr => ∃ (i j : Nat) (l' : List Lbl), iv = .int .i64 i ∧ jv = .int .i64 j ∧ j ≤ l.length ∧ Hid (KeptL bs l j i l') ∧ Hid (OwnedL B wr (.slice (some ⟨g, 0, none⟩) l'.length cap) l') ∧ Hid (Below B w wr) ∧ B ≤ wr.heap.size) (fun _ jv _ => l.length - (intOf jv).toNat)
    case atStart => exact ⟨k, k + 1, l, rfl, by go_num, by omega, HK, HO1, HB1, hB1⟩
    case round =>
      obtain ⟨i, j, l', rfl, rfl, hj, HKE, HOR, HBR, hBr⟩ := hrel
      have hij := HKE.out.lt
      have hlen := HKE.out.len
      have hi0 : (0 : Int) ≤ (i : Int) := by omega
      have hj0 : (0 : Int) ≤ (j : Int) := by omega
      have hic : (i : Int) < (l.length : Int) := by omega
      by_cases hlt : j < l.length
      · have hlt' : (j : Int) < (l.length : Int) := by omega
        obtain ⟨x, hx⟩ : ∃ x, l[j]? = some x := ⟨_, List.getElem?_eq_getElem hlt⟩
        have hx' : l'[j]? = some x := (HKE.out.rest j (Nat.le_refl _)).trans hx
        have hc1 : wr.cell? ⟨g, j * 2, none⟩ = some (.string ⟨x.1.toArray⟩) := (owned_cells HOR.out (j * 2) (by omega)).trans (flatL_at hx').1
        have hc2 : wr.cell? ⟨g, j * 2 + 1, none⟩ = some (.string ⟨x.2.toArray⟩) := (owned_cells HOR.out (j * 2 + 1) (by omega)).trans (flatL_at hx').2
        have HA := Lib.hid (below_alloc hBr (.cells #[.string ⟨x.1.toArray⟩, .string ⟨x.2.toArray⟩] 42))
        have HX := Lib.hid hx
        have hil : i < l'.length := by omega
        have hfr1 := owned_free HOR.out (i * 2)
        have hfr2 := owned_free HOR.out (i * 2 + 1)
        have hce1 : wr.cell? ⟨g, i * 2, none⟩ = (flatL l')[i * 2]? := owned_cells HOR.out (i * 2) (by omega)
        have hce2 : wr.cell? ⟨g, i * 2 + 1, none⟩ = (flatL l')[i * 2 + 1]? := owned_cells HOR.out (i * 2 + 1) (by omega)
        obtain ⟨z1, hz1⟩ := Option.isSome_iff_exists.1 (flatL_at' (l := l') (j := i * 2) (by omega))
        obtain ⟨z2, hz2⟩ := Option.isSome_iff_exists.1 (flatL_at' (l := l') (j := i * 2 + 1) (by omega))
        rw [hz1] at hce1
        rw [hz2] at hce2
        clear hx hx' hz1 hz2 hlen
        have hgl : g < wr.heap.size := by
          rcases HOR.out.form with ⟨h1, _⟩ | ⟨g', c', h1, _, h2, _⟩
          · cases h1
          · cases h1
            exact h2
        have HCL := Lib.hid (HC.out (wr.alloc (.cells #[.string ⟨x.1.toArray⟩, .string ⟨x.2.toArray⟩] 42)) x (HBR.out.trans HA.out))
        have HOA := Lib.hid (HOR.out.alloc (.cells #[.string ⟨x.1.toArray⟩, .string ⟨x.2.toArray⟩] 42))
        have b1 : (wr.alloc (.cells #[.string ⟨x.1.toArray⟩, .string ⟨x.2.toArray⟩] 42)).cell? ⟨wr.heap.size, 0, none⟩ = some (.string ⟨x.1.toArray⟩) := by simp
        have b2 : (wr.alloc (.cells #[.string ⟨x.1.toArray⟩, .string ⟨x.2.toArray⟩] 42)).cell? ⟨wr.heap.size, 1, none⟩ = some (.string ⟨x.2.toArray⟩) := by simp
        have g1 := (World.cell?_alloc_lt wr (.cells #[.string ⟨x.1.toArray⟩, .string ⟨x.2.toArray⟩] 42) ⟨g, i * 2, none⟩ hgl).trans hce1
        have g2 := (World.cell?_alloc_lt wr (.cells #[.string ⟨x.1.toArray⟩, .string ⟨x.2.toArray⟩] 42) ⟨g, i * 2 + 1, none⟩ hgl).trans hce2
        have hsA : (wr.alloc (.cells #[.string ⟨x.1.toArray⟩, .string ⟨x.2.toArray⟩] 42)).heap.size = wr.heap.size + 1 := by simp
        by_cases hm : x.1 ∈ bs
        · rw [decide_eq_true hm] at HCL
          have HK2 := Lib.hid (HKE.out.keep HX.out hm)
          have hft := fun q => owned_free HOA.out q
          have B1 := Lib.hid b1
          have B2 := Lib.hid b2
          have G1 := Lib.hid g1
          have G2 := Lib.hid g2
          have FT := Lib.hid hft
          have HSA := Lib.hid hsA
          clear hm b1 b2 g1 g2 hft hsA
          go_wp2_with fail
          refine (Hid.out HCL).mono ?_
          rintro e w2 ⟨rfl, hb2⟩
          have m1 := (hb2.cell (p := ⟨wr.heap.size, 0, none⟩) (by rw [HSA.out]; simp)).trans B1.out
          have m2 := (hb2.cell (p := ⟨wr.heap.size, 1, none⟩) (by rw [HSA.out]; simp)).trans B2.out
          have m3 := (hb2.cell (p := ⟨g, i * 2, none⟩) (by rw [HSA.out]; simp; omega)).trans G1.out
          have m4 := (hb2.cell (p := ⟨g, i * 2 + 1, none⟩) (by rw [HSA.out]; simp; omega)).trans G2.out
          have m5 := (hb2.frozen (p := ⟨g, i * 2, none⟩) (by rw [HSA.out]; simp; omega)).trans (FT.out _)
          have m6 := (hb2.frozen (p := ⟨g, i * 2 + 1, none⟩) (by rw [HSA.out]; simp; omega)).trans (FT.out _)
          have HO2 := Lib.hid (HOA.out.below hb2)
          have HB2 := Lib.hid ((HBR.out.trans HA.out).trans (hb2.mono (Nat.le_trans hBr (by rw [HSA.out]; omega))))
          have hB2 : B ≤ w2.heap.size := Nat.le_trans hB HB2.out.size
          have HO3 := Lib.hid (owned_set (i := i) x HO2.out)
          unfold strV at HO3
          clear hb2
          go_wp2
          go_roundw
          case rel => exact ⟨i + 1, j + 1, l'.set i x, by go_num, by go_num, by omega, HK2, HO3, Lib.hid ((HB2.out.setCell (p := ⟨g, i * 2, none⟩) hBg _).setCell (p := ⟨g, i * 2 + 1, none⟩) hBg _), by simpa using hB2⟩
          case measure => simp [intOf] <;> omega
        · rw [decide_eq_false hm] at HCL
          have HK2 := Lib.hid (HKE.out.skip HX.out hm)
          have HSA := Lib.hid hsA
          clear hm b1 b2 g1 g2 hsA
          go_wp2_with fail
          refine (Hid.out HCL).mono ?_
          rintro e w2 ⟨rfl, hb2⟩
          have HO2 := Lib.hid (HOA.out.below hb2)
          have HB2 := Lib.hid ((HBR.out.trans HA.out).trans (hb2.mono (Nat.le_trans hBr (by rw [HSA.out]; omega))))
          have hB2 : B ≤ w2.heap.size := Nat.le_trans hB HB2.out.size
          clear hb2
          go_wp2
          go_roundw
          case rel => exact ⟨i, j + 1, l', rfl, by go_num, by omega, HK2, HO2, HB2, hB2⟩
          case measure => simp [intOf] <;> omega
      · have hge : decide ((j : Int) < (l.length : Int)) = false := by simp; omega
        have hjl : j = l.length := by omega
        have HTK := Lib.hid (show l'.take i = onlyL bs l by rw [HKE.out.done, List.take_of_length_le (by omega)])
        have HLE := Lib.hid (show (onlyL bs l).length = i by rw [← HTK.out, List.length_take]; omega)
        have hci : ¬ cap = i := by omega
        have hic' : (i : Int) ≤ (cap : Int) := by omega
        have hcl : ∀ ty, (Builtin.clear_ #[22] ty #[.slice (some ⟨g, i * 2, none⟩) (l.length - i) (cap - i)]).run Tryz.prog wr = .ok (.tuple #[]) (wr.setCells g (i * 2) (List.replicate ((l.length - i) * 2) (.string ⟨#[]⟩))) := fun ty =>
          clear_labs wr ty g (i * 2) (l.length - i) (cap - i) (by omega) (fun t ht => by rw [owned_cells HOR.out (i * 2 + t) (by omega)]; exact flatL_at' (by omega)) (fun t _ => owned_free HOR.out _)
        generalize List.replicate ((l.length - i) * 2) (Value.string ⟨#[]⟩) = vs at hcl
        clear hjl
        go_wp2
        go_ret
        refine ⟨⟨some ⟨g, 0, none⟩, cap, ?_, ?_⟩, HBR.out.trans (Lib.below_setCells_w hBg _ _ _)⟩
        · rw [HLE.out]; rfl
        · rw [← HTK.out]
          exact cleared (n := 0) HOR.out (by omega) vs
set_option maxRecDepth 100000 in
set_option maxHeartbeats 4000000 in
theorem only_any (A2 : Option Addr) (cap2 : Nat) (s : ByteArray) (bs : List (List UInt8)) (m : Int) (w : World) (hs : s.size ≤ 100000) (hm : ML m w) (hbs : bs.length ≤ 1000) (hr : SReads w w.heap.size A2 bs) :
    Calls Tryz.prog 12 #[.string s, .slice A2 bs.length cap2] w fun e w' => e = .returned (.string ⟨(onlyP bs (parseP s.data.toList)).toArray⟩) ∧ Below w.heap.size w w' := by
  have hbA := below_alloc (Nat.le_refl w.heap.size) (.cells #[.slice A2 bs.length cap2] 23)
  have HBA := Lib.hid hbA
  have HP := Lib.hid (parse_any s m (w.alloc (.cells #[.slice A2 bs.length cap2] 23)) hs (hm.below hbA (Nat.le_refl _)))
  have HPS := Lib.hid (fun mm ls (h : parseP s.data.toList = some (mm, ls)) => parseP_small h)
  have HVV := Lib.hid (fun mm ls (h : parseP s.data.toList = some (mm, ls)) => valid_only (bs := bs) (parseP_sound h).1)
  have HCL : Hid (∀ w1, Below (w.heap.size + 1) (w.alloc (.cells #[.slice A2 bs.length cap2] 23)) w1 → ClosAt (w.heap.size + 1) w.heap.size bs w1) := Lib.hid (fun w1 h1 W x hW => by
    have hb := h1.trans hW
    have hsz : w.heap.size + 1 ≤ W.heap.size := by have := hb.size; simpa using this
    refine clos_any x w.heap.size A2 cap2 bs W (by omega) ((hb.cell (p := ⟨w.heap.size, 0, none⟩) (by simp)).trans (by simp)) hbs ?_
    exact ((((hr.keep fun p hp => World.cell?_alloc_lt _ _ p hp).more (Nat.le_succ _)).below hb).more hsz))
  obtain ⟨o, ho⟩ : ∃ o, o = parseP s.data.toList := ⟨_, rfl⟩
  rw [← ho] at HP HPS HVV ⊢
  have hsA : (w.alloc (.cells #[.slice A2 bs.length cap2] 23)).heap.size = w.heap.size + 1 := by simp
  have HSA := Lib.hid hsA
  have hmf : ∀ (fn : Fn) (first cap : Array Value) (w : World), (Instr.makeFunc fn first cap).run Tryz.prog w = .ok (.func fn first cap) w := fun _ _ _ _ => rfl
  clear hr ho hm hbA hsA
  go_enter Tryz.func12, Tryz.ntmps12
  go_wp2_with fail
  refine (Hid.out HP).mono ?_
  rintro e w1 ⟨h, hb⟩
  have HB := Lib.hid hb
  have HBW := Lib.hid (HBA.out.trans (hb.mono (by rw [HSA.out]; omega)))
  rcases h with ⟨mm, l, v, rfl, rfl, hown⟩ | ⟨rfl, rfl⟩
  · obtain ⟨p1, p2, p3⟩ := HPS.out mm l rfl
    have HV := Lib.hid (HVV.out mm l rfl)
    have hC := HCL.out w1 (by rw [HSA.out] at hb; exact hb)
    rw [HSA.out] at hown hb
    have hB1 : w.heap.size + 1 ≤ w1.heap.size := by have := hb.size; rw [HSA.out] at this; exact this
    obtain ⟨A, cap, rfl, _, _, _⟩ := hown.reads
    have HD := Lib.hid (delf_any (w.heap.size + 1) w.heap.size A cap l bs w1 hB1 (by omega) hC hown)
    have HMS := Lib.hid (show (⟨mm.toArray⟩ : ByteArray).size ≤ 200 by rw [Lib.size_eq]; exact p2)
    have HT : Hid (∀ (A' : Option Addr) (c' : Nat) (W : World), LReads W W.heap.size A' (onlyL bs l) → Calls Tryz.prog 23 #[.string ⟨mm.toArray⟩, .slice A' (onlyL bs l).length c'] W fun e w' => e = .returned (.string ⟨(onlyP bs (some (mm, l))).toArray⟩) ∧ Below W.heap.size W w') := Lib.hid (fun A' c' W h => by
      have hv := HV.out
      unfold validB at hv
      rw [Bool.and_eq_true, decide_eq_true_eq] at hv
      exact text_any A' c' ⟨mm.toArray⟩ (onlyL bs l) W HMS.out hv.2 (checkB_labs hv.1) h)
    generalize onlyL bs l = L at HD HT
    clear hb hown hC p2 p3
    go_wp2_with fail
    refine (Hid.out HD).mono ?_
    rintro e w2 ⟨⟨A', c', rfl, hrd⟩, hb2⟩
    have HT2 := Lib.hid (HT.out A' c' w2 hrd)
    have HB2 := Lib.hid (HBW.out.trans (hb2.mono (Nat.le_succ _)))
    clear hb2 hrd
    go_wp2_with fail
    refine (Hid.out HT2).mono ?_
    rintro e w3 ⟨rfl, hb3⟩
    have HB3 := Lib.hid (HB2.out.trans (hb3.mono HB2.out.size))
    clear hb3
    go_wp2
    go_ret
    exact ⟨rfl, HB3.out⟩
  · clear hb
    go_wp2
    go_ret
    exact ⟨rfl, HBW.out⟩
end Go.Proofs.YtpdmmnhmnmlogaaGreat
