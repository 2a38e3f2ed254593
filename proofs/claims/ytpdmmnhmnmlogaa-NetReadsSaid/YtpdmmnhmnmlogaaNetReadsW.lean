/- NetReads: the walk. -/
import Derived.Test.YtpdmmnhmnmlogaaNetOne
namespace Go.Proofs.Ytpdmmnhmnmlogaa
open Go.RowKit

theorem add_plain0 (b off j : Nat) : (⟨b, off, none⟩ : Addr).add (j * 1) = ⟨b, off + j, none⟩ := by rw [Nat.mul_one]; exact add_plain' b off j
/-- A slice of bytes, opaque: its length, and its pieces. -/
structure Bv (v : Value) (B : Nat) (w0 : World) (bs : List UInt8) : Prop where
  len : ∀ ty w, (Builtin.len_ #[30] ty #[v]).run Try.prog w = .ok (.int .i64 (bs.length : Int)) w
  cut : ∀ l h : Nat, l ≤ h → h ≤ bs.length → ∃ A c, (∀ w, (Instr.slice 30 v (some (.int .i64 (l : Int))) (some (.int .i64 (h : Int))) none).run Try.prog w = .ok (.slice A (h - l) c) w) ∧ BReads w0 B A ((bs.drop l).take (h - l)) ∧ (A = none → c = 0)
  pre : ∀ h : Nat, h ≤ bs.length → ∃ A c, (∀ w, (Instr.slice 30 v none (some (.int .i64 (h : Int))) none).run Try.prog w = .ok (.slice A h c) w) ∧ BReads w0 B A (bs.take h)
theorem size_u8 (w : World) : (sizeOf 5).run Try.prog w = .ok 1 w := by kernel_rfl
theorem elem_u8 : Try.prog.underlying 30 = some (.slice (Try.prog.elem 30)) := by kernel_rfl
theorem elem_is : Try.prog.elem 30 = 5 := by kernel_rfl
theorem BReads.part {w : World} {B : Nat} {A : Option Addr} {l : List UInt8} (h : BReads w B A l) (cap i n : Nat) (hi : i + n ≤ l.length) (hc : l.length ≤ cap) : BReads w B (if cap = i then A else A.map (·.add (i * 1))) ((l.drop i).take n) := by
  rcases h with rfl | ⟨b, off, rfl, hb, hc2⟩
  · exact .inl (by simp)
  · by_cases hci : cap = i
    · obtain rfl : n = 0 := by omega
      exact .inl (by simp)
    · rw [if_neg hci]
      refine .inr ⟨b, off + i, by simp [add_plain'], hb, fun j c hj => ?_⟩
      rw [List.getElem?_take] at hj
      split at hj
      · rw [List.getElem?_drop] at hj
        have := hc2 (i + j) c hj
        rwa [← Nat.add_assoc] at this
      · cases hj
theorem bv_of {A : Option Addr} {cap : Nat} {bs : List UInt8} {w : World} {B : Nat} (h : BReads w B A bs) (hcap : bs.length ≤ cap) (hn : A = none → cap = 0) : Bv (.slice A bs.length cap) B w bs := by
  refine ⟨fun ty w => ?_, fun l h' hl hh => ?_, fun h' hh => ?_⟩
  · simp [Builtin.len_, run_underlying elem_u8, goInt, Result.andThen]
  · refine ⟨_, cap - l, fun w' => ?_, h.part cap l (h' - l) (by omega) hcap, fun hA => ?_⟩
    · rw [run_slice_lh (P := Try.prog) w' 30 A bs.length cap elem_u8 .i64 .i64 (l : Int) (h' : Int) (by omega) (by omega) (by omega), elem_is, size_u8]
      rfl
    · cases A with
      | none =>
        have := hn rfl
        omega
      | some a => split at hA <;> simp at hA
  · have hp := h.part cap 0 h' (by omega) hcap
    rw [List.drop_zero] at hp
    refine ⟨_, cap, fun w' => ?_, hp⟩
    rw [run_slice_h (P := Try.prog) w' 30 A bs.length cap elem_u8 .i64 (h' : Int) (by omega) (by omega), elem_is, size_u8]
    rfl
def IReads (w : World) (B : Nat) (A : Option Addr) (l : List Int) : Prop :=
  l = [] ∨ ∃ b off, A = some ⟨b, off, none⟩ ∧ b < B ∧ ∀ (j : Nat) z, l[j]? = some z → w.cell? ⟨b, off + j, none⟩ = some (.int .i64 z)
theorem IReads.at {w : World} {B : Nat} {A : Option Addr} {l : List Int} (h : IReads w B A l) (hl : 0 < l.length) : ∃ b off, A = some ⟨b, off, none⟩ ∧ b < B ∧ ∀ (j : Nat) z, l[j]? = some z → w.cell? ⟨b, off + j, none⟩ = some (.int .i64 z) := by
  rcases h with rfl | h
  · simp at hl
  · exact h
namespace netReads
def Fin (w : World) (e : Ending) (w' : World) : Prop := e = .returned (.bool true) ∧ Below w.heap.size w w'
set_option maxRecDepth 100000 in
set_option maxHeartbeats 2000000 in
theorem early (bv : Value) (A2 : Option Addr) (c2 : Nat) (bs : List UInt8) (ps : List Int) (w : World) (hb : Bv bv w.heap.size w bs) (hl : bs.length ≤ 9223372036854775807) (hp : ps.length ≤ 9223372036854775807) (h : 3000 < bs.length ∨ 60 < ps.length) :
    Calls Try.prog 5 #[bv, .slice A2 ps.length c2] w (Fin w) := by
  have hlen := hb.len
  have HK := Lib.hid (known_yes w.heap.size w (Nat.le_refl _))
  by_cases h3 : 3000 < bs.length
  · have h3' : decide (3000 < (bs.length : Int)) = true := by simp; omega
    clear hb h
    go_enter Try.func5, Try.ntmps5
    go_wp2_with fail
    refine (Hid.out HK).mono ?_
    rintro e w1 ⟨rfl, hb1⟩
    go_wp2
    go_ret
    exact ⟨rfl, hb1⟩
  · have h3' : decide (3000 < (bs.length : Int)) = false := by simp; omega
    have h6' : decide (60 < (ps.length : Int)) = true := by simp; omega
    clear hb h
    go_enter Try.func5, Try.ntmps5
    go_wp2_with fail
    refine (Hid.out HK).mono ?_
    rintro e w1 ⟨rfl, hb1⟩
    go_wp2
    go_ret
    exact ⟨rfl, hb1⟩
set_option maxRecDepth 100000 in
set_option maxHeartbeats 6000000 in
theorem main (bv : Value) (A2 : Option Addr) (c2 : Nat) (bs : List UInt8) (ps : List Int) (w : World) (hb : Bv bv w.heap.size w bs) (hl : bs.length ≤ 3000) (hp : ps.length ≤ 60) (hr : IReads w w.heap.size A2 ps) :
    Calls Try.prog 5 #[bv, .slice A2 ps.length c2] w (Fin w) := by
  have hlen := hb.len
  have h3' : decide (3000 < (bs.length : Int)) = false := by simp; omega
  have h6' : decide (60 < (ps.length : Int)) = false := by simp; omega
  have HNW := Lib.hid (one_new w.heap.size w 1 (Nat.le_refl _) (by decide))
  have HBV := Lib.hid hb
  have HR := Lib.hid hr
  have HK := Lib.hid (fun W (h : Below w.heap.size w W) => known_yes w.heap.size W h.size)
  clear hb hr
  go_enter Try.func5, Try.ntmps5
  go_wp2_with fail
  refine (Hid.out HNW).mono ?_
  rintro e w1 ⟨⟨bn, bm, rfl, hn1⟩, hb1⟩
  have HB1 := Lib.hid hb1
  have HD := Lib.hid (one_dial hn1 (by decide) ⟨#[97]⟩ (by decide))
  clear hb1 hn1
  go_wp2_with fail
  refine (Hid.out HD).mono ?_
  rintro e w2 ⟨rfl, ⟨x2, ho2, hs2, hi2⟩, hb2⟩
  have HB2 := Lib.hid (HB1.out.trans hb2)
  have HA := Lib.hid (one_accept ho2 hs2)
  have HI2 := Lib.hid hi2
  clear hb2 ho2 hs2 hi2
  go_wp2_with fail
  refine (Hid.out HA).mono ?_
  rintro e w3 ⟨rfl, ho3, hb3⟩
  have HB3 := Lib.hid (HB2.out.trans hb3)
  have HO3 := Lib.hid ho3
  clear hb3 ho3
  go_wp2
  go_loopw [6, 7, 8] (fun gv tv iv wr => ∃ (G : ByteArray) (t i : Nat) (x : NE), gv = .string G ∧ tv = .int .i64 t ∧ iv = .int .i64 i ∧ t ≤ bs.length ∧ i ≤ ps.length ∧ Hid (G.data.toList ++ x.1.inn = bs.take t) ∧ Hid (OneAt w.heap.size wr bn bm 1 x) ∧ Hid (x.1.st = 2) ∧ Hid (Below w.heap.size w wr)) (fun _ _ iv _ => ps.length - (intOf iv).toNat)
  case atStart => exact ⟨⟨#[]⟩, 0, 0, _, rfl, rfl, rfl, Nat.zero_le _, Nat.zero_le _, Lib.hid (by show [] ++ x2.1.inn = _; rw [HI2.out]; simp), HO3, Lib.hid rfl, HB3⟩
  case round =>
    obtain ⟨G, t, i, x, rfl, rfl, rfl, ht, hi, HG, HO, HS, HB⟩ := hrel
    have ht0 : (0 : Int) ≤ (t : Int) := by omega
    have hi0 : (0 : Int) ≤ (i : Int) := by omega
    by_cases hlt : i < ps.length
    · have hlt' : (i : Int) < (ps.length : Int) := by omega
      obtain ⟨p, hpe⟩ : ∃ p, ps[i]? = some p := ⟨_, List.getElem?_eq_getElem hlt⟩
      obtain ⟨b2, o2, rfl, hb2, hc2⟩ := HR.out.at (by omega)
      have hcp := (HB.out.cell (p := ⟨b2, o2 + i, none⟩) hb2).trans (hc2 i p hpe)
      clear hc2 hpe
      obtain ⟨K, hK, hKl⟩ : ∃ K : Nat, min (max p 0) ((bs.length : Int) - (t : Int)) = (K : Int) ∧ t + K ≤ bs.length := ⟨(min (max p 0) ((bs.length : Int) - (t : Int))).toNat, by omega, by omega⟩
      obtain ⟨A, c, hsl, hbr, hAc⟩ := HBV.out.cut t (t + K) (by omega) hKl
      rw [Int.natCast_add, show t + K - t = K by omega] at hsl
      rw [show t + K - t = K by omega] at hbr
      have HSEG := Lib.hid (show ((bs.drop t).take K).length = K by rw [List.length_take, List.length_drop]; omega)
      have hgl : G.size + x.1.inn.length = t := by
        have := congrArg List.length HG.out
        rw [List.length_append, List.length_take, ← Lib.size_eq] at this
        omega
      have hAR := one_arrive HO.out HS.out w.heap.size A ((bs.drop t).take K) c (hbr.below HB.out) HB.out.size hAc (by rw [HSEG.out]; omega)
      rw [HSEG.out] at hAR
      have HAR := Lib.hid hAR
      clear hAR hbr hAc
      go_wp2_with fail
      refine (Hid.out HAR).mono ?_
      rintro e w4 ⟨rfl, ⟨x4, ho4, hs4, hi4⟩, hb4⟩
      have HB4 := Lib.hid (HB.out.trans hb4)
      have HO4 := Lib.hid ho4
      have HS4 := Lib.hid hs4
      have HG4 := Lib.hid (show G.data.toList ++ x4.1.inn = bs.take (t + K) by
        rw [hi4, ← List.append_assoc, HG.out, List.take_add])
      clear hb4 ho4 hs4 hi4 hK hsl hgl
      by_cases h3 : i % 3 = 2
      · have hr1 : ((i : Int) % 3 != 2) = false := by rw [bne_eq_false_iff_eq]; omega
        have HGX := HG4
        have HOX := HO4
        have HSX := HS4
        have HBX := HB4
        clear h3
        go_wp2_with fail
        have hgs : G.size + x4.1.inn.length = t + K := by
          have := congrArg List.length HGX.out
          rw [List.length_append, List.length_take, ← Lib.size_eq] at this
          omega
        have hsum : ((G.size : Int) + (x4.1.inn.length : Int) != (t : Int) + (K : Int)) = false := by rw [bne_eq_false_iff_eq]; omega
        have hsum' : ((G.size : Int) + (x4.1.inn.length : Int) == (t : Int) + (K : Int)) = true := by rw [beq_iff_eq]; omega
        obtain ⟨Ap, cp, hsp, hbp⟩ := HBV.out.pre G.size (by omega)
        have HBP := Lib.hid hbp
        have HLF := Lib.hid (one_left HOX.out)
        have HTK := Lib.hid (show G = ⟨(bs.take G.size).toArray⟩ from ba_eq (by
          have h := congrArg (fun l => l.take G.size) HGX.out
          simp only [List.take_take] at h
          rw [Nat.min_eq_left (by omega), List.take_left' (by rw [Lib.size_eq])] at h
          exact h))
        have hgb : (G.size : Int) ≤ 3000 := by omega
        have hxb : (x4.1.inn.length : Int) ≤ 3000 := by omega
        have HBL := Lib.hid (show ∀ W, Below w.heap.size w W → (convert 30 9 (.slice Ap G.size cp)).run Try.prog W = .ok (.string G) W from fun W hW => by
          have hl : (bs.take G.size).length = G.size := by rw [List.length_take]; omega
          have h := run_bytes_text W 9 30 Try.underlying30 Try.underlying9 cp (HBP.out.below hW)
          rw [hl, ← HTK.out] at h
          exact h)
        clear hgs hbp
        refine (Hid.out HLF).mono ?_
        rintro e w9 ⟨rfl, ho9, hb9⟩
        have HB9 := Lib.hid (HBX.out.trans hb9)
        have HO9 := Lib.hid ho9
        have hcv := HBL.out w9 HB9.out
        clear ho9 hb9
        go_wp2
        go_roundw
        case rel => exact ⟨G, t + K, i + 1, x4, rfl, by go_num, by go_num, hKl, by omega, HGX, HO9, HSX, HB9⟩
        case measure => simp [intOf] <;> omega
      · have hr1 : ((i : Int) % 3 != 2) = true := by rw [bne_iff_ne]; omega
        have HRD := Lib.hid (one_read HO4.out)
        clear h3
        go_wp2_with fail
        refine (Hid.out HRD).mono ?_
        rintro e w5 ⟨v, rfl, ⟨x5, ho5, hs5, hi5⟩, hown5, hb5⟩
        have HB5 := Lib.hid (HB4.out.trans hb5)
        have HO5 := Lib.hid ho5
        obtain ⟨A5, c5, rfl, hcv5⟩ := owned_text hown5
        obtain ⟨G5, hG5⟩ : ∃ G5 : ByteArray, G5 = ⟨x4.1.inn.toArray⟩ := ⟨_, rfl⟩
        have hgl5 : G.size + G5.size = t + K := by
          have := congrArg List.length HG4.out
          rw [List.length_append, List.length_take, ← Lib.size_eq] at this
          rw [hG5, Lib.size_eq]
          show G.size + x4.1.inn.length = _
          omega
        have HG5 := Lib.hid (show (G ++ G5).data.toList ++ x5.1.inn = bs.take (t + K) by
          rw [hi5, List.append_nil, hG5]
          have e : (G ++ (⟨x4.1.inn.toArray⟩ : ByteArray)).data.toList = G.data.toList ++ x4.1.inn := by simp
          rw [e]
          exact HG4.out)
        have HS5 := Lib.hid (show x5.1.st = 2 by rw [hs5]; exact HS4.out)
        rw [← hG5] at hcv5
        generalize x4.1.inn.length = n5 at hcv5
        have z1 : ¬ (9223372036854775807 < G.size + G5.size) := by omega
        have HZ := Lib.hid hgl5
        clear hb5 ho5 hs5 hi5 hown5 hG5 hgl5
        go_wp2_with fail
        obtain ⟨GX, hGX⟩ : ∃ GX, GX = G ++ G5 := ⟨_, rfl⟩
        rw [← hGX] at HG5
        have hgx : GX.size = G.size + G5.size := by rw [hGX]; simp
        have hxz : G.size + G5.size + x5.1.inn.length = t + K := by
          have := congrArg List.length HG5.out
          rw [List.length_append, List.length_take, ← Lib.size_eq] at this
          omega
        have hsumB : ((G.size : Int) + (G5.size : Int) + (x5.1.inn.length : Int) != (t : Int) + (K : Int)) = false := by rw [bne_eq_false_iff_eq]; omega
        have hsb1 : (G.size : Int) ≤ 3000 := by omega
        have hsb2 : (G5.size : Int) ≤ 3000 := by omega
        rw [← hGX]
        have HGX := HG5
        have HOX := HO5
        have HSX := HS5
        have HBX := HB5
        clear hGX hgx hxz hcv5 z1
        have hgs : GX.size + x5.1.inn.length = t + K := by
          have := congrArg List.length HGX.out
          rw [List.length_append, List.length_take, ← Lib.size_eq] at this
          omega
        have hsum : ((GX.size : Int) + (x5.1.inn.length : Int) != (t : Int) + (K : Int)) = false := by rw [bne_eq_false_iff_eq]; omega
        have hsum' : ((GX.size : Int) + (x5.1.inn.length : Int) == (t : Int) + (K : Int)) = true := by rw [beq_iff_eq]; omega
        obtain ⟨Ap, cp, hsp, hbp⟩ := HBV.out.pre GX.size (by omega)
        have HBP := Lib.hid hbp
        have HLF := Lib.hid (one_left HOX.out)
        have HTK := Lib.hid (show GX = ⟨(bs.take GX.size).toArray⟩ from ba_eq (by
          have h := congrArg (fun l => l.take GX.size) HGX.out
          simp only [List.take_take] at h
          rw [Nat.min_eq_left (by omega), List.take_left' (by rw [Lib.size_eq])] at h
          exact h))
        have hgb : (GX.size : Int) ≤ 3000 := by omega
        have hxb : (x5.1.inn.length : Int) ≤ 3000 := by omega
        have HBL := Lib.hid (show ∀ W, Below w.heap.size w W → (convert 30 9 (.slice Ap GX.size cp)).run Try.prog W = .ok (.string GX) W from fun W hW => by
          have hl : (bs.take GX.size).length = GX.size := by rw [List.length_take]; omega
          have h := run_bytes_text W 9 30 Try.underlying30 Try.underlying9 cp (HBP.out.below hW)
          rw [hl, ← HTK.out] at h
          exact h)
        clear hgs hbp
        refine (Hid.out HLF).mono ?_
        rintro e w9 ⟨rfl, ho9, hb9⟩
        have HB9 := Lib.hid (HBX.out.trans hb9)
        have HO9 := Lib.hid ho9
        have hcv := HBL.out w9 HB9.out
        clear ho9 hb9
        go_wp2
        go_roundw
        case rel => exact ⟨GX, t + K, i + 1, x5, rfl, by go_num, by go_num, hKl, by omega, HGX, HO9, HSX, HB9⟩
        case measure => simp [intOf] <;> omega
    · have hge : decide ((i : Int) < (ps.length : Int)) = false := by simp; omega
      have HE := Lib.hid (one_end HO.out HS.out)
      have hgl : G.size + x.1.inn.length = t := by
        have := congrArg List.length HG.out
        rw [List.length_append, List.length_take, ← Lib.size_eq] at this
        omega
      have HGL := Lib.hid hgl
      clear hgl
      go_wp2_with fail
      refine (Hid.out HE).mono ?_
      rintro e w4 ⟨rfl, ho4, hb4⟩
      have HB4 := Lib.hid (HB.out.trans hb4)
      have HRD := Lib.hid (one_read ho4)
      clear hb4 ho4
      go_wp2_with fail
      refine (Hid.out HRD).mono ?_
      rintro e w5 ⟨v, rfl, ⟨x5, ho5, hs5, hi5⟩, hown5, hb5⟩
      have HB5 := Lib.hid (HB4.out.trans hb5)
      have HLF := Lib.hid (one_left ho5)
      rw [hi5] at HLF
      change Owned _ _ _ x.1.inn at hown5
      obtain ⟨A5, c5, rfl, hcv5⟩ := owned_text hown5
      obtain ⟨G5, hG5⟩ : ∃ G5 : ByteArray, G5 = ⟨x.1.inn.toArray⟩ := ⟨_, rfl⟩
      have hgl5 : G.size + G5.size = t := by
        rw [hG5, Lib.size_eq]
        exact HGL.out
      have HT := Lib.hid (show G ++ G5 = ⟨(bs.take t).toArray⟩ from ba_eq (by
        rw [hG5]
        have e : (G ++ (⟨x.1.inn.toArray⟩ : ByteArray)).data.toList = G.data.toList ++ x.1.inn := by simp
        rw [e]
        exact HG.out))
      rw [← hG5] at hcv5
      generalize x.1.inn.length = n5 at hcv5
      obtain ⟨Ap, cp, hsp, hbp⟩ := HBV.out.pre t ht
      have hbl : (convert 30 9 (.slice Ap t cp)).run Try.prog w5 = .ok (.string (G ++ G5)) w5 := by
        have hl : (bs.take t).length = t := by rw [List.length_take]; omega
        have h := run_bytes_text w5 9 30 Try.underlying30 Try.underlying9 cp (hbp.below HB5.out)
        rw [hl, ← HT.out] at h
        exact h
      have z1 : ¬ (9223372036854775807 < G.size + G5.size) := by omega
      clear hb5 ho5 hs5 hi5 hown5 hG5 hgl5 hbp
      go_wp2_with fail
      change Hid (Calls _ _ _ _ fun e w' => e = .returned (.int .i64 0) ∧ _ ∧ _) at HLF
      refine (Hid.out HLF).mono ?_
      rintro e w6 ⟨rfl, _, hb6⟩
      have HB6 := Lib.hid (HB5.out.trans hb6)
      clear hb6 hcv5 hbl
      go_wp2_with fail
      refine (HK.out w6 HB6.out).mono ?_
      rintro e w7 ⟨rfl, hb7⟩
      have HB7 := Lib.hid (HB6.out.trans hb7)
      clear hb7
      go_wp2
      go_ret
      exact ⟨rfl, HB7.out⟩
end netReads
end Go.Proofs.Ytpdmmnhmnmlogaa
