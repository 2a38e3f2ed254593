/- The document's Read. -/
import Derived.Test.YtnkpdnbnheffeaaDoorHeadRField
import Derived.Test.YtnkpdnbnheffeaaDoorHeadParse
namespace Go.Proofs.YtnkpdnbnheffeaaDoor
open Go.RowKit

theorem cutR_drop {s : List UInt8} (h : endedB s = true) : cutR s = s.drop ((cutL s).length + 2) ∧ (cutL s).length + 2 ≤ s.length := by
  have hh := h
  unfold endedB at hh
  rw [decide_eq_true_eq] at hh
  have hroom := Lib.index_room s tEnd hh
  have e2 : tEnd.length = 2 := rfl
  unfold cutR cutL
  rw [if_pos hh, if_pos hh, List.length_take, Nat.min_eq_left (by omega)]
  exact ⟨rfl, by omega⟩
def RrP (B : Nat) (line : List UInt8) (rd : Rd) (e : Ending) (w' : World) : Prop :=
  match rd with
  | .err n => e = .returned (.tuple #[.string ⟨#[]⟩, .slice none 0 0, .int .i64 0, .int .i64 (n : Int)])
  | .part => e = .returned (.tuple #[.string ⟨#[]⟩, .slice none 0 0, .int .i64 0, .int .i64 0])
  | .whole _ _ fs n => ∃ v, e = .returned (.tuple #[.string ⟨line.toArray⟩, v, .int .i64 (n : Int), .int .i64 0]) ∧ fK.Own B w' v fs
theorem BReads.from {w : World} {B : Nat} {g off : Nat} {l : List UInt8} (h : BReads w B (some ⟨g, off, none⟩) l) (t : Nat) : BReads w B (some ⟨g, off + t, none⟩) (l.drop t) := by
  rcases h with rfl | ⟨b, o, e, hb, hc⟩
  · exact .inl (by simp)
  · cases e
    refine .inr ⟨g, off + t, rfl, hb, fun j c hj => ?_⟩
    rw [List.getElem?_drop] at hj
    have := hc (t + j) c hj
    rwa [← Nat.add_assoc] at this
theorem occ_c {l : List UInt8} {i : Nat} {a c : UInt8} (h1 : l[i]? = some a) : Lib.occAt l [c] i = (c == a) := by
  have k1 := (List.getElem?_eq_some_iff.1 h1).1
  unfold Lib.occAt
  rw [List.drop_eq_getElem_cons k1, (List.getElem?_eq_some_iff.1 h1).2]
  show (c == a && List.isPrefixOf [] _) = _
  rw [List.isPrefixOf_nil_left, Bool.and_true]
theorem cut_make {a r : List UInt8} {c : UInt8} (h : c ∉ a) : Lib.cut (a ++ c :: r) [c] = (a, r, true) := by
  have hi : Lib.index (a ++ c :: r) [c] = a.length := by
    refine Lib.index_hit (fun j hj => ?_) (by simp) ?_
    · rw [occ_c (a := a[j]) (by rw [List.getElem?_append_left hj, List.getElem?_eq_getElem hj]), beq_eq_false_iff_ne]
      exact fun e => h (e ▸ List.getElem_mem _)
    · rw [occ_c (a := c) (by simp)]
      exact beq_self_eq_true c
  unfold Lib.cut
  rw [hi, if_pos (by omega), Int.toNat_natCast, List.take_left' rfl]
  simp
theorem cut_parts {l a r : List UInt8} {c : UInt8} (h : Lib.cut l [c] = (a, r, true)) : l = a ++ c :: r ∧ c ∉ a := by
  unfold Lib.cut at h
  split at h
  · rename_i h0
    rcases Lib.index_spec l [c] with ⟨h1, _⟩ | ⟨i, h1, h2, h3, h4⟩
    · omega
    · have hroom := Lib.index_room l [c] h0
      rw [h1] at h hroom
      have hl1 : ([c] : List UInt8).length = 1 := rfl
      have hlt : i < l.length := by omega
      rw [Int.toNat_natCast] at h
      obtain ⟨rfl, hh⟩ := Prod.mk.inj h
      obtain ⟨rfl, -⟩ := Prod.mk.inj hh
      have hc : c = l[i] := by
        rw [occ_c (List.getElem?_eq_getElem hlt), beq_iff_eq] at h3
        exact h3
      refine ⟨?_, fun hm => ?_⟩
      · conv => lhs; rw [← List.take_append_drop i l]
        rw [List.drop_eq_getElem_cons hlt, hl1, ← hc]
      · obtain ⟨j, hj, e⟩ := List.getElem_of_mem hm
        have hj' : j < i := by rw [List.length_take] at hj; omega
        have hf := h4 j hj'
        rw [occ_c (List.getElem?_eq_getElem (by omega)), beq_eq_false_iff_ne] at hf
        rw [List.getElem_take] at e
        exact hf e.symm
  · cases h
theorem dig_not {d : List UInt8} (h : d.all digB = true) : (32 : UInt8) ∉ d := by
  intro hm
  have := List.all_eq_true.1 h 32 hm
  exact absurd this (by decide)
/-- A status line, by its places. -/
theorem firstL_some {l : List UInt8} {old : Bool} {st : Nat} (h : firstL l = some (old, st)) : ∃ a d t : List UInt8, l = a ++ 32 :: (d ++ 32 :: t) ∧ isNum 3 3 d = true ∧ mayText t = true ∧ st = numL d ∧ ((old = true ∧ a = t10) ∨ (old = false ∧ a = t11)) := by
  obtain ⟨⟨a, r, b1⟩, h1⟩ : ∃ t, t = Lib.cut l [32] := ⟨_, rfl⟩
  obtain ⟨⟨d, t, is⟩, h2⟩ : ∃ t, t = Lib.cut r [32] := ⟨_, rfl⟩
  rw [firstL_of h1.symm h2.symm] at h
  split at h
  · rename_i hc
    obtain ⟨rfl, h3, h4⟩ := hc
    obtain ⟨hr, -⟩ := cut_parts h2.symm
    have hb : b1 = true := by
      cases b1 with
      | true => rfl
      | false =>
        exfalso
        unfold Lib.cut at h1
        split at h1
        · cases h1
        · obtain ⟨-, hh⟩ := Prod.mk.inj h1
          obtain ⟨e, -⟩ := Prod.mk.inj hh
          rw [e] at hr
          simp at hr
    subst hb
    obtain ⟨hl, -⟩ := cut_parts h1.symm
    refine ⟨a, d, t, by rw [hl, hr], h3, h4, ?_⟩
    split at h
    · rename_i ha
      cases h
      exact ⟨rfl, .inl ⟨rfl, ha⟩⟩
    · split at h
      · rename_i ha
        cases h
        exact ⟨rfl, .inr ⟨rfl, ha⟩⟩
      · cases h
  · cases h
theorem firstL_make {a d t : List UInt8} (ha : a = t10 ∨ a = t11) (hd : isNum 3 3 d = true) (ht : mayText t = true) : (firstL (a ++ 32 :: (d ++ 32 :: t))).isSome = true := by
  have hd' : d.all digB = true := by
    unfold isNum at hd
    rw [Bool.and_eq_true] at hd
    exact hd.2
  have h1 := cut_make (a := a) (r := d ++ 32 :: t) (c := 32) (by rcases ha with rfl | rfl <;> decide)
  have h2 := cut_make (a := d) (r := t) (c := 32) (dig_not hd')
  rw [firstL_of h1 h2, if_pos ⟨rfl, hd, ht⟩]
  rcases ha with rfl | rfl
  · rfl
  · rfl
theorem num3 {d : List UInt8} (h : isNum 3 3 d = true) : ∃ x y z, d = [x, y, z] ∧ digB x = true ∧ digB y = true ∧ digB z = true := by
  unfold isNum at h
  rw [Bool.and_eq_true, Bool.and_eq_true, decide_eq_true_eq, decide_eq_true_eq] at h
  obtain ⟨⟨h1, h2⟩, h3⟩ := h
  match d, h1, h2, h3 with
  | [x, y, z], _, _, h3 =>
    simp at h3
    exact ⟨x, y, z, rfl, h3.1, h3.2.1, h3.2.2⟩
theorem firstL_status (l : List UInt8) : (firstL l).isSome = statusB l := by
  rw [Bool.eq_iff_iff]
  constructor
  · intro h
    obtain ⟨⟨old, st⟩, hq⟩ := Option.isSome_iff_exists.1 h
    obtain ⟨a, d, t, rfl, hd, ht, -, ha⟩ := firstL_some hq
    obtain ⟨x, y, z, rfl, hx, hy, hz⟩ := num3 hd
    unfold statusB
    rcases ha with ⟨-, rfl⟩ | ⟨-, rfl⟩
    · simp [t10, t11, hx, hy, hz, ht]
    · simp [t10, t11, hx, hy, hz, ht]
  · intro h
    unfold statusB at h
    simp only [Bool.and_eq_true, Bool.or_eq_true, decide_eq_true_eq, beq_iff_eq] at h
    obtain ⟨hl, hT, h8, h12, h9, h10, h11, hR⟩ := h
    have key : l = l.take 8 ++ 32 :: ([l[9]?.getD 0, l[10]?.getD 0, l[11]?.getD 0] ++ 32 :: l.drop 13) := by
      conv => lhs; rw [← List.take_append_drop 8 l]
      congr 1
      rw [List.drop_eq_getElem_cons (show 8 < l.length by omega), List.drop_eq_getElem_cons (show 9 < l.length by omega), List.drop_eq_getElem_cons (show 10 < l.length by omega), List.drop_eq_getElem_cons (show 11 < l.length by omega), List.drop_eq_getElem_cons (show 12 < l.length by omega)]
      rw [List.getElem?_eq_getElem (show 8 < l.length by omega)] at h8
      rw [List.getElem?_eq_getElem (show 12 < l.length by omega)] at h12
      rw [List.getElem?_eq_getElem (show 9 < l.length by omega), List.getElem?_eq_getElem (show 10 < l.length by omega), List.getElem?_eq_getElem (show 11 < l.length by omega)]
      simp only [Option.getD_some] at h8 h12 ⊢
      rw [h8, h12]
      rfl
    rw [key]
    exact firstL_make (by rcases hT with h | h; exact .inr h; exact .inl h) (by simp [isNum, h9, h10, h11]) hR
theorem fdV_field (l : List UInt8) : (∃ f, fieldL l = some f ∧ FdV l = .tuple #[.agg #[.string ⟨f.1.toArray⟩, .string ⟨f.2.toArray⟩], .bool true]) ∨ (fieldL l = none ∧ ∃ x y : List UInt8, FdV l = .tuple #[.agg #[.string ⟨x.toArray⟩, .string ⟨y.toArray⟩], .bool false]) := by
  unfold fieldL FdV
  by_cases h : (Lib.cut l [58]).2.2 = true
  · by_cases h1 : mayName (Lib.cut l [58]).1 = true
    · by_cases h2 : mayText (Lib.cut l [58]).2.1 = true
      · left
        rw [if_pos ⟨h, h1, h2⟩, if_pos h, h1, h2]
        exact ⟨_, rfl, rfl⟩
      · right
        rw [if_neg (fun x => h2 x.2.2), if_pos h, h1, (by simpa using h2 : mayText _ = false)]
        exact ⟨rfl, _, _, rfl⟩
    · right
      rw [if_neg (fun x => h1 x.2.1), if_pos h, (by simpa using h1 : mayName _ = false)]
      exact ⟨rfl, _, _, rfl⟩
  · right
    rw [if_neg (fun x => h x.1), if_neg h]
    exact ⟨rfl, [], [], rfl⟩
set_option maxRecDepth 100000 in
set_option maxHeartbeats 2000000 in
theorem rread_any {w : World} {A : Option Addr} {c : Nat} {l : List UInt8} (hr : BReads w w.heap.size A l) (hc : l.length ≤ c) (hn : A = none → c = 0) (hl : l.length ≤ 1000000) :
    Calls Tryd.prog 22 #[.slice A l.length c] w fun e w' => RrP w.heap.size (cutL (l.take 8192)) (readL l) e w' ∧ Below w.heap.size w w' := by
  obtain ⟨N, hN⟩ : ∃ N, N = min l.length 8192 := ⟨_, rfl⟩
  obtain ⟨b, hb⟩ : ∃ b, b = l.take 8192 := ⟨_, rfl⟩
  have hbN : b = l.take N := by rw [hb, hN, List.take_eq_take_iff]; omega
  have HBR := Lib.hid (show BReads w w.heap.size A b from hbN ▸ hr.take N)
  have HBL := Lib.hid (show b.length = N by rw [hbN, List.length_take]; omega)
  have HRE := Lib.hid (readL_eq l hb)
  have HPL : Hid (partL l.length = if (l.length : Int) < 8192 then .part else .err 13) := Lib.hid (by unfold partL; by_cases h : 8192 ≤ l.length; rw [if_pos h, if_neg (by omega)]; rw [if_neg h, if_pos (by omega)])
  rw [← hb]
  obtain ⟨n, hnn⟩ : ∃ n, n = l.length := ⟨_, rfl⟩
  rw [← hnn] at hc hl hN HPL HRE ⊢
  have HLN : Hid (Calls Tryd.prog 41 #[.slice A N c] w fun e w' => e = .returned (LnV b) ∧ w = w') := Lib.hid (by
    have h := line_any HBR.out (c := c) (by rw [HBL.out]; omega) (by rw [HBL.out]; omega)
    rw [HBL.out] at h
    exact h)
  have hNc : (N : Int) ≤ (c : Int) := by omega
  clear hbN hb hr hnn
  go_enter Tryd.func22, Tryd.ntmps22
  go_upto_if 17 with fail
  go_cut [0] (fun v wx => w = wx ∧ v = .slice A N c)
  case first =>
    by_cases h : (8192 : Int) < (n : Int)
    · have hN8 := Lib.hid (show N = 8192 by omega)
      have hc8 : (8192 : Int) ≤ (c : Int) := by omega
      clear hN hNc
      go_wp2_with fail
      go_meet
      exact ⟨rfl, by rw [hN8.out]⟩
    · have HNn := Lib.hid (show N = n by omega)
      clear hN hNc
      go_wp2_with fail
      all_goals
        rename_i h2
        first | exact absurd h2 h | (go_meet; exact ⟨rfl, by rw [HNn.out]⟩)
  case rest =>
  obtain ⟨rfl, rfl⟩ := hcut
  have HN := Lib.hid hN
  clear hN
  cases hen : endedB b with
  | false =>
    have HLV := Lib.hid (show LnV b = .tuple #[.string ⟨#[]⟩, .int .i64 0] by unfold LnV; rw [hen]; rfl)
    rw [HLV.out] at HLN
    have HR := Lib.hid (show readL l = if (n : Int) < 8192 then .part else .err 13 by rw [HRE.out, readB_no hen, HPL.out])
    clear hen
    go_wp2_with fail
    refine (Hid.out HLN).mono ?_
    rintro e w1 ⟨rfl, rfl⟩
    go_wp2_with fail
    go_loopw [8] (fun v wx => v = .int .i64 0 ∧ wx = w) (fun _ _ => 0)
    case atStart => exact ⟨rfl, rfl⟩
    case round =>
      obtain ⟨rfl, rfl⟩ := hrel
      by_cases h8 : (n : Int) < 8192
      · rw [if_pos h8] at HR
        have h8' : decide ((8192 : Int) ≤ (n : Int)) = false := by simp; omega
        go_wp2
        exact bodyPost_ret (v := .tuple #[.string ⟨#[]⟩, .slice none 0 0, .int .i64 0, .int .i64 0]) (by simp [results, Tryd.f22, go_sem]) rfl ⟨by rw [HR.out]; rfl, Below.refl _ _⟩
      · rw [if_neg h8] at HR
        have h8' : (8192 : Int) ≤ (n : Int) := by omega
        go_wp2
        exact bodyPost_ret (v := .tuple #[.string ⟨#[]⟩, .slice none 0 0, .int .i64 0, .int .i64 13]) (by simp [results, Tryd.f22, go_sem]) rfl ⟨by rw [HR.out]; rfl, Below.refl _ _⟩
  | true =>
    obtain ⟨hcd, hcl⟩ := cutR_drop hen
    have HLV := Lib.hid (show LnV b = .tuple #[.string ⟨(cutL b).toArray⟩, .int .i64 (((cutL b).length + 2 : Nat) : Int)] by unfold LnV; rw [if_pos hen])
    rw [HLV.out] at HLN
    have HST := Lib.hid (rstatus_any ⟨(cutL b).toArray⟩ w (by rw [Lib.size_eq]; have := HBL.out; have := cutL_len b; show (cutL b).length ≤ _; have := HN.out; omega))
    change Hid (Calls _ _ _ _ fun e w' => e = .returned (.bool (statusB (cutL b))) ∧ w = w') at HST
    rw [← firstL_status] at HST
    obtain ⟨t0, ht0⟩ : ∃ t0, t0 = (cutL b).length + 2 := ⟨_, rfl⟩
    rw [← ht0] at HLN hcd hcl
    have h0t : (0 : Int) < (t0 : Int) := by omega
    cases hf : firstL (cutL b) with
    | none =>
      have HR := Lib.hid (show readL l = .err 9 by rw [HRE.out, readB_status hen hf])
      rw [hf] at HST
      clear hen hf hcd hcl ht0
      go_wp2_with fail
      refine (Hid.out HLN).mono ?_
      rintro e w1 ⟨rfl, rfl⟩
      go_wp2_with (go_at_call 42; refine (Hid.out HST).mono ?_; rintro e w1 ⟨rfl, rfl⟩)
      exact bodyPost_ret (v := .tuple #[.string ⟨#[]⟩, .slice none 0 0, .int .i64 0, .int .i64 9]) (by simp [results, Tryd.f22, go_sem]) rfl ⟨by rw [HR.out]; rfl, Below.refl _ _⟩
    | some q =>
      obtain ⟨old, st⟩ := q
      obtain ⟨RW, hRW⟩ : ∃ RW, RW = rowsN b.length (cutR b) [] := ⟨_, rfl⟩
      have HR0 := Lib.hid (show readL l = rowsR n b.length old st RW by rw [HRE.out, readB_rows hen hf, hRW])
      have HRW := Lib.hid (show RW = rowsN b.length (b.drop t0) [] by rw [hRW, hcd])
      rw [hf] at HST
      have HT0 := Lib.hid (show t0 ≤ N by have := HBL.out; omega)
      obtain ⟨g, off, hA, -, -⟩ := HBR.out.addr (by omega)
      subst hA
      clear hen hf hcd hcl ht0 hRW hn
      go_wp2_with fail
      refine (Hid.out HLN).mono ?_
      rintro e w1 ⟨rfl, rfl⟩
      go_wp2_with (go_at_call 42; refine (Hid.out HST).mono ?_; rintro e w1 ⟨rfl, rfl⟩)
      go_loopw [8, 9] (fun a v wr => ∃ (t k : Nat) (fs : List Fld) (vv : Value), vv = v ∧ a = .int .i64 (t : Int) ∧ 0 < t ∧ t ≤ N ∧ Hid (fK.Own w.heap.size wr vv fs) ∧ Hid (Below w.heap.size w wr) ∧ Hid (fs.length ≤ 64) ∧ Hid (RW = rowsN k (b.drop t) fs ∧ (b.drop t).length ≤ k)) (fun a _ _ => N - (intOf a).toNat)
      case atStart => exact ⟨t0, b.length, [], _, rfl, rfl, by omega, HT0.out, Lib.hid (EK.Own.nil _ _ (Nat.zero_le _)), Lib.hid (Below.refl _ _), Lib.hid (by simp), Lib.hid ⟨HRW.out, by rw [List.length_drop]; omega⟩⟩
      case round =>
        obtain ⟨t, k, fs, vv, rfl, rfl, h0, htN, HO, HB, HF, HK⟩ := hrel
        have h0' : (0 : Int) < (t : Int) := by omega
        have htc : (t : Int) ≤ (N : Int) := by omega
        obtain ⟨rs, hrs⟩ : ∃ rs, rs = b.drop t := ⟨_, rfl⟩
        have HRS := Lib.hid hrs
        have HRL := Lib.hid (show rs.length = N - t by rw [hrs, List.length_drop, HBL.out])
        rw [← hrs] at HK
        have HBW := Lib.hid ((HBR.out.below HB.out).from t)
        rw [← hrs] at HBW
        have HNO := Lib.hid (fun (he : endedB rs = false) => show readL l = if (n : Int) < 8192 then .part else .err 13 by
          have hp : RW = .part := by
            rw [HK.out.1]
            cases k with
            | zero => rfl
            | succ k => rw [rowsN, if_neg (by rw [he]; simp)]
          rw [HR0.out, hp, ← HPL.out]
          rfl)
        clear hrs
        by_cases htc2 : t < c
        · have HL2 : Hid (Calls Tryd.prog 41 #[.slice (some ⟨g, off + t, none⟩) (N - t) (c - t)] wr fun e w' => e = .returned (LnV rs) ∧ wr = w') := Lib.hid (by
            have h := line_any HBW.out (c := c - t) (by rw [HRL.out]; omega) (by rw [HRL.out]; have := HN.out; omega)
            rw [HRL.out] at h
            exact h)
          cases hen : endedB rs with
          | false =>
            have HLV2 := Lib.hid (show LnV rs = .tuple #[.string ⟨#[]⟩, .int .i64 0] by unfold LnV; rw [hen]; rfl)
            rw [HLV2.out] at HL2
            have HR := Lib.hid (HNO.out hen)
            clear hen HNO
            go_wp2_with fail
            refine (Hid.out HL2).mono ?_
            rintro e w1 ⟨rfl, rfl⟩
            by_cases h8 : (n : Int) < 8192
            · rw [if_pos h8] at HR
              have h8' : decide ((8192 : Int) ≤ (n : Int)) = false := by simp; omega
              go_wp2
              exact bodyPost_ret (v := .tuple #[.string ⟨#[]⟩, .slice none 0 0, .int .i64 0, .int .i64 0]) (by simp [results, Tryd.f22, go_sem]) rfl ⟨by rw [HR.out]; rfl, HB.out⟩
            · rw [if_neg h8] at HR
              have h8' : (8192 : Int) ≤ (n : Int) := by omega
              go_wp2
              exact bodyPost_ret (v := .tuple #[.string ⟨#[]⟩, .slice none 0 0, .int .i64 0, .int .i64 13]) (by simp [results, Tryd.f22, go_sem]) rfl ⟨by rw [HR.out]; rfl, HB.out⟩
          | true =>
            obtain ⟨hcd, hcl⟩ := cutR_drop hen
            have HLV2 := Lib.hid (show LnV rs = .tuple #[.string ⟨(cutL rs).toArray⟩, .int .i64 (((cutL rs).length + 2 : Nat) : Int)] by unfold LnV; rw [if_pos hen])
            rw [HLV2.out] at HL2
            obtain ⟨k, rfl⟩ : ∃ i, k = i + 1 := ⟨k - 1, by have := HK.out.2; omega⟩
            obtain ⟨m, hm⟩ : ∃ m, m = (cutL rs).length + 2 := ⟨_, rfl⟩
            rw [← hm] at HL2 hcd hcl
            have hm1 : ((m : Int) == 0) = false := by simp; omega
            have hm2 : (m == 0) = false := by simp; omega
            have HMR := Lib.hid (show m ≤ N - t by rw [← HRL.out]; exact hcl)
            have HCD := Lib.hid (show cutR rs = b.drop (t + m) by rw [hcd, HRS.out, List.drop_drop])
            have HCLZ := Lib.hid (show (cutL rs).length ≤ 1000000 by have := cutL_len rs; rw [HRL.out] at this; have := HN.out; omega)
            have ht8 : (t : Int) ≤ 8192 := by have := HN.out; omega
            have hm8 : (m : Int) ≤ 8192 := by have := HN.out; have := HMR.out; omega
            by_cases hnil : cutL rs = []
            · have HR : Hid (readL l = .whole old st fs (t + m)) := Lib.hid (by
                have h1 : RW = .whole fs (cutR rs).length := by rw [HK.out.1, rowsN, if_pos hen, if_pos hnil]
                rw [HR0.out, h1, hcd, List.length_drop, HRL.out, HBL.out]
                show Rd.whole old st fs (N - (N - t - m)) = _
                congr 1
                have := HMR.out
                omega)
              rw [hnil] at HL2
              have hty : (⟨#[]⟩ : ByteArray).toList = [] := by rw [Lib.toList_data]
              have htz : (⟨#[]⟩ : ByteArray).toList.isEmpty = true := by rw [hty]; rfl
              clear hen HNO hcd hcl hm hnil
              go_wp2_with fail
              refine (Hid.out HL2).mono ?_
              rintro e w1 ⟨rfl, rfl⟩
              go_wp2
              have HFI := Lib.hid (show RrP w.heap.size (cutL b) (readL l) (.returned (.tuple #[.string ⟨(cutL b).toArray⟩, vv, .int .i64 ((t : Int) + (m : Int)), .int .i64 0])) wr by rw [HR.out]; exact ⟨_, rfl, HO.out⟩)
              exact bodyPost_ret (v := .tuple #[.string ⟨(cutL b).toArray⟩, vv, .int .i64 ((t : Int) + (m : Int)), .int .i64 0]) (by simp [results, Tryd.f22, go_sem]) rfl ⟨HFI.out, HB.out⟩
            · have h0L : 0 < (cutL rs).length := List.length_pos_iff.2 hnil
              have hbq : (cutL rs == []) = false := by simpa using hnil
              have HFD := Lib.hid (rfield_any ⟨(cutL rs).toArray⟩ wr (by rw [Lib.size_eq]; exact HCLZ.out))
              change Hid (Calls _ _ _ _ fun e w' => e = .returned (FdV (cutL rs)) ∧ Below wr.heap.size wr w') at HFD
              have HYN : Hid (RW = match laterL fs (cutL rs) with | none => .bad | some fs' => rowsN k (b.drop (t + m)) fs') := Lib.hid (by rw [HK.out.1, rowsN, if_pos hen, if_neg hnil, hcd, HRS.out, List.drop_drop]; rfl)
              have hform : (⟨(cutL rs).toArray⟩ : ByteArray).toList = cutL rs := by rw [Lib.toList_data]
              rcases fdV_field (cutL rs) with ⟨f, hf1, hf2⟩ | ⟨hf1, x, y, hf2⟩
              · rw [hf2] at HFD
                by_cases h64 : fs.length = 64
                · have HR : Hid (readL l = .err 10) := Lib.hid (by rw [HR0.out, HYN.out, laterL_full h64]; rfl)
                  obtain ⟨Av, cv, rfl, -, -, -⟩ := HO.out.reads
                  rw [h64]
                  clear hen HNO hcd hcl hm hf1 hf2 h64
                  go_wp2_with fail
                  refine (Hid.out HL2).mono ?_
                  rintro e w1 ⟨rfl, rfl⟩
                  go_wp2_with fail
                  refine (Hid.out HFD).mono ?_
                  rintro e w3 ⟨rfl, hb3⟩
                  have HB3 := Lib.hid ((HB.out.trans (hb3.mono HB.out.size)).alloc (Nat.le_trans HB.out.size hb3.size) (.cells #[.string ⟨f.1.toArray⟩, .string ⟨f.2.toArray⟩] 75))
                  clear hb3
                  go_wp2
                  exact bodyPost_ret (v := .tuple #[.string ⟨#[]⟩, .slice none 0 0, .int .i64 0, .int .i64 10]) (by simp [results, Tryd.f22, go_sem]) rfl ⟨by rw [HR.out]; rfl, HB3.out⟩
                · have g64 : ((fs.length : Int) == 64) = false := by simp; omega
                  have g64n : (fs.length == 64) = false := by simp; omega
                  have HYS : Hid (RW = rowsN k (b.drop (t + m)) (fs ++ [f])) := Lib.hid (by rw [HYN.out, laterL_some hf1 h64])
                  have HKL := Lib.hid (show (b.drop (t + m)).length ≤ k by
                    have h1 := cutR_lt hen
                    have h2 := HK.out.2
                    rw [← HCD.out]
                    omega)
                  have HFL := Lib.hid (show (fs ++ [f]).length ≤ 64 by rw [List.length_append]; have := HF.out; simp; omega)
                  have hmlt : 0 < m := by omega
                  have htm : t + m ≤ N := by have := HMR.out; omega
                  obtain ⟨Av, cv, hvv, -, -, -⟩ := HO.out.reads
                  have HVV := Lib.hid hvv
                  have HLX := Lib.hid (show fs.length + [f].length ≤ 100000 by have := HF.out; simp; omega)
                  subst hvv
                  clear hen HNO hcd hcl hm hf1 hf2 h64
                  go_wp2_with fail
                  refine (Hid.out HL2).mono ?_
                  rintro e w1 ⟨rfl, rfl⟩
                  go_wp2_with fail
                  refine (Hid.out HFD).mono ?_
                  rintro e w3 ⟨rfl, hb3⟩
                  have HRL3 := Lib.hid (EK.Reads.lone fOk (W := w3.alloc (.cells #[.string ⟨f.1.toArray⟩, .string ⟨f.2.toArray⟩] 75)) (p := w3.heap.size + 1) f #[.string ⟨f.1.toArray⟩, .string ⟨f.2.toArray⟩] 75 rfl (by simp))
                  have HOA := Lib.hid (((HO.out.below hb3).alloc (.cells #[.string ⟨f.1.toArray⟩, .string ⟨f.2.toArray⟩] 75)).alloc (.cells #[.string ⟨f.1.toArray⟩, .string ⟨f.2.toArray⟩] 75))
                  have HB3 := Lib.hid ((HB.out.trans (hb3.mono HB.out.size)).alloc (Nat.le_trans HB.out.size hb3.size) (.cells #[.string ⟨f.1.toArray⟩, .string ⟨f.2.toArray⟩] 75))
                  have HBA := Lib.hid (HB3.out.alloc HB3.out.size (.cells #[.string ⟨f.1.toArray⟩, .string ⟨f.2.toArray⟩] 75))
                  clear hb3
                  go_wp2_with (at_builtin; refine EK.wpList_append (K := fK) fOk rfl (.tmp 62) (.tmp 64) rfl w.heap.size (.slice Av fs.length cv) _ rfl HOA.out _ _ [f] 1 1 rfl rfl HRL3.out (by simp) HLX.out HBA.out.size ?_; intro v5 w5 hown5 ht5 hf5; have HO5 := Lib.hid hown5; have HB5 := Lib.hid (HBA.out.trans (ht5.below (fun i hi => (HOA.out.foot i hi).1) HBA.out.size)); clear hown5 ht5 hf5)
                  go_round
                  case rel => exact ⟨t + m, k, fs ++ [f], v5, rfl, by go_num, by omega, htm, HO5, HB5, HFL, Lib.hid ⟨HYS.out, HKL.out⟩⟩
                  case measure => simp [intOf] <;> omega
              · have HR : Hid (readL l = .err 10) := Lib.hid (by rw [HR0.out, HYN.out, laterL_none hf1]; rfl)
                rw [hf2] at HFD
                clear hen HNO hcd hcl hm hf1 hf2
                go_wp2_with fail
                refine (Hid.out HL2).mono ?_
                rintro e w1 ⟨rfl, rfl⟩
                go_wp2_with fail
                refine (Hid.out HFD).mono ?_
                rintro e w3 ⟨rfl, hb3⟩
                have HB3 := Lib.hid ((HB.out.trans (hb3.mono HB.out.size)).alloc (Nat.le_trans HB.out.size hb3.size) (.cells #[.string ⟨x.toArray⟩, .string ⟨y.toArray⟩] 75))
                clear hb3
                go_wp2
                exact bodyPost_ret (v := .tuple #[.string ⟨#[]⟩, .slice none 0 0, .int .i64 0, .int .i64 10]) (by simp [results, Tryd.f22, go_sem]) rfl ⟨by rw [HR.out]; rfl, HB3.out⟩
        · have htN2 : N = t := by omega
          have hct : c = t := by omega
          have hrn : rs = [] := List.eq_nil_of_length_eq_zero (by rw [HRL.out]; omega)
          have HR := Lib.hid (HNO.out (by rw [hrn]; decide))
          have HL3 : Hid (Calls Tryd.prog 41 #[.slice (some ⟨g, off, none⟩) 0 0] wr fun e w' => e = .returned (.tuple #[.string ⟨#[]⟩, .int .i64 0]) ∧ wr = w') := Lib.hid (line_any (l := []) (BReads.nil wr w.heap.size _) (Nat.le_refl _) (by simp))
          rw [hct, htN2]
          have ht8 : (t : Int) ≤ 8192 := by have := HN.out; omega
          clear HNO hrn hct htc2 hNc
          go_wp2_with fail
          refine (Hid.out HL3).mono ?_
          rintro e w1 ⟨rfl, rfl⟩
          by_cases h8 : (n : Int) < 8192
          · rw [if_pos h8] at HR
            have h8' : decide ((8192 : Int) ≤ (n : Int)) = false := by simp; omega
            go_wp2
            exact bodyPost_ret (v := .tuple #[.string ⟨#[]⟩, .slice none 0 0, .int .i64 0, .int .i64 0]) (by simp [results, Tryd.f22, go_sem]) rfl ⟨by rw [HR.out]; rfl, HB.out⟩
          · rw [if_neg h8] at HR
            have h8' : (8192 : Int) ≤ (n : Int) := by omega
            go_wp2
            exact bodyPost_ret (v := .tuple #[.string ⟨#[]⟩, .slice none 0 0, .int .i64 0, .int .i64 13]) (by simp [results, Tryd.f22, go_sem]) rfl ⟨by rw [HR.out]; rfl, HB.out⟩
end Go.Proofs.YtnkpdnbnheffeaaDoor
