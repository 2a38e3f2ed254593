/- The document's Only: a series with some of its labels alone. -/
import Derived.Test.YtpdmmnhmnmlogaaGreatRefGet
import Derived.Test.YtpdmmnhmnmlogaaGreatStrs
namespace Go.Proofs.YtpdmmnhmnmlogaaGreat
open Go.RowKit

def onlyL (bs : List (List UInt8)) (l : List Lbl) : List Lbl := l.filter fun x => decide (x.1 ∈ bs)
def onlyP (bs : List (List UInt8)) (o : Option (List UInt8 × List Lbl)) : List UInt8 :=
  match o with
  | none => []
  | some (m, l) => textT m (onlyL bs l)
theorem valid_only {m : List UInt8} {l : List Lbl} {bs : List (List UInt8)} (h : validB m l = true) : validB m (onlyL bs l) = true := by
  unfold validB checkB at h ⊢
  simp only [Bool.and_eq_true, decide_eq_true_eq] at h ⊢
  refine ⟨⟨h.1.1, ?_, rising_of_pair ((rising_pair h.1.2.2).filter _)⟩, Nat.le_trans (List.length_filter_le _ _) h.2⟩
  refine List.all_eq_true.2 fun x hx => List.all_eq_true.1 h.1.2.1 x ?_
  exact (List.mem_filter.1 hx).1
theorem onlyL_snoc {bs : List (List UInt8)} {l : List Lbl} {k : Nat} {x : Lbl} (h : l[k]? = some x) : onlyL bs (l.take (k + 1)) = onlyL bs (l.take k) ++ if x.1 ∈ bs then [x] else [] := by
  unfold onlyL
  rw [List.take_add_one, h, List.filter_append]
  by_cases hx : x.1 ∈ bs <;> simp [hx]
theorem onlyL_len (bs : List (List UInt8)) (l : List Lbl) (k : Nat) : (onlyL bs (l.take k)).length ≤ l.length := by
  have h1 := List.length_filter_le (fun x : Lbl => decide (x.1 ∈ bs)) (l.take k)
  have h2 : (l.take k).length ≤ l.length := by rw [List.length_take]; omega
  exact Nat.le_trans h1 h2
theorem mem_snoc {bs : List (List UInt8)} {j : Nat} {y n : List UInt8} (h : bs[j]? = some y) : decide (n ∈ bs.take (j + 1)) = (decide (n ∈ bs.take j) || decide (y = n)) := by
  rw [List.take_add_one, h, Bool.eq_iff_iff, decide_eq_true_eq, Bool.or_eq_true, decide_eq_true_eq, decide_eq_true_eq, List.mem_append]
  constructor
  · rintro (h1 | h1)
    · exact .inl h1
    · exact .inr (List.mem_singleton.1 h1).symm
  · rintro (h1 | h1)
    · exact .inl h1
    · exact .inr (List.mem_singleton.2 h1.symm)
set_option maxRecDepth 100000 in
set_option maxHeartbeats 4000000 in
theorem ronly_any (A2 : Option Addr) (cap2 : Nat) (s : ByteArray) (bs : List (List UInt8)) (w : World) (hs : s.size ≤ 3000) (hbs : bs.length ≤ 1000) (hr : SReads w w.heap.size A2 bs) :
    Calls Tryz.prog 13 #[.string s, .slice A2 bs.length cap2] w fun e w' => e = .returned (.string ⟨(onlyP bs (parseP s.data.toList)).toArray⟩) ∧ Below w.heap.size w w' := by
  have HP := Lib.hid (rparse_any s w hs)
  have HR := Lib.hid hr
  have HPS := Lib.hid (fun mm ls (h : parseP s.data.toList = some (mm, ls)) => parseP_small h)
  have HVV := Lib.hid (fun mm ls (h : parseP s.data.toList = some (mm, ls)) => nameP_valid (valid_only (bs := bs) (parseP_sound h).1))
  obtain ⟨o, ho⟩ : ∃ o, o = parseP s.data.toList := ⟨_, rfl⟩
  rw [← ho] at HP HPS HVV ⊢
  clear hr ho
  go_enter Tryz.func13, Tryz.ntmps13
  go_wp2_with fail
  refine (Hid.out HP).mono ?_
  rintro e w1 ⟨h, hb⟩
  have HB := Lib.hid hb
  rcases h with ⟨mm, l, v, rfl, rfl, hown⟩ | ⟨rfl, rfl⟩
  · obtain ⟨p1, p2, p3⟩ := HPS.out mm l rfl
    have HSM := Lib.hid p3
    have HNV := Lib.hid (HVV.out mm l rfl)
    have HMS := Lib.hid (show (⟨mm.toArray⟩ : ByteArray).size ≤ 1000000 by rw [Lib.size_eq]; show mm.length ≤ _; omega)
    have hB : w.heap.size ≤ w1.heap.size := HB.out.size
    obtain ⟨A, cap, rfl, hrd, _, _⟩ := hown.reads
    have HRD := Lib.hid hrd
    have HR1 := Lib.hid (HR.out.below hb)
    clear hown hrd hb p2 p3
    go_wp2
    go_loopw [8, 9] (fun sv i wr => ∃ (k : Nat) (sv' : Value), sv' = sv ∧ k ≤ l.length ∧ i = .int .i64 k ∧ Hid (OwnedL w1.heap.size wr sv (onlyL bs (l.take k))) ∧ Hid (Below w1.heap.size w1 wr) ∧ w1.heap.size ≤ wr.heap.size) (fun _ i _ => l.length - (intOf i).toNat)
    case atStart => exact ⟨0, _, rfl, Nat.zero_le _, rfl, Lib.hid (World.ownsRow_nil _ _ _ _), Lib.hid (Below.refl _ _), Nat.le_refl _⟩
    case round =>
      obtain ⟨k, sv', rfl, hk, rfl, HO, HBR, hBr⟩ := hrel
      by_cases hlt : k < l.length
      · obtain ⟨x, hx⟩ : ∃ x, l[k]? = some x := ⟨_, List.getElem?_eq_getElem hlt⟩
        obtain ⟨b, off, rfl, hb, hc⟩ := HRD.out.at (by omega)
        have hc1 := (HBR.out.cell (p := ⟨b, off + k * 2, none⟩) hb).trans (hc k x hx).1
        have hc2 := (HBR.out.cell (p := ⟨b, off + k * 2 + 1, none⟩) hb).trans (hc k x hx).2
        unfold strV at hc1 hc2
        have hlt' : (k : Int) < (l.length : Int) := by omega
        have hk0 : (0 : Int) ≤ (k : Int) := by omega
        have HSN := Lib.hid (onlyL_snoc (bs := bs) hx)
        have HLE := Lib.hid (onlyL_len bs l k)
        clear hc hx
        go_wp2
        go_loopw [10, 11] (fun isv jv wx => ∃ (j q : Nat) (is : Bool), j ≤ bs.length ∧ isv = .bool is ∧ jv = .int .i64 j ∧ Hid (is = decide (x.1 ∈ bs.take j)) ∧ wx = wr.drewN q) (fun _ jv _ => bs.length - (intOf jv).toNat)
        case atStart => exact ⟨0, 0, false, Nat.zero_le _, rfl, rfl, Lib.hid (by simp), rfl⟩
        case round =>
          obtain ⟨j, q, is, hj, rfl, rfl, HIS, rfl⟩ := hrel
          have hj0 : (0 : Int) ≤ (j : Int) := by omega
          by_cases hjl : j < bs.length
          · have hjl' : (j : Int) < (bs.length : Int) := by omega
            obtain ⟨y, hy⟩ : ∃ y, bs[j]? = some y := ⟨_, List.getElem?_eq_getElem hjl⟩
            have HMS1 := Lib.hid (mem_snoc (n := x.1) hy)
            cases is with
            | true =>
              have HIN := Lib.hid (show true = decide (x.1 ∈ bs.take (j + 1)) by rw [HMS1.out, ← HIS.out]; rfl)
              clear hy
              go_wp2
              go_quiet (fail)
              go_wp2
              go_roundw
              case rel => exact ⟨j + 1, _, true, by omega, rfl, by go_num, HIN, by first | rfl | exact World.drewN_drewN _ _ _⟩
              case measure => simp [intOf] <;> omega
            | false =>
              obtain ⟨b2, o2, rfl, hb2, hcs⟩ := HR1.out.at (by omega)
              have hs1 := (HBR.out.cell (p := ⟨b2, o2 + j, none⟩) (Nat.lt_of_lt_of_le hb2 hB)).trans (hcs j y hy)
              unfold strV at hs1
              clear hcs hy
              by_cases he : y = x.1
              · have HIN := Lib.hid (show true = decide (x.1 ∈ bs.take (j + 1)) by rw [HMS1.out, ← HIS.out, decide_eq_true he]; rfl)
                subst he
                go_wp2
                go_quiet (fail)
                go_wp2
                go_roundw
                case rel => exact ⟨j + 1, _, true, by omega, by simp, by go_num, HIN, by first | rfl | exact World.drewN_drewN _ _ _⟩
                case measure => simp [intOf] <;> omega
              · have HIN := Lib.hid (show false = decide (x.1 ∈ bs.take (j + 1)) by rw [HMS1.out, ← HIS.out, decide_eq_false he]; rfl)
                have heb : ((⟨y.toArray⟩ : ByteArray).toList == (⟨x.1.toArray⟩ : ByteArray).toList) = false := by rw [toList_eq, toList_eq]; simpa using he
                have heb2 : (y == x.1) = false := by simpa using he
                clear he
                go_wp2
                go_quiet (fail)
                go_wp2
                go_roundw
                case rel => exact ⟨j + 1, _, false, by omega, rfl, by go_num, HIN, by first | rfl | exact World.drewN_drewN _ _ _⟩
                case measure => simp [intOf] <;> omega
          · have hge : decide ((j : Int) < (bs.length : Int)) = false := by simp; omega
            have HIN := Lib.hid (show is = decide (x.1 ∈ bs) by rw [HIS.out, List.take_of_length_le (by omega)])
            cases is with
            | true =>
              have hmm : x.1 ∈ bs := of_decide_eq_true HIN.out.symm
              have HS1 := Lib.hid (show onlyL bs (l.take (k + 1)) = onlyL bs (l.take k) ++ [x] by rw [HSN.out, if_pos hmm])
              have HL1 := Lib.hid (show (onlyL bs (l.take k)).length + [x].length ≤ 100000 by have := HLE.out; simp; omega)
              have HOq := Lib.hid (show OwnedL w1.heap.size (wr.drewN q) sv' (onlyL bs (l.take k)) from HO.out)
              clear hmm
              go_wp2_with (at_builtin; refine wpList_append_lblsA rfl (.tmp 48) (.tmp 53) rfl w1.heap.size sv' (onlyL bs (l.take k)) rfl (HOq.out.alloc _) (wr.heap.size + 1) (some ⟨wr.heap.size, 0, none⟩) [x] 1 rfl (LReads.lone x _ rfl) HL1.out (by simp; omega) ?_; intro v2 w2 hown2 hb2; have HO2 := Lib.hid hown2; have HB2 := Lib.hid (HBR.out.trans (((below_drewN (Below.refl _ _) q).alloc (by simpa using hBr) _).trans hb2)); have hBr2 : w1.heap.size ≤ w2.heap.size := HB2.out.size; clear hown2 hb2)
              have HO3 := Lib.hid (show OwnedL w1.heap.size w2 v2 (onlyL bs (l.take (k + 1))) by rw [HS1.out]; exact HO2.out)
              go_roundw
              case rel => exact ⟨k + 1, _, rfl, by omega, by go_num, HO3, HB2, hBr2⟩
              case measure => simp [intOf] <;> omega
            | false =>
              have hmm : x.1 ∉ bs := of_decide_eq_false HIN.out.symm
              have HS1 := Lib.hid (show OwnedL w1.heap.size (wr.drewN q) sv' (onlyL bs (l.take (k + 1))) by rw [HSN.out, if_neg hmm, List.append_nil]; exact HO.out)
              clear hmm
              go_wp2
              go_roundw
              case rel => exact ⟨k + 1, _, rfl, by omega, by go_num, HS1, Lib.hid (below_drewN HBR.out q), by simpa using hBr⟩
              case measure => simp [intOf] <;> omega
      · have hge : decide ((k : Int) < (l.length : Int)) = false := by simp; omega
        have HO2 := Lib.hid (show OwnedL w1.heap.size wr sv' (onlyL bs l) by have := HO.out; rwa [List.take_of_length_le (by omega)] at this)
        have HLE := Lib.hid (show (onlyL bs l).length ≤ 16 from Nat.le_trans (List.length_filter_le _ _) p1)
        have HS := Lib.hid (show smallL (onlyL bs l) from fun y hy => HSM.out y (List.mem_filter.1 hy).1)
        have HW := Lib.hid (show onlyP bs (some (mm, l)) = textT mm (onlyL bs l) from rfl)
        generalize onlyL bs l = L at HO2 HLE HS HNV HW
        obtain ⟨A3, c3, rfl, hrd3, _, _⟩ := HO2.out.reads
        have HN := Lib.hid (rname_any A3 c3 ⟨mm.toArray⟩ L wr HMS.out (by have := HLE.out; omega) HS.out hrd3)
        change Hid (Calls Tryz.prog 21 _ wr (NamePost (nameP mm L) wr)) at HN
        rw [HNV.out] at HN
        have HB4 := Lib.hid (HB.out.trans (HBR.out.mono hB))
        clear hrd3
        go_wp2_with fail
        refine (Hid.out HN).mono ?_
        rintro e w4 ⟨rfl, hb4⟩
        have HB5 := Lib.hid (HB4.out.trans (hb4.mono HB4.out.size))
        clear hb4
        go_wp2
        go_ret
        rw [HW.out]
        exact ⟨rfl, HB5.out⟩
  · clear hb
    go_wp2
    go_ret
    exact ⟨rfl, HB.out⟩
end Go.Proofs.YtpdmmnhmnmlogaaGreat
