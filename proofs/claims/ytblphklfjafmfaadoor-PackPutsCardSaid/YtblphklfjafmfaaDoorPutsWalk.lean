/- PackPuts: the walk. -/
import Derived.Test.YtblphklfjafmfaaDoorAppendB
import Derived.Test.YtblphklfjafmfaaDoorKnown
import Derived.Deep.RegionHeld3
namespace Go.Proofs.YtblphklfjafmfaaDoor
open Go.RowKit

def Fin1 (w : World) (e : Ending) (w' : World) : Prop := e = .returned (.bool true) ∧ Below w.heap.size w w'
def putT (q : Nat) : ByteArray := ⟨(putL q).toArray⟩
def texT (l : List UInt8) : ByteArray := ⟨l.toArray⟩

set_option maxRecDepth 100000 in
set_option maxHeartbeats 800000 in
theorem pearly (A : Option Addr) (len cap : Nat) (n m : Int) (s : ByteArray) (w : World) (hlen : (len : Int) ≤ 9223372036854775807) (hs : (s.size : Int) ≤ 9223372036854775807) (h : (len : Int) > 400 ∨ (s.size : Int) > 400) :
    Calls Tryd.prog 3 #[.slice A len cap, .int .u64 n, .int .i64 m, .string s] w (Fin1 w) := by
  have HK := Lib.hid (known_yes w w (Below.refl _ _))
  have hcases : (400 < (len : Int)) ∨ (¬ 400 < (len : Int) ∧ 400 < (s.size : Int)) := by omega
  clear h
  rcases hcases with h1 | ⟨h1, h2⟩
  all_goals
    go_enter Tryd.func3, Tryd.ntmps3
    go_wp2_with fail
    refine (Hid.out HK).mono ?_
    rintro e w2 ⟨rfl, hb2⟩
    have HB2 := Lib.hid hb2
    clear hb2
    go_wp2
    go_ret
    exact ⟨rfl, HB2.out⟩

/-- A slice of n bytes that reads as l in every world that goes on from w. -/
def Keeps (w : World) (v : Value) (n : Nat) (l : List UInt8) : Prop := ∃ A cap, v = .slice A n cap ∧ l.length = n ∧ BReads w w.heap.size A l ∧ (A = none → cap = 0)
theorem gives_keeps {B : Nat} {w : World} {l : List UInt8} {e : Ending} {w' : World} (h : Gives B w l e w') : ∃ v, e = .returned v ∧ Keeps w' v l.length l ∧ Below B w w' := by
  obtain ⟨v, rfl, ho, hb⟩ := h
  refine ⟨v, rfl, ?_, hb⟩
  rcases ho.form with ⟨rfl, rfl⟩ | ⟨g, cap, rfl, _⟩
  · exact ⟨none, 0, rfl, rfl, .inl rfl, fun _ => rfl⟩
  · obtain ⟨A, c, h1, h2, _⟩ := ho.reads
    cases h1
    exact ⟨_, _, rfl, rfl, h2, fun h => by cases h⟩
theorem Keeps.below {w w' : World} {v : Value} {n : Nat} {l : List UInt8} (h : Keeps w v n l) (hb : Below w.heap.size w w') : Keeps w' v n l := by
  obtain ⟨A, cap, h1, h2, h3, h4⟩ := h
  exact ⟨A, cap, h1, h2, (h3.below hb).more hb.size, h4⟩
theorem Keeps.text {w : World} {v : Value} {n : Nat} {l : List UInt8} (h : Keeps w v n l) : (convert 22 9 v).run Tryd.prog w = .ok (.string (texT l)) w := by
  obtain ⟨A, cap, rfl, rfl, h3, _⟩ := h
  exact run_bytes_text w 9 22 Tryd.underlying22 Tryd.underlying9 cap h3

theorem texT_size (l : List UInt8) : (texT l).size = l.length := by simp [texT, ByteArray.size]
theorem texT_app (l r : List UInt8) : texT l ++ texT r = texT (l ++ r) := by
  have h : (texT l ++ texT r).data.toList = l ++ r := by
    rw [ByteArray.data_append, Array.toList_append]
    rfl
  exact ba_eq h
theorem put_in (w3 w' : World) (q : Nat) (hq : q < 18446744073709551616) (hb : Below w3.heap.size w3 w') :
    Calls Tryd.prog 9 #[.int .u64 q] w' fun e w'' => ∃ A c, e = .returned (.slice A (putL q).length c) ∧ (convert 22 9 (.slice A (putL q).length c)).run Tryd.prog w'' = .ok (.string (putT q)) w'' ∧ Hid (Below w3.heap.size w3 w'') :=
  (rput_any q w' hq).mono fun e w'' h => by
    obtain ⟨v, rfl, hk, hb2⟩ := gives_keeps h
    obtain ⟨A, c, rfl, h2, h3, h4⟩ := hk
    exact ⟨A, c, rfl, Keeps.text ⟨A, c, rfl, rfl, h3, h4⟩, Lib.hid (hb.trans (hb2.mono hb.size))⟩

def Mid1 (w : World) (l : List UInt8) (n : Nat) (m : Int) (s : ByteArray) (own x y z : Value) (wx : World) : Prop :=
  Keeps wx own l.length l ∧ Keeps wx x (l ++ putL n).length (l ++ putL n) ∧ Keeps wx y (l ++ putL (foldN m)).length (l ++ putL (foldN m)) ∧ Keeps wx z (l ++ putL s.size ++ s.data.toList).length (l ++ putL s.size ++ s.data.toList) ∧ Below w.heap.size w wx

set_option maxRecDepth 100000 in
set_option maxHeartbeats 3200000 in
theorem pmain (A : Option Addr) (cap : Nat) (l : List UInt8) (n : Nat) (m : Int) (s : ByteArray) (w : World) (hl : l.length ≤ 400) (hs : s.size ≤ 400) (hn : n < 18446744073709551616) (hm0 : -9223372036854775808 ≤ m) (hm1 : m ≤ 9223372036854775807) (hr : BReads w w.heap.size A l) (hcap : A = none → cap = 0) :
    Calls Tryd.prog 3 #[.slice A l.length cap, .int .u64 n, .int .i64 m, .string s] w (Fin1 w) := by
  obtain ⟨i0, hi, hz0, hz1, hz2⟩ := info_parts Tryd.infoU8
  have HV := Lib.hid hr
  have HCAP := Lib.hid hcap
  have HB2 := Lib.hid (show i0.bytes * (l.length + 30) ≤ 281474976710656 by rw [hz2]; omega)
  have HB3 := Lib.hid (show l.length + 30 ≤ maxLen by unfold maxLen; omega)
  have hl' : ¬ 400 < (l.length : Int) := by omega
  have hs' : ¬ 400 < (s.size : Int) := by omega
  clear hr hcap
  go_enter Tryd.func3, Tryd.ntmps3
  go_upto_region 3 with fail
  go_cut [9] (fun v wx => Keeps wx v l.length l ∧ Hid (Below w.heap.size w wx))
  case first =>
    go_wp2_with (first | (at_make; refine wpList_make_own _ rfl _ _ 22 rfl w.heap.size 5 i0 (.int .u8 0) 1 Tryd.underlying22 hi hz0 hz1 .i64 .i64 _ (l.length + 30) rfl rfl (by omega) HB2.out HB3.out (Nat.le_refl _) ?_; intro w1 hown1 hg1; have HO1 := Lib.hid hown1; have HG1 := Lib.hid hg1; clear hown1 hg1) | (at_builtin; refine wpList_append_fits_any _ rfl _ _ 22 rfl w.heap.size 5 i0 1 Tryd.underlying22 hi hz1 w.heap.size 0 (l.length + 30) [] rfl HO1.out A l.length cap (l.map bcell) rfl (by simp) (fun h => ⟨HV.out.hnone h, HCAP.out h⟩) (HV.out.grown HG1.out (Nat.le_refl _) (fun g h => by cases h)).cells (bcell_one l) (by omega) ?_; intro w2 hown2 hg2; have HO2 := Lib.hid hown2; have HG2 := Lib.hid hg2; clear hown2 hg2))
    go_meet
    have h2 := HO2.out
    rw [Nat.zero_add, List.nil_append] at h2
    have hb : Below w.heap.size w w2 := ((Below.refl _ _).grown HG1.out (Nat.le_refl _) (fun g h => by cases h)).grown HG2.out HG1.out.size (fun g h => by cases h; exact Nat.le_refl _)
    obtain ⟨v, h3, h4, h5⟩ := gives_keeps (show Gives w.heap.size w l (.returned (.slice (some ⟨w.heap.size, 0, none⟩) l.length (l.length + 30))) w2 from ⟨_, rfl, h2, hb⟩)
    cases h3
    exact ⟨by simpa using h4, Lib.hid h5⟩
  case rest =>
  obtain ⟨hk, HB⟩ := hcut
  obtain ⟨A0, c0, rfl, _, hk0, hc0⟩ := hk
  have HK0 := Lib.hid (show Keeps wc (.slice A0 l.length c0) l.length l from ⟨A0, c0, rfl, rfl, hk0, hc0⟩)
  have HP1 := Lib.hid (putUvarint_any A0 c0 n l wc hn (by omega) hk0 hc0)
  have HP2 := Lib.hid (fun w2 (hb : Below wc.heap.size wc w2) => putVarint_any A0 c0 m l w2 hm0 hm1 (by omega) ((hk0.below hb).more hb.size) hc0)
  have HP3 := Lib.hid (fun w2 (hb : Below wc.heap.size wc w2) => putText_any A0 c0 s l w2 (by omega) (by omega) ((hk0.below hb).more hb.size) hc0)
  clear hk0 hc0
  go_upto_region 4 with fail
  go_cut [10, 11, 12] (fun x y z wx => ∃ (vx vy vz : Value) (w3 : World), vx = x ∧ vy = y ∧ vz = z ∧ w3 = wx ∧ Keeps wx x (l ++ putL n).length (l ++ putL n) ∧ Keeps wx y (l ++ putL (foldN m)).length (l ++ putL (foldN m)) ∧ Keeps wx z (l ++ putL s.size ++ s.data.toList).length (l ++ putL s.size ++ s.data.toList) ∧ Hid (Below wc.heap.size wc wx))
  case first =>
    go_wp2_with fail
    refine (Hid.out HP1).mono ?_
    rintro e w1 h1
    obtain ⟨x, rfl, hx, hb1⟩ := gives_keeps h1
    have HX := Lib.hid hx
    have HB1 := Lib.hid hb1
    clear hx hb1 h1
    go_wp2_with fail
    refine (Hid.out HP2 _ HB1.out).mono ?_
    rintro e w2 h1
    obtain ⟨y, rfl, hx, hb1⟩ := gives_keeps h1
    have HY := Lib.hid hx
    have HB2 := Lib.hid hb1
    clear hx hb1 h1
    go_wp2_with fail
    refine (Hid.out HP3 _ (HB1.out.trans (HB2.out.mono HB1.out.size))).mono ?_
    rintro e w3 h1
    obtain ⟨z, rfl, hx, hb1⟩ := gives_keeps h1
    have HZ := Lib.hid hx
    have HB3 := Lib.hid hb1
    clear hx hb1 h1
    go_wp2_with fail
    go_meet
    exact ⟨_, _, _, _, rfl, rfl, rfl, rfl, (HX.out.below HB2.out).below HB3.out, HY.out.below HB3.out, HZ.out, Lib.hid ((HB1.out.trans (HB2.out.mono HB1.out.size)).trans (HB3.out.mono (HB1.out.trans (HB2.out.mono HB1.out.size)).size))⟩
  case rest =>
  obtain ⟨vx, vy, vz, w3, rfl, rfl, rfl, rfl, hx, hy, hz, HBW⟩ := hcut
  have HB3 := Lib.hid (HB.out.trans (HBW.out.mono HB.out.size))
  have HO := Lib.hid (HK0.out.below HBW.out)
  have HX := Lib.hid hx
  have HY := Lib.hid hy
  have HZ := Lib.hid hz
  have HBB := Lib.hid (show Keeps w3 (.slice A l.length cap) l.length l from ⟨A, cap, rfl, rfl, (HV.out.below HB3.out).more HB3.out.size, HCAP.out⟩)
  have HPT := Lib.hid (fun (w' : World) (q : Nat) (hq : q < 18446744073709551616) (hb : Hid (Below w3.heap.size w3 w')) => put_in w3 w' q hq hb.out)
  have HSG := Lib.hid (fun w => rsigned_any m w hm0 hm1)
  have HSK := Lib.hid (fun (w' : World) (hb : Hid (Below w3.heap.size w3 w')) => show
    ((convert 22 9 (.slice A0 l.length c0)).run Tryd.prog w' = .ok (.string (texT l)) w' ∧ (convert 22 9 (.slice A l.length cap)).run Tryd.prog w' = .ok (.string (texT l)) w' ∧
      (convert 22 9 vx).run Tryd.prog w' = .ok (.string (texT l ++ putT n)) w' ∧ (convert 22 9 vy).run Tryd.prog w' = .ok (.string (texT l ++ putT (foldN m))) w' ∧
      (convert 22 9 vz).run Tryd.prog w' = .ok (.string (texT l ++ putT s.size ++ s)) w' ∧ Hid (Below w3.heap.size w3 w')) from
    ⟨(HO.out.below hb.out).text, (HBB.out.below hb.out).text, (HX.out.below hb.out).text.trans (by rw [← texT_app]; rfl), (HY.out.below hb.out).text.trans (by rw [← texT_app]; rfl), (HZ.out.below hb.out).text.trans (by rw [← texT_app, ← texT_app]; rfl), hb⟩)
  have hfm := foldN_lt m hm0 hm1
  have hs64 : s.size < 18446744073709551616 := by omega
  have hz1 : (texT l).size ≤ 400 := by rw [texT_size]; exact hl
  have hz2 : (putT n).size ≤ 10 := by rw [show putT n = texT (putL n) from rfl, texT_size]; exact (putL_len n).2
  have hz3 : (putT (foldN m)).size ≤ 10 := by rw [show putT (foldN m) = texT (putL (foldN m)) from rfl, texT_size]; exact (putL_len _).2
  have hz4 : (putT s.size).size ≤ 10 := by rw [show putT s.size = texT (putL s.size) from rfl, texT_size]; exact (putL_len _).2
  clear hx hy hz HP1 HP2 HP3 HBW
  go_upto_region 5 with fail
  go_cut [88] (fun v wx => ∃ w5, w5 = wx ∧ v = .bool false ∧ Hid (Below w3.heap.size w3 wx))
  case first =>
    have hwr : IntKind.u64.wrap (s.size : Int) = (s.size : Int) := by rw [IntKind.wrap_u64]; omega
    refine wp_region_noPanic ?_
    go_region_held (fun w' => (convert 22 9 (.slice A0 l.length c0)).run Tryd.prog w' = .ok (.string (texT l)) w' ∧ (convert 22 9 (.slice A l.length cap)).run Tryd.prog w' = .ok (.string (texT l)) w' ∧
      (convert 22 9 vx).run Tryd.prog w' = .ok (.string (texT l ++ putT n)) w' ∧ (convert 22 9 vy).run Tryd.prog w' = .ok (.string (texT l ++ putT (foldN m))) w' ∧
      (convert 22 9 vz).run Tryd.prog w' = .ok (.string (texT l ++ putT s.size ++ s)) w' ∧ Hid (Below w3.heap.size w3 w'))
      (first | exact HSK.out _ (Lib.hid (Below.refl _ _).drew) | (refine HSK.out _ ?_; assumption) | (refine HSK.out _ ?_; go_split_ands; assumption))
      ((first | (go_at_call 9; refine (HPT.out _ _ (by assumption) (by go_split_ands; assumption)).mono ?_; rintro e w' ⟨A1, c1, rfl, hrun, hbel⟩) | (go_at_call 10; refine (HSG.out _).mono ?_; rintro e w' ⟨rfl, rfl⟩)))
    refine NoPanic.normal ?_
    go_wp2_with fail
    go_meet
    exact ⟨_, rfl, rfl, by go_split_ands; assumption⟩
  case rest =>
  obtain ⟨w5, rfl, rfl, HB5⟩ := hcut
  have HBW := Lib.hid (HB3.out.trans (HB5.out.mono HB3.out.size))
  clear hz1 hz2 hz3 hz4 HPT HSK
  have HP := Lib.hid (fun (w' : World) (q : Nat) (hq : q < 18446744073709551616) => rput_any q w' hq)
  have HRB := Lib.hid (fun (w' : World) (hb : Below w.heap.size w w') => (HV.out.below hb).more hb.size)
  go_upto_region 7 with fail
  go_cut [13, 14, 15] (fun a b c wx => ∃ w6, w6 = wx ∧ a = .int .u64 n ∧ b = .int .i64 ((putL n).length : Nat) ∧ c = .int .i64 0 ∧ Hid (Below w.heap.size w wx))
  case first =>
    go_wp2_with fail
    refine (Hid.out HP _ n hn).mono ?_
    rintro e w6 ⟨v, rfl, ho, hb⟩
    have HO6 := Lib.hid ho
    have HB6 := Lib.hid hb
    have HBW6 := Lib.hid (HBW.out.trans (hb.mono HBW.out.size))
    have HR6 := Lib.hid (HRB.out w6 HBW6.out)
    have HPL := Lib.hid (putL_len n)
    clear ho hb
    go_wp2_with (at_builtin; refine wpList_append_bytes rfl _ _ rfl w5.heap.size v (putL n) rfl HO6.out w6.heap.size A l cap rfl HR6.out HCAP.out (by have := HPL.out; omega) HB6.out.size ?_; intro v7 w7 ho7 hb7; have HO7 := Lib.hid ho7; have HB7 := Lib.hid hb7; clear ho7 hb7)
    refine (uvarint_own hn (by omega) HO7.out).mono ?_
    rintro e w' ⟨rfl, rfl⟩
    go_wp2_with fail
    go_meet
    exact ⟨_, rfl, rfl, rfl, rfl, Lib.hid (HBW.out.trans ((HB6.out.trans HB7.out).mono HBW.out.size))⟩
  case rest =>
  obtain ⟨w6, rfl, rfl, rfl, rfl, HBW6⟩ := hcut
  clear HBW HB5
  go_upto_region 8 with fail
  go_cut [16, 17, 18] (fun a b c wx => ∃ w7, w7 = wx ∧ a = .int .i64 m ∧ b = .int .i64 ((putL (foldN m)).length : Nat) ∧ c = .int .i64 0 ∧ Hid (Below w.heap.size w wx))
  case first =>
    go_wp2_with fail
    refine (Hid.out HSG _).mono ?_
    rintro e w' ⟨rfl, rfl⟩
    go_wp2_with fail
    refine (Hid.out HP _ (foldN m) hfm).mono ?_
    rintro e w7 ⟨v, rfl, ho, hb⟩
    have HO7 := Lib.hid ho
    have HB7 := Lib.hid hb
    have HBW7 := Lib.hid (HBW6.out.trans (hb.mono HBW6.out.size))
    have HR7 := Lib.hid (HRB.out w7 HBW7.out)
    have HPL := Lib.hid (putL_len (foldN m))
    clear ho hb
    go_wp2_with (at_builtin; refine wpList_append_bytes rfl _ _ rfl w6.heap.size v (putL (foldN m)) rfl HO7.out w7.heap.size A l cap rfl HR7.out HCAP.out (by have := HPL.out; omega) HB7.out.size ?_; intro v8 w8 ho8 hb8; have HO8 := Lib.hid ho8; have HB8 := Lib.hid hb8; clear ho8 hb8)
    refine (varint_own hm0 hm1 (by omega) HO8.out).mono ?_
    rintro e w' ⟨rfl, rfl⟩
    go_wp2_with fail
    go_meet
    exact ⟨_, rfl, rfl, rfl, rfl, Lib.hid (HBW6.out.trans ((HB7.out.trans HB8.out).mono HBW6.out.size))⟩
  case rest =>
  obtain ⟨w7, rfl, rfl, rfl, rfl, HBW7⟩ := hcut
  clear HBW6
  go_upto_region 9 with fail
  go_cut [19, 20, 21] (fun a b c wx => ∃ w8, w8 = wx ∧ a = .string s ∧ b = .int .i64 ((putL s.size).length + s.size : Nat) ∧ c = .int .i64 0 ∧ Hid (Below w.heap.size w wx))
  case first =>
    go_wp2_with fail
    refine (Hid.out HP _ s.size hs64).mono ?_
    rintro e w8 ⟨v, rfl, ho, hb⟩
    have HO8 := Lib.hid ho
    have HB8 := Lib.hid hb
    have HPL := Lib.hid (putL_len s.size)
    have HSL := Lib.hid (show s.data.toList.length = s.size by rw [Array.length_toList]; rfl)
    clear ho hb
    go_wp2_with (first | (at_builtin; refine wpList_append_text rfl _ _ rfl w7.heap.size v (putL s.size) rfl HO8.out s rfl (by have := HPL.out; omega) HB8.out.size ?_; intro v9 w9 ho9 hb9; have HO9 := Lib.hid ho9; have HB9 := Lib.hid (HB8.out.trans hb9); have HR9 := Lib.hid (HRB.out w9 (HBW7.out.trans (HB9.out.mono HBW7.out.size))); clear ho9 hb9) | (at_builtin; refine wpList_append_bytes rfl _ _ rfl w7.heap.size v9 (putL s.size ++ s.data.toList) rfl HO9.out w9.heap.size A l cap rfl HR9.out HCAP.out (by have := HPL.out; have := HSL.out; rw [map_append_len]; omega) HB9.out.size ?_; intro v10 w10 ho10 hb10; have HO10 := Lib.hid ho10; have HB10 := Lib.hid (HB9.out.trans hb10); clear ho10 hb10))
    refine (text_own hs (by omega) HO10.out).mono ?_
    rintro e w' ⟨rfl, rfl⟩
    go_wp2_with fail
    go_meet
    exact ⟨_, rfl, rfl, rfl, rfl, Lib.hid (HBW7.out.trans (HB10.out.mono HBW7.out.size))⟩
  case rest =>
  obtain ⟨w8, rfl, rfl, rfl, rfl, HBW8⟩ := hcut
  clear HBW7
  have HPL := Lib.hid (putL_len s.size)
  have hlen : (putL s.size).length ≤ 10 := HPL.out.2
  have hss : (s.size : Int) ≤ 400 := by omega
  have hnn : ((n : Int) == (n : Int)) = true := beq_self_eq_true _
  have hmm : (m == m) = true := beq_self_eq_true _
  have hl1 : (((putL n).length : Int) == ((putL n).length : Int)) = true := beq_self_eq_true _
  have hl2 : (((putL (foldN m)).length : Int) == ((putL (foldN m)).length : Int)) = true := beq_self_eq_true _
  have HPP := Lib.hid (fun (w' : World) (q : Nat) (hq : q < 18446744073709551616) => put_in w' w' q hq (Below.refl _ _))
  clear HP HRB
  go_wp2_with fail
  refine (Hid.out HPP _ n hn).mono ?_
  rintro e w9 ⟨A1, c1, rfl, _, hb⟩
  have HB9 := Lib.hid (HBW8.out.trans (hb.out.mono HBW8.out.size))
  clear hb
  go_wp2_with fail
  refine (Hid.out HSG _).mono ?_
  rintro e w' ⟨rfl, rfl⟩
  go_wp2_with fail
  refine (Hid.out HPP _ (foldN m) hfm).mono ?_
  rintro e w10 ⟨A2, c2, rfl, _, hb⟩
  have HB10 := Lib.hid (HB9.out.trans (hb.out.mono HB9.out.size))
  clear hb
  go_wp2_with fail
  refine (Hid.out HPP _ s.size hs64).mono ?_
  rintro e w11 ⟨A3, c3, rfl, _, hb⟩
  have HB11 := Lib.hid (HB10.out.trans (hb.out.mono HB10.out.size))
  clear hb
  have HK := Lib.hid (known_yes w w11 HB11.out)
  go_wp2_with fail
  refine (Hid.out HK).mono ?_
  rintro e w12 ⟨rfl, hb⟩
  have HB12 := Lib.hid hb
  clear hb
  go_wp2
  go_ret
  exact ⟨rfl, HB12.out⟩
end Go.Proofs.YtblphklfjafmfaaDoor
