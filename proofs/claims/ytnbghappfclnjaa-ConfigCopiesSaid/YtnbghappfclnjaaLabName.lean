/- The name of a series: the program's Name. -/
import Derived.Test.YtnbghappfclnjaaLabSorted
import Derived.Test.YtnbghappfclnjaaLabText
import Derived.Test.YtnbghappfclnjaaLabCheck
namespace Go.Proofs.Ytnbghappfclnjaa
open Go.RowKit

/-- A name, or none with an error. -/
def nameS : Option (List UInt8) → List UInt8
  | some t => t
  | none => []
def nameE : Option (List UInt8) → Int
  | some _ => 0
  | none => 5
def NamePost (r : Option (List UInt8)) (w : World) (e : Ending) (w' : World) : Prop := e = .returned (.tuple #[.string ⟨(nameS r).toArray⟩, .int .i64 (nameE r)]) ∧ Below w.heap.size w w'

theorem eql_held_nil (v : Value) (w : World) : (binOp .eql 62 (.iface 76 v) .nilIface).run Try.prog w = .ok (.bool false) w := run_eql_held_nil (w := w) 62 76 v (by kernel_rfl)
theorem eql_nil_nil (w : World) : (binOp .eql 62 .nilIface .nilIface).run Try.prog w = .ok (.bool true) w := run_eql_nil_nil (w := w) 62 (by kernel_rfl)

theorem check_any (A : Option Addr) (cap : Nat) (m : ByteArray) (l : List Lbl) (w : World) (hm : m.size ≤ 9223372036854775807) (hl : l.length ≤ 1000) (hs : smallL l) (hr : LReads w w.heap.size A l) :
    Calls Try.prog 43 #[.string m, .slice A l.length cap] w (CheckPost (checkB m.data.toList l) w) := by
  cases hb : metB m.data.toList with
  | true => exact check_metric A cap m l w hm hb hl hs hr
  | false => exact check_noMetric m _ l w hm hb

set_option maxRecDepth 100000 in
set_option maxHeartbeats 2000000 in
theorem name_long (A : Option Addr) (n cap : Nat) (m : ByteArray) (w : World) (hn : n ≤ 9223372036854775807) (hl : 16 < (n : Int)) :
    Calls Try.prog 24 #[.string m, .slice A n cap] w (NamePost none w) := by
  have HO := Lib.hid (order_long A n cap w hn hl)
  go_enter Try.func24, Try.ntmps24
  go_wp2_with fail
  refine (Hid.out HO).mono ?_
  rintro e w1 ⟨v, rfl, hf, hb⟩
  obtain ⟨g, rfl⟩ := hf.form
  have HE := Lib.hid (errno_fault _ w1 hf)
  have HB := Lib.hid hb
  have hz := eql_held_nil
  clear hf hb
  go_wp2_with fail
  refine (Hid.out HE).mono ?_
  rintro e w2 ⟨rfl, rfl⟩
  go_wp2
  go_ret2
  exact ⟨rfl, HB.out⟩

set_option maxRecDepth 100000 in
set_option maxHeartbeats 2000000 in
theorem name_short (A : Option Addr) (cap : Nat) (m : ByteArray) (l : List Lbl) (w : World) (hm : m.size ≤ 9223372036854775807) (hl : l.length ≤ 16) (hs : smallL l) (hr : LReads w w.heap.size A l) :
    Calls Try.prog 24 #[.string m, .slice A l.length cap] w (NamePost (nameP m.data.toList l) w) := by
  have HO := Lib.hid (order_any A cap l w hl hr)
  have hz1 := eql_held_nil
  have hz2 := eql_nil_nil
  have HS := Lib.hid hs
  clear hr hs
  go_enter Try.func24, Try.ntmps24
  go_wp2_with fail
  refine (Hid.out HO).mono ?_
  rintro e w1 ⟨v, l', rfl, hp, hlo, hown, hb⟩
  have HNP := Lib.hid (nameP_of (m := m.data.toList) hl hp hlo)
  have hlen := hp.length_eq
  have HS' := Lib.hid (show smallL l' from fun x hx => HS.out x (hp.subset hx))
  obtain ⟨A', cap', rfl, hr', _, _⟩ := hown.reads
  have HC := Lib.hid (check_any A' cap' m l' w1 hm (by omega) HS'.out hr')
  have HR := Lib.hid hr'
  have HB := Lib.hid hb
  have hl' : l'.length ≤ 16 := by omega
  clear hp hlo hown hb hr' hlen
  go_wp2_with fail
  refine (Hid.out HC).mono ?_
  rintro e w2 ⟨h, hb2⟩
  have HB2 := Lib.hid hb2
  rcases h with ⟨hc, rfl⟩ | ⟨hc, v, rfl, hf⟩
  · have HR2 := Lib.hid ((HR.out.below hb2).more hb2.size)
    have hk := hc
    unfold checkB at hk
    rw [Bool.and_eq_true, Bool.and_eq_true] at hk
    have HT := Lib.hid (text_any A' cap' m l' w2 (by rw [Lib.size_eq]; exact metB_len hk.1) hl' hk.2.1 HR2.out)
    have HE := Lib.hid (errno_nil w2)
    have HN := Lib.hid (show nameP m.data.toList l = some (textT m.data.toList l') by rw [HNP.out, if_pos hc])
    clear hc hk hb2 HNP
    go_wp2_with fail
    refine (Hid.out HE).mono ?_
    rintro e w3 ⟨rfl, rfl⟩
    go_wp2_with fail
    refine (Hid.out HT).mono ?_
    rintro e w3 ⟨rfl, hb3⟩
    have HB3 := Lib.hid hb3
    clear hb3
    go_wp2
    go_ret2
    refine ⟨by rw [HN.out]; rfl, HB.out.trans ((HB2.out.mono HB.out.size).trans (HB3.out.mono (Nat.le_trans HB.out.size HB2.out.size)))⟩
  · obtain ⟨g, rfl⟩ := hf.form
    have HE := Lib.hid (errno_fault _ w2 hf)
    have HN := Lib.hid (show nameP m.data.toList l = none by rw [HNP.out, if_neg (by rw [hc]; simp)])
    clear hc hf hb2 HNP
    go_wp2_with fail
    refine (Hid.out HE).mono ?_
    rintro e w3 ⟨rfl, rfl⟩
    go_wp2
    go_ret2
    refine ⟨by rw [HN.out]; rfl, HB.out.trans (HB2.out.mono HB.out.size)⟩
theorem name_any (A : Option Addr) (cap : Nat) (m : ByteArray) (l : List Lbl) (w : World) (hm : m.size ≤ 9223372036854775807) (hl : l.length ≤ 9223372036854775807) (hs : smallL l) (hr : LReads w w.heap.size A l) :
    Calls Try.prog 24 #[.string m, .slice A l.length cap] w (NamePost (nameP m.data.toList l) w) := by
  rcases Nat.lt_or_ge 16 l.length with h | h
  · rw [nameP_long h]
    exact name_long A l.length cap m w hl (by omega)
  · exact name_short A cap m l w hm h hs hr
end Go.Proofs.Ytnbghappfclnjaa
