/- The program's Fields. -/
import Derived.Test.YtfpakigdinocnaaDoorHeadParse
namespace Go.Proofs.YtfpakigdinocnaaDoor
open Go.RowKit

def FsP (B : Nat) (rd : Rd) (e : Ending) (w' : World) : Prop :=
  match rd with
  | .err n => e = .returned (.tuple #[.slice none 0 0, .int .i64 (n : Int)])
  | .part => e = .returned (.tuple #[.slice none 0 0, .int .i64 15])
  | .whole _ _ fs _ => ∃ v, e = .returned (.tuple #[v, .int .i64 0]) ∧ fK.Own B w' v fs
set_option maxRecDepth 100000 in
set_option maxHeartbeats 1000000 in
theorem fields_any {w : World} {A : Option Addr} {c : Nat} {l : List UInt8} (hr : BReads w w.heap.size A l) (hc : l.length ≤ c) (hn : A = none → c = 0) (hl : l.length ≤ 1000000) (hm : MX w) :
    Calls Tryd.prog 11 #[.slice A l.length c] w fun e w' => FsP w.heap.size (readL l) e w' ∧ Below w.heap.size w w' := by
  have HRD := Lib.hid (read_any hr hc hn hl hm)
  have HSMF : Hid (∀ old st fs n, readL l = .whole old st fs n → (smallFs fs ∧ fs.length ≤ 64) ∧ 0 < n) := Lib.hid (fun old st fs n h => readL_small h)
  obtain ⟨n, hnn⟩ : ∃ n, n = l.length := ⟨_, rfl⟩
  rw [← hnn] at HRD ⊢
  clear hr hc hn hl hm hnn
  unfold ReadPost at HRD
  cases hrd : readL l with
  | err e0 =>
    have he := readL_err hrd
    rw [hrd] at HRD
    clear hrd HSMF
    go_enter Tryd.func11, Tryd.ntmps11
    go_wp2_with fail
    refine (Hid.out HRD).mono ?_
    rintro e w1 ⟨rfl, hb1⟩
    have HB1 := Lib.hid (hb1.alloc hb1.size (.cells #[.bool false, .int .i64 0, .slice none 0 0, .int .i64 0] 42))
    clear hb1 HRD
    unfold zeroV
    rcases he with rfl | rfl | rfl
    all_goals
      go_wp2
      go_ret2
      exact ⟨rfl, HB1.out⟩
  | part =>
    rw [hrd] at HRD
    clear hrd HSMF
    go_enter Tryd.func11, Tryd.ntmps11
    go_wp2_with fail
    refine (Hid.out HRD).mono ?_
    rintro e w1 ⟨rfl, hb1⟩
    have HB1 := Lib.hid (hb1.alloc hb1.size (.cells #[.bool false, .int .i64 0, .slice none 0 0, .int .i64 0] 42))
    clear hb1 HRD
    unfold zeroV
    go_wp2
    go_ret2
    exact ⟨rfl, HB1.out⟩
  | whole old st fs m =>
    rw [hrd] at HRD
    have HSF := Lib.hid (HSMF.out _ _ _ _ hrd)
    have hm1 : ((m : Int) == 0) = false := by have := HSF.out.2; simp; omega
    have hm2 : (m == 0) = false := by have := HSF.out.2; simp; omega
    clear hrd HSMF
    go_enter Tryd.func11, Tryd.ntmps11
    go_wp2_with fail
    refine (Hid.out HRD).mono ?_
    rintro e w1 ⟨⟨v, rfl, hown⟩, hb1⟩
    obtain ⟨Av, cv, rfl, -, -, -⟩ := hown.reads
    have HB1 := Lib.hid (hb1.alloc hb1.size (.cells #[.bool old, .int .i64 (st : Int), .slice Av fs.length cv, .int .i64 (m : Int)] 42))
    have HO := Lib.hid (hown.alloc (.cells #[.bool old, .int .i64 (st : Int), .slice Av fs.length cv, .int .i64 (m : Int)] 42))
    clear hb1 HRD hown
    go_wp2
    go_ret2
    exact ⟨⟨_, rfl, HO.out⟩, HB1.out⟩
end Go.Proofs.YtfpakigdinocnaaDoor
