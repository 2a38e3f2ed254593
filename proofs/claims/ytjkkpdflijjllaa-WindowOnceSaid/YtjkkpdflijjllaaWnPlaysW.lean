/- WindowPlays, walked. -/
import Derived.Test.YtjkkpdflijjllaaWnKnown
namespace Go.Proofs.Ytjkkpdflijjllaa
open Go.RowKit

def FinN (w : World) (e : Ending) (w' : World) : Prop := e = .returned (.bool true) ∧ Turns [] w w'
def Ac.cells (a : Ac) : List Value := [.int .i64 a.kind, .int .i64 a.n, .string a.name, .int .i64 a.tm, .int .i64 a.inc, .bool a.rs]
def acK : EK Ac := ⟨22, 36, 6, 56, .agg #[.int .i64 0, .int .i64 0, .string ⟨#[]⟩, .int .i64 0, .int .i64 0, .bool false], Ac.cells⟩
theorem acOk : acK.Ok Try.prog := ⟨Try.underlying22, by kernel_rfl, rfl, by decide, by decide, fun _ => rfl, fun x u hu => by simp [acK, Ac.cells] at hu; rcases hu with rfl | rfl | rfl | rfl | rfl | rfl <;> rfl⟩
set_option maxRecDepth 100000 in
set_option maxHeartbeats 2000000 in
theorem beginN_any (C : WiC) {w X : World} (hX : Turns [] w X) (len lat most : Int) (h1 : I64 len) (h2 : I64 lat) (h3 : I64 most) (hm : mayW len lat most = 0) :
    Calls Try.prog 11 #[.int .i64 len, .int .i64 lat, .int .i64 most] X fun e Y => ∃ p rv, e = .returned (.tuple #[ptrW p, ptrW rv, .bool true]) ∧ PairN C [] (.plain w) Y p (newW len lat most) rv (newW len lat most) := by
  have HN := Lib.hid (loneN_new (C := C) hX len lat most h1 h2 h3 hm)
  have HR := Lib.hid (fun Y => rnewW_any len lat most Y)
  clear h1 h2 h3 hm
  go_enter Try.func11, Try.ntmps11
  go_wp2_with fail
  refine HN.out.mono ?_
  rintro e w1 ⟨p, rfl, l1, -⟩
  have H1 := Lib.hid l1
  clear l1 HN
  go_wp2_with fail
  refine (HR.out _).mono ?_
  rintro e w2 ⟨rfl, r2, t2⟩
  have H2 := Lib.hid (PairN.start H1.out t2 r2)
  clear r2 t2 HR
  go_wp2_with fail
  go_ret3
  exact ⟨p, _, rfl, H2.out⟩
set_option maxRecDepth 100000 in
set_option maxHeartbeats 2000000 in
theorem winPlays_no (C : WiC) (len lat most : Int) (A0 : Option Addr) (cap n : Nat) (w : World) (h1 : I64 len) (h2 : I64 lat) (h3 : I64 most) (hm : mayW len lat most ≠ 0) :
    Calls Try.prog 3 #[.int .i64 len, .int .i64 lat, .int .i64 most, .slice A0 n cap] w (FinN w) := by
  have HM := Lib.hid (rmayW_any len lat most w)
  have HN := Lib.hid (fun Y => (C.new len lat most Y h1 h2 h3).mono fun e Z hz => And.intro (hz.2.1 hm) hz.2.2)
  have HK := Lib.hid (fun Y => knownN_any C Y)
  generalize mayW len lat most = m at HM HN hm
  have d1 : (m != 0) = true := by simpa using hm
  have d2 : (m == m) = true := by simp
  clear h1 h2 h3 hm
  go_enter Try.func3, Try.ntmps3
  go_wp2_with fail
  refine HM.out.mono ?_
  rintro e w1 ⟨rfl, rfl⟩
  go_wp2_with fail
  refine (HN.out _).mono ?_
  rintro e w2 ⟨rfl, t2⟩
  have HT2 := Lib.hid t2
  clear t2 HM
  go_wp2_with (go_at_call 10; refine (HK.out _).mono ?_; rintro e w3 ⟨rfl, t3⟩; have HT3 := Lib.hid (HT2.out.then t3); clear t3)
  go_ret
  exact ⟨rfl, HT3.out⟩
set_option maxRecDepth 100000 in
set_option maxHeartbeats 2000000 in
theorem winPlays_many (C : WiC) (len lat most : Int) (A0 : Option Addr) (cap n : Nat) (w : World) (h1 : I64 len) (h2 : I64 lat) (h3 : I64 most) (hm : mayW len lat most = 0) (hn : 100 < n) :
    Calls Try.prog 3 #[.int .i64 len, .int .i64 lat, .int .i64 most, .slice A0 n cap] w (FinN w) := by
  have HM := Lib.hid (rmayW_any len lat most w)
  rw [hm] at HM
  have HB := Lib.hid (beginN_any C (Turns.refl [] w) len lat most h1 h2 h3 hm)
  have HK := Lib.hid (fun Y => knownN_any C Y)
  have d1 : decide ((100 : Int) < (n : Int)) = true := by simp; omega
  have d2 : decide (100 < n) = true := by simpa using hn
  clear h1 h2 h3 hm hn
  go_enter Try.func3, Try.ntmps3
  go_wp2_with fail
  refine HM.out.mono ?_
  rintro e w1 ⟨rfl, rfl⟩
  go_wp2_with fail
  refine HB.out.mono ?_
  rintro e w2 ⟨p, rv, rfl, h2⟩
  have HT2 := Lib.hid h2.turns
  clear h2 HB HM
  go_wp2_with (go_at_call 10; refine (HK.out _).mono ?_; rintro e w3 ⟨rfl, t3⟩; have HT3 := Lib.hid (HT2.out.then t3); clear t3)
  go_ret
  exact ⟨rfl, HT3.out⟩
/-- All acts that came in. -/
def AcsOk (l : List Ac) : Prop := ∀ a ∈ l, a.Ok
theorem acts_at {w : World} {A0 : Option Addr} {l : List Ac} (hr : acK.Reads w w.heap.size A0 l) {k : Nat} {a : Ac} (ha : l[k]? = some a) : ∃ g off, A0 = some ⟨g, off, none⟩ ∧ ∀ W, Turns [] w W → W.cell? ⟨g, off + k * 6, none⟩ = some (.int .i64 a.kind) ∧ W.cell? ⟨g, off + k * 6 + 1, none⟩ = some (.int .i64 a.n) ∧ W.cell? ⟨g, off + k * 6 + 2, none⟩ = some (.string a.name) ∧ W.cell? ⟨g, off + k * 6 + 3, none⟩ = some (.int .i64 a.tm) ∧ W.cell? ⟨g, off + k * 6 + 4, none⟩ = some (.int .i64 a.inc) ∧ W.cell? ⟨g, off + k * 6 + 5, none⟩ = some (.bool a.rs) := by
  rcases hr with h | ⟨g, off, rfl, hg, hc⟩
  · rw [h] at ha
    simp at ha
  · have hf := fun j u hj => hc _ u (EK.flat_at acOk ha j u hj)
    have h0 := hf 0 _ rfl
    have h1 := hf 1 _ rfl
    have h2 := hf 2 _ rfl
    have h3 := hf 3 _ rfl
    have h4 := hf 4 _ rfl
    have h5 := hf 5 _ rfl
    simp only [acK, Nat.add_zero, ← Nat.add_assoc] at h0 h1 h2 h3 h4 h5
    exact ⟨g, off, rfl, fun W ht => ⟨(ht.cell hg (by simp) _).trans h0, (ht.cell hg (by simp) _).trans h1, (ht.cell hg (by simp) _).trans h2, (ht.cell hg (by simp) _).trans h3, (ht.cell hg (by simp) _).trans h4, (ht.cell hg (by simp) _).trans h5⟩⟩
/-- A pair after some acts, plainly. -/
def RunN (C : WiC) (Q : List Nat) (b : Base) (X : World) (p rv N : Nat) : Prop := ∃ S, PairN C Q b X p S rv S ∧ WsOk S N
section
variable {C : WiC} {Q : List Nat} {b : Base} {X Y : World} {p rv N : Nat}
theorem RunN.turns (h : RunN C Q b X p rv N) : Turns [] b.w X := by
  obtain ⟨S, h, _⟩ := h
  exact h.turns
theorem RunN.pre (h : RunN C Q b X p rv N) (ht : Turns [] X Y) : RunN C Q b Y p rv N := by
  obtain ⟨S, h, h2⟩ := h
  exact ⟨S, h.pre ht, h2⟩
theorem RunN.do (h : RunN C Q b X p rv N) (hN : N ≤ 1000) (a : Ac) (ha : a.Ok) : Calls Try.prog 12 #[ptrW p, ptrW rv, a.val] X fun e Y => e = .returned (.bool true) ∧ RunN C Q b Y p rv (N + 1) := by
  obtain ⟨S, h, h2⟩ := h
  refine (doN_any C h h2 hN a ha).mono ?_
  rintro e Y ⟨rfl, hy⟩
  exact ⟨rfl, _, hy, h2.act a ha⟩
theorem RunN.same (h : RunN C Q b X p rv N) (hN : N ≤ 1000) : Calls Try.prog 13 #[ptrW p, ptrW rv] X fun e Y => e = .returned (.bool true) ∧ Turns [] X Y := by
  obtain ⟨S, h, h2⟩ := h
  exact sameN_any C h h2 hN
end
set_option maxRecDepth 100000 in
set_option maxHeartbeats 4000000 in
theorem winPlays_main (C : WiC) (len lat most : Int) (A0 : Option Addr) (cap : Nat) (l : List Ac) (w : World) (h1 : I64 len) (h2 : I64 lat) (h3 : I64 most) (hm : mayW len lat most = 0) (hn : l.length ≤ 100) (hr : acK.Reads w w.heap.size A0 l) (hok : AcsOk l) :
    Calls Try.prog 3 #[.int .i64 len, .int .i64 lat, .int .i64 most, .slice A0 l.length cap] w (FinN w) := by
  have HM := Lib.hid (rmayW_any len lat most w)
  rw [hm] at HM
  have HB := Lib.hid (beginN_any C (Turns.refl [] w) len lat most h1 h2 h3 hm)
  have HS0 := Lib.hid (WsOk.new hm)
  have HK := Lib.hid (fun Y => knownN_any C Y)
  have HR := Lib.hid hr
  have HOK := Lib.hid hok
  obtain ⟨NN, hNN⟩ : ∃ NN, NN = l.length := ⟨_, rfl⟩
  have HNN := Lib.hid hNN
  rw [← hNN] at hn ⊢
  have d1 : decide ((100 : Int) < (NN : Int)) = false := by simp; omega
  have d2 : decide (100 < NN) = false := by simpa using hn
  have hnn : (NN : Int) ≤ 100 := by omega
  clear h1 h2 h3 hm hr hok hNN
  go_enter Try.func3, Try.ntmps3
  go_wp2_with fail
  refine HM.out.mono ?_
  rintro e w1 ⟨rfl, rfl⟩
  go_wp2_with fail
  refine HB.out.mono ?_
  rintro e w2 ⟨p, rv, rfl, h2⟩
  have HP := Lib.hid (show RunN C [] (.plain w) w2 p rv 0 from ⟨_, h2, HS0.out⟩)
  clear h2 HB HM
  go_wp2_with fail
  go_loopw [15] (fun iv wr => ∃ k : Nat, k ≤ NN ∧ iv = .int .i64 (k : Int) ∧ Hid (RunN C [] (.plain w) wr p rv k)) (fun iv _ => NN - (intOf iv).toNat)
  case atStart => exact ⟨0, Nat.zero_le _, rfl, HP⟩
  case round =>
    obtain ⟨k, hk, rfl, HX⟩ := hrel
    have hk0 : (0 : Int) ≤ (k : Int) := by omega
    by_cases hlt : k < NN
    · have hlt' : (k : Int) < (NN : Int) := by omega
      obtain ⟨a, ha⟩ : ∃ a, l[k]? = some a := ⟨_, List.getElem?_eq_getElem (by have := HNN.out; omega)⟩
      obtain ⟨g, off, rfl, hc⟩ := acts_at HR.out ha
      obtain ⟨x0, x1, x2, x3, x4, x5⟩ := hc wr HX.out.turns
      have HDO := Lib.hid (HX.out.do (by omega) a (HOK.out a (List.mem_of_getElem? ha)))
      have HLT := Lib.hid hlt
      unfold Ac.val at HDO
      clear ha hc
      go_wp2_with (first | (go_at_call 12; refine HDO.out.mono ?_; rintro e w4 ⟨rfl, h4⟩; have H4 := Lib.hid h4; have HSM := Lib.hid (h4.same (by have := HLT.out; omega)); clear h4) | (go_at_call 13; refine HSM.out.mono ?_; rintro e w5 ⟨rfl, t5⟩; have H5 := Lib.hid (H4.out.pre t5); clear t5))
      exact ⟨⟨k + 1, HLT.out, by go_num, H5⟩, by have := HLT.out; simp [intOf]; omega⟩
    · have hge : decide ((k : Int) < (NN : Int)) = false := by simp; omega
      have HT2 := Lib.hid HX.out.turns
      go_wp2_with (go_at_call 10; refine (HK.out _).mono ?_; rintro e w3 ⟨rfl, t3⟩; have HT3 := Lib.hid (HT2.out.then t3); clear t3)
      go_ret
      exact ⟨rfl, HT3.out⟩
end Go.Proofs.Ytjkkpdflijjllaa
