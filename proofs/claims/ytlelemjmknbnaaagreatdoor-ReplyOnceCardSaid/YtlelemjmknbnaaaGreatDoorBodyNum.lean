/- strconv.ParseInt of hexadecimal digits. -/
import Derived.Test.YtlelemjmknbnaaaGreatDoorBodyHex
namespace Go.Proofs.YtlelemjmknbnaaaGreatDoor
open Go.RowKit

theorem hexF_lt : ∀ (l : List UInt8) (a k : Nat), a < 16 ^ k → (∀ c ∈ l, hexC c.toNat = true) → l.foldl (fun n c => 16 * n + hexV c) a < 16 ^ (k + l.length)
  | [], a, k, h, _ => by simpa using h
  | c :: l, a, k, h, hc => by
    have h1 := hexF_lt l (16 * a + hexV c) (k + 1) (by rw [Nat.pow_succ]; have := hexV_lt (hc c (by simp)); omega) (fun x hx => hc x (by simp [hx]))
    rw [List.foldl_cons, List.length_cons, show k + (l.length + 1) = k + 1 + l.length by omega]
    exact h1
theorem hexN_lt (l : List UInt8) (h : ∀ c ∈ l, hexC c.toNat = true) : hexN l < 16 ^ l.length := by
  have := hexF_lt l 0 0 (by decide) h
  rwa [Nat.zero_add] at this
set_option maxRecDepth 100000 in
set_option maxHeartbeats 2000000 in
theorem parseI0_any (s : ByteArray) (w : World) (h0 : 0 < s.size) (h8 : s.size ≤ 8) (hx : ∀ c ∈ s.data.toList, hexC c.toNat = true) :
    Calls Tryz.prog 81 #[.string s, .int .i64 16, .int .i64 64] w fun e w' => e = .returned (.tuple #[.int .i64 (hexN s.data.toList : Int), .nilIface]) ∧ Below w.heap.size w w' := by
  have HU := Lib.hid (parseU_any s w h0 h8 hx)
  have hlt := hexN_lt _ hx
  rw [← Lib.size_eq] at hlt
  have hlt2 : hexN s.data.toList < 4294967296 := by
    have h2 : 16 ^ s.size ≤ 16 ^ 8 := Nat.pow_le_pow_right (by decide) h8
    have h3 : (16 : Nat) ^ 8 = 4294967296 := by decide
    omega
  have he2 : s.toList.isEmpty = false := by
    rw [Lib.toList_data]
    have hz := Lib.size_eq s
    cases hd : s.data.toList with
    | nil =>
      rw [hd] at hz
      change s.size = 0 at hz
      omega
    | cons a l => rfl
  obtain ⟨c, hc, hcl⟩ := data_at s 0 h0
  have hcx := hx c (List.mem_of_getElem? hcl)
  obtain ⟨q, hq⟩ : ∃ q : Int, q = (c.toNat : Int) := ⟨_, rfl⟩
  have q1 : (q == 43) = false := by
    unfold hexC at hcx
    simp only [Bool.or_eq_true, decide_eq_true_eq] at hcx
    simp
    omega
  have q2 : (q == 45) = false := by
    unfold hexC at hcx
    simp only [Bool.or_eq_true, decide_eq_true_eq] at hcx
    simp
    omega
  have hcn : (c.toNat : Int) = q := hq.symm
  obtain ⟨N, hN⟩ : ∃ N : Int, N = (hexN s.data.toList : Int) := ⟨_, rfl⟩
  rw [← hN] at HU ⊢
  have n0 : 0 ≤ N := by omega
  have n1 : N < 4294967296 := by omega
  have g1 : decide (9223372036854775808 ≤ N) = false := by simp; omega
  have g2 : IntKind.i64.wrap N = N := by rw [IntKind.wrap_i64]; omega
  have hi0 : (0 : Int) < (s.size : Int) := by omega
  clear hlt hlt2 hN hq hcx hcl hx
  go_enter Tryz.func81, Tryz.ntmps81
  go_wp2_with (go_at_call 91; refine (Hid.out HU).mono ?_; rintro e w1 ⟨rfl, hb1⟩; have HB1 := Lib.hid hb1; clear hb1)
  go_ret2
  exact ⟨rfl, HB1.out⟩
set_option maxRecDepth 100000 in
theorem parseI_any (s : ByteArray) (w : World) (h0 : 0 < s.size) (h8 : s.size ≤ 8) (hx : ∀ c ∈ s.data.toList, hexC c.toNat = true) :
    Calls Tryz.prog 60 #[.string s, .int .i64 16, .int .i64 64] w fun e w' => e = .returned (.tuple #[.int .i64 (hexN s.data.toList : Int), .nilIface]) ∧ Below w.heap.size w w' := by
  have HU := Lib.hid (parseI0_any s w h0 h8 hx)
  obtain ⟨N, hN⟩ : ∃ N : Int, N = (hexN s.data.toList : Int) := ⟨_, rfl⟩
  rw [← hN] at HU ⊢
  clear hN hx
  go_enter Tryz.func60, Tryz.ntmps60
  go_wp2_with (go_at_call 81; refine (Hid.out HU).mono ?_; rintro e w1 ⟨rfl, hb1⟩; have HB1 := Lib.hid hb1; clear hb1)
  go_ret2
  exact ⟨rfl, HB1.out⟩
/-- What strconv.ErrSyntax holds is an error, or none. -/
def EX (w : World) : Prop := ∃ ev, w.cell? ⟨1, 0, none⟩ = some ev ∧ (ev = .nilIface ∨ ∃ te pe, ev = .iface te pe)
theorem EX.grown {w w' : World} (h : EX w) (hb : Below w.heap.size w w') : EX w' := by
  obtain ⟨ev, h1, h2⟩ := h
  have hl : 1 < w.heap.size := by simpa using World.block_lt_of_cell? w ⟨1, 0, none⟩ h1
  exact ⟨ev, (hb.cell (p := ⟨1, 0, none⟩) hl).trans h1, h2⟩
theorem toErr_any (w : World) (h : EX w) : Calls Tryz.prog 82 #[.string ⟨#[80, 97, 114, 115, 101, 73, 110, 116]⟩, .string ⟨#[]⟩, .int .i64 16, .int .i64 64, .iface 132 (.int .i64 2)] w fun e w' => (∃ N, e = .returned (.iface 136 (.pointer (some ⟨N, 0, none⟩)))) ∧ Below w.heap.size w w' := by
  obtain ⟨ev, h1, h2⟩ := h
  exact (Tryz.strconv_toError_syntax ⟨#[80, 97, 114, 115, 101, 73, 110, 116]⟩ ⟨#[]⟩ 16 64 ev w (by decide) h1 h2).mono fun e w' hh => by
    obtain ⟨N, he, -, -, hb⟩ := hh
    exact ⟨⟨N, he⟩, hb⟩
set_option maxRecDepth 100000 in
theorem parseE0_any (w : World) :
    Calls Tryz.prog 81 #[.string ⟨#[]⟩, .int .i64 16, .int .i64 64] w fun e w' => e = .returned (.tuple #[.int .i64 0, .iface 132 (.int .i64 2)]) ∧ w = w' := by
  go_enter Tryz.func81, Tryz.ntmps81
  go_wp2
  go_ret2
  exact ⟨rfl, rfl⟩
set_option maxRecDepth 100000 in
theorem parseE_any (w : World) (h : EX w) :
    Calls Tryz.prog 60 #[.string ⟨#[]⟩, .int .i64 16, .int .i64 64] w fun e w' => (∃ N, e = .returned (.tuple #[.int .i64 0, .iface 136 (.pointer (some ⟨N, 0, none⟩))])) ∧ Below w.heap.size w w' := by
  have HU := Lib.hid (parseE0_any w)
  have HE := Lib.hid (toErr_any w h)
  clear h
  go_enter Tryz.func60, Tryz.ntmps60
  go_wp2_with (first | (go_at_call 81; refine (Hid.out HU).mono ?_; rintro e w1 ⟨rfl, rfl⟩) | (go_at_call 82; refine (Hid.out HE).mono ?_; rintro e w2 ⟨⟨N, rfl⟩, hb2⟩; have HB2 := Lib.hid hb2; clear hb2))
  go_ret2
  exact ⟨⟨_, rfl⟩, HB2.out⟩
theorem take_drop_suffix (p : UInt8 → Bool) (l : List UInt8) : Lib.trimSuffix l (l.dropWhile p) = l.takeWhile p := by
  have h : l.takeWhile p ++ l.dropWhile p = l := List.takeWhile_append_dropWhile
  have hs : Lib.hasSuffix l (l.dropWhile p) = true := by
    unfold Lib.hasSuffix
    rw [List.isSuffixOf_iff_suffix]
    exact List.dropWhile_suffix p
  have hl : l.length - (l.dropWhile p).length = (l.takeWhile p).length := by
    have := congrArg List.length h
    rw [List.length_append] at this
    omega
  unfold Lib.trimSuffix
  rw [if_pos hs, hl]
  conv => lhs; arg 2; rw [← h]
  exact List.take_left
theorem take_all (p : UInt8 → Bool) : ∀ (l : List UInt8), ∀ c ∈ l.takeWhile p, p c = true
  | [], c, h => by simp at h
  | a :: l, c, h => by
    rw [List.takeWhile_cons] at h
    split at h
    · rename_i ha
      rcases List.mem_cons.1 h with rfl | h
      · exact ha
      · exact take_all p l c h
    · simp at h
theorem digits_hex (l : List UInt8) : ∀ c ∈ digitsL l, hexC c.toNat = true := by
  intro c hc
  unfold digitsL restL Lib.trimLeftS at hc
  rw [take_drop_suffix] at hc
  rw [← hex_is]
  exact take_all _ _ c hc
def SzV (r : Option Nat) : Value := match r with
  | some n => .tuple #[.int .i64 (n : Int), .bool true]
  | none => .tuple #[.int .i64 0, .bool false]
end Go.Proofs.YtlelemjmknbnaaaGreatDoor
