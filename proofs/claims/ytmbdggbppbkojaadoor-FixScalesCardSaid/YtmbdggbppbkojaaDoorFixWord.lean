/- The contract of fix.isWord. -/
import Derived.Test.YtmbdggbppbkojaaDoorFold
namespace Go.Proofs.YtmbdggbppbkojaaDoor
open Go.RowKit

def nanB : ByteArray := ⟨#[110, 97, 110]⟩
def infB : ByteArray := ⟨#[105, 110, 102]⟩
def infinityB : ByteArray := ⟨#[105, 110, 102, 105, 110, 105, 116, 121]⟩
def wordB (l : List UInt8) : Bool := Lib.equalFold l nanB.data.toList || Lib.equalFold l infB.data.toList || Lib.equalFold l infinityB.data.toList
def unsign : List UInt8 → List UInt8
  | [] => []
  | c :: l => if isSignB c.toNat then l else c :: l
def isWordB (l : List UInt8) : Bool := wordB (unsign l)

theorem letters_of {l : List UInt8} (h : (l.all fun b => decide (97 ≤ b.toNat ∧ b.toNat ≤ 122 ∧ b.toNat ≠ 107 ∧ b.toNat ≠ 115)) = true) : ∀ (j : Nat) b, l[j]? = some b → plainLetter b.toNat := by
  intro j b hb
  have := List.all_eq_true.1 h b (List.mem_of_getElem? hb)
  simpa [plainLetter] using this
theorem FoldTab.below {B : Nat} {w w' : World} (h : FoldTab w) (hb : Below B w w') (hB : 2 < B) : FoldTab w' := fun c hc => by
  have h1 := h c hc
  exact ⟨(hb.cell (p := ⟨2, c, none⟩) hB).trans h1.1, (hb.cell (p := ⟨2, c - 32, none⟩) hB).trans h1.2⟩

/-- The three calls, in whatever later world. -/
theorem fold_later (S t : ByteArray) (w w1 : World) (hS : S.size < 4294967281) (hat : ∀ (j : Nat) b, t.data.toList[j]? = some b → plainLetter b.toNat) (hT : FoldTab w) (hlt : 2 < w.heap.size) (hb : Below w.heap.size w w1) :
    Calls Tryd.prog 37 #[.string S, .string t] w1 fun e w' => e = .returned (.bool (Lib.equalFold S.data.toList t.data.toList)) ∧ Below w.heap.size w w' :=
  (fold_any S t w1 hS hat (hT.below hb hlt) (Nat.lt_of_lt_of_le hlt hb.size)).mono fun _ _ h => ⟨h.1, hb.trans (h.2.mono hb.size)⟩

/-- What the three calls give, and what 'or' makes of it. -/
structure Three (S : ByteArray) (w : World) (b b1 b2 b3 : Bool) : Prop where
  h1 : ∀ w1, Below w.heap.size w w1 → Calls Tryd.prog 37 #[.string S, .string nanB] w1 fun e w' => e = .returned (.bool b1) ∧ Below w.heap.size w w'
  h2 : ∀ w1, Below w.heap.size w w1 → Calls Tryd.prog 37 #[.string S, .string infB] w1 fun e w' => e = .returned (.bool b2) ∧ Below w.heap.size w w'
  h3 : ∀ w1, Below w.heap.size w w1 → Calls Tryd.prog 37 #[.string S, .string infinityB] w1 fun e w' => e = .returned (.bool b3) ∧ Below w.heap.size w w'
  hb : b = (b1 || b2 || b3)
theorem three (S : ByteArray) (w : World) (hs : S.size < 4294967281) (hT : FoldTab w) (hlt : 2 < w.heap.size) :
    ∃ b1 b2 b3, Three S w (wordB S.data.toList) b1 b2 b3 :=
  ⟨_, _, _, fun w1 => fold_later S nanB w w1 hs (letters_of (by decide)) hT hlt, fun w1 => fold_later S infB w w1 hs (letters_of (by decide)) hT hlt,
    fun w1 => fold_later S infinityB w w1 hs (letters_of (by decide)) hT hlt, rfl⟩

set_option maxRecDepth 100000 in
set_option maxHeartbeats 400000 in
theorem isWord_empty (s : ByteArray) (b b1 b2 b3 : Bool) (w : World) (he : s.toList = []) (he2 : s.toList.isEmpty = true) (H3 : Hid (Three s w b b1 b2 b3)) :
    Calls Tryd.prog 20 #[.string s] w fun e w' => e = .returned (.bool b) ∧ Below w.heap.size w w' := by
  have H0 := Lib.hid (Below.refl w.heap.size w)
  cases b1 <;> cases b2
  all_goals
    go_enter Tryd.func20, Tryd.ntmps20
    go_wp2_with fail
    refine (H3.out.h1 _ H0.out).mono ?_
    rintro e w1 ⟨rfl, hb1⟩
    go_wp2_with fail
    first
    | (go_ret; exact ⟨ret_bool (by rw [H3.out.hb]; simp), hb1⟩)
    | (refine (H3.out.h2 _ hb1).mono ?_
       rintro e w2 ⟨rfl, hb2⟩
       go_wp2_with fail
       first
       | (go_ret; exact ⟨ret_bool (by rw [H3.out.hb]; simp), hb2⟩)
       | (refine (H3.out.h3 _ hb2).mono ?_
          rintro e w3 ⟨rfl, hb3⟩
          go_wp2_with fail
          go_ret
          exact ⟨ret_bool (by rw [H3.out.hb]; simp), hb3⟩))
set_option maxRecDepth 100000 in
set_option maxHeartbeats 400000 in
theorem isWord_plain (s : ByteArray) (b b1 b2 b3 : Bool) (w : World) (hpos : 0 < s.size) (he2 : s.toList.isEmpty = false) (hsg : isSignB (s[0]'hpos).toNat = false) (H3 : Hid (Three s w b b1 b2 b3)) :
    Calls Tryd.prog 20 #[.string s] w fun e w' => e = .returned (.bool b) ∧ Below w.heap.size w w' := by
  have H0 := Lib.hid (Below.refl w.heap.size w)
  have HS := Lib.hid (show Calls Tryd.prog 36 #[.int .i32 ((s[0]'hpos).toNat : Int)] w fun e w' => e = .returned (.bool false) ∧ w = w' by rw [← hsg]; exact isSign_any _ w)
  clear hsg
  have hp' : (0 : Int) < s.size := by omega
  have hq : ((s[0]'hpos).toNat : Int) ≤ 255 := by have := (s[0]'hpos).toNat_lt; omega
  cases b1 <;> cases b2
  all_goals
    go_enter Tryd.func20, Tryd.ntmps20
    go_wp2_with fail
    refine (Hid.out HS).mono ?_
    rintro e w1 ⟨rfl, rfl⟩
    go_wp2_with fail
    refine (H3.out.h1 _ H0.out).mono ?_
    rintro e w1 ⟨rfl, hb1⟩
    go_wp2_with fail
    first
    | (go_ret; exact ⟨ret_bool (by rw [H3.out.hb]; simp), hb1⟩)
    | (refine (H3.out.h2 _ hb1).mono ?_
       rintro e w2 ⟨rfl, hb2⟩
       go_wp2_with fail
       first
       | (go_ret; exact ⟨ret_bool (by rw [H3.out.hb]; simp), hb2⟩)
       | (refine (H3.out.h3 _ hb2).mono ?_
          rintro e w3 ⟨rfl, hb3⟩
          go_wp2_with fail
          go_ret
          exact ⟨ret_bool (by rw [H3.out.hb]; simp), hb3⟩))
set_option maxRecDepth 100000 in
set_option maxHeartbeats 400000 in
theorem isWord_signed (s : ByteArray) (b b1 b2 b3 : Bool) (w : World) (hpos : 0 < s.size) (he2 : s.toList.isEmpty = false) (hsg : isSignB (s[0]'hpos).toNat = true) (H3 : Hid (Three (s.extract 1 s.size) w b b1 b2 b3)) :
    Calls Tryd.prog 20 #[.string s] w fun e w' => e = .returned (.bool b) ∧ Below w.heap.size w w' := by
  have H0 := Lib.hid (Below.refl w.heap.size w)
  have HS := Lib.hid (show Calls Tryd.prog 36 #[.int .i32 ((s[0]'hpos).toNat : Int)] w fun e w' => e = .returned (.bool true) ∧ w = w' by rw [← hsg]; exact isSign_any _ w)
  clear hsg
  have hp' : (0 : Int) < s.size := by omega
  have hq : ((s[0]'hpos).toNat : Int) ≤ 255 := by have := (s[0]'hpos).toNat_lt; omega
  cases b1 <;> cases b2
  all_goals
    go_enter Tryd.func20, Tryd.ntmps20
    go_wp2_with fail
    refine (Hid.out HS).mono ?_
    rintro e w1 ⟨rfl, rfl⟩
    go_wp2_with fail
    refine (H3.out.h1 _ H0.out).mono ?_
    rintro e w1 ⟨rfl, hb1⟩
    go_wp2_with fail
    first
    | (go_ret; exact ⟨ret_bool (by rw [H3.out.hb]; simp), hb1⟩)
    | (refine (H3.out.h2 _ hb1).mono ?_
       rintro e w2 ⟨rfl, hb2⟩
       go_wp2_with fail
       first
       | (go_ret; exact ⟨ret_bool (by rw [H3.out.hb]; simp), hb2⟩)
       | (refine (H3.out.h3 _ hb2).mono ?_
          rintro e w3 ⟨rfl, hb3⟩
          go_wp2_with fail
          go_ret
          exact ⟨ret_bool (by rw [H3.out.hb]; simp), hb3⟩))

theorem isWord_any (s : ByteArray) (w : World) (hs : s.size < 4294967281) (hT : FoldTab w) (hlt : 2 < w.heap.size) :
    Calls Tryd.prog 20 #[.string s] w fun e w' => e = .returned (.bool (isWordB s.data.toList)) ∧ Below w.heap.size w w' := by
  cases hsl : s.data.toList with
  | nil =>
    have he : s.toList = [] := by rw [Lib.toList_data, hsl]
    obtain ⟨b1, b2, b3, h3⟩ := three s w hs hT hlt
    rw [hsl] at h3
    exact isWord_empty s _ b1 b2 b3 w he (by rw [he]; rfl) h3
  | cons c l =>
    have hz : s.size = l.length + 1 := by rw [Lib.size_eq, hsl]; rfl
    have hpos : 0 < s.size := by omega
    have he2 : s.toList.isEmpty = false := by rw [Lib.toList_data, hsl]; rfl
    have h0 : s[0]'hpos = c := by
      have := Lib.data_getElem? s 0 hpos
      rw [hsl] at this
      exact (Option.some.inj this).symm
    cases hsg : isSignB (c.toNat : Int) with
    | false =>
      obtain ⟨b1, b2, b3, h3⟩ := three s w hs hT hlt
      have e : wordB s.data.toList = isWordB (c :: l) := by rw [hsl]; simp [isWordB, unsign, hsg]
      rw [e] at h3
      exact isWord_plain s _ b1 b2 b3 w hpos he2 (by rw [h0]; exact hsg) h3
    | true =>
      obtain ⟨b1, b2, b3, h3⟩ := three (s.extract 1 s.size) w (by simp; omega) hT hlt
      have e : wordB (s.extract 1 s.size).data.toList = isWordB (c :: l) := by
        rw [Lib.extract_to_end, hsl]; simp [isWordB, unsign, hsg]
      rw [e] at h3
      exact isWord_signed s _ b1 b2 b3 w hpos he2 (by rw [h0]; exact hsg) h3
end Go.Proofs.YtmbdggbppbkojaaDoor
