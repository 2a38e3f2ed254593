/- Slices of bytes as lists of bytes: what is read, what is owned, as a text. -/
import Derived.Test.YtnbghappfclnjaaProg
import Derived.WalkKit
import Derived.WalkSpells
import Derived.WalkLawsBesides
import Derived.Lib.Hide
import Derived.Laws.BytesString
import Derived.Laws.BitsAllLaws
import Derived.Laws.AppendOwn
import Derived.OwnWalk
import Derived.Deep.DeepCutAuto
import Derived.Deep.CutBlock
namespace Go.Proofs.Ytnbghappfclnjaa
open Go.RowKit

def bcell (c : UInt8) : Value := .int .u8 (c.toNat : Int)
/-- The slice at A, of l's length, reads as l, and lies below block B. -/
def BReads (w : World) (B : Nat) (A : Option Addr) (l : List UInt8) : Prop :=
  l = [] ∨ ∃ b off, A = some ⟨b, off, none⟩ ∧ b < B ∧ ∀ j c, l[j]? = some c → w.cell? ⟨b, off + j, none⟩ = some (bcell c)
/-- v is a slice of the call's own that holds l. -/
def Owned (B : Nat) (w : World) (v : Value) (l : List UInt8) : Prop := w.ownsRow B 5 1 v l.length (l.map bcell)

theorem Try.infoU8 : (Try.prog.info? 5).map (fun i => (i.zero, i.size, i.bytes)) = some (some (.int .u8 0), 1, 1) := by kernel_rfl
theorem bcell_one (l : List UInt8) : ∀ u ∈ l.map bcell, u.oneCell' = true := by
  intro u hu
  obtain ⟨c, _, rfl⟩ := List.mem_map.1 hu
  rfl
theorem BReads.nil (w : World) (B : Nat) (A : Option Addr) : BReads w B A [] := .inl rfl
theorem BReads.keep {w w' : World} {B : Nat} {A : Option Addr} {l : List UInt8} (h : BReads w B A l) (hk : ∀ p : Addr, p.block < B → w'.cell? p = w.cell? p) : BReads w' B A l := by
  rcases h with h | ⟨b, off, rfl, hb, hc⟩
  · exact .inl h
  · exact .inr ⟨b, off, rfl, hb, fun j c hj => (hk ⟨b, off + j, none⟩ hb).trans (hc j c hj)⟩
theorem BReads.below {w w' : World} {B : Nat} {A : Option Addr} {l : List UInt8} (h : BReads w B A l) (hb : Below B w w') : BReads w' B A l := h.keep fun _ hp => hb.cell hp
theorem BReads.more {w : World} {B B' : Nat} {A : Option Addr} {l : List UInt8} (h : BReads w B A l) (hB : B ≤ B') : BReads w B' A l := by
  rcases h with h | ⟨b, off, rfl, hb, hc⟩
  · exact .inl h
  · exact .inr ⟨b, off, rfl, Nat.lt_of_lt_of_le hb hB, hc⟩
theorem BReads.grown {w w' : World} {B : Nat} {A : Option Addr} {l : List UInt8} {row : Option Nat} (h : BReads w B A l) (hg : w.grownBy w' row) (hB : B ≤ w.heap.size) (hr : ∀ g, row = some g → B ≤ g) : BReads w' B A l :=
  h.keep fun p hp => World.cell?_of_block (hg.block p.block (by omega) (fun e => by have := hr _ e.symm; omega))
theorem add_plain' (b off j : Nat) : (⟨b, off, none⟩ : Addr).add j = ⟨b, off + j, none⟩ := by
  unfold Addr.add
  split <;> simp_all
/-- What is asked of what is appended. -/
theorem BReads.hnone {w : World} {B : Nat} {A : Option Addr} {l : List UInt8} (h : BReads w B A l) : A = none → l.length = 0 := by
  intro hA
  rcases h with h | ⟨b, off, rfl, _⟩
  · rw [h]; rfl
  · cases hA
theorem BReads.cells {w : World} {B : Nat} {A : Option Addr} {l : List UInt8} (h : BReads w B A l) : ∀ ad, A = some ad → ∀ j u, (l.map bcell)[j]? = some u → w.cell? (ad.add j) = some u := by
  intro ad hA j u hu
  rw [List.getElem?_map] at hu
  rcases h with rfl | ⟨b, off, rfl, _, hc⟩
  · simp at hu
  · cases hA
    rw [add_plain']
    obtain ⟨c, hc1, rfl⟩ := Option.map_eq_some_iff.1 hu
    exact hc j c hc1
theorem BReads.addr {w : World} {B : Nat} {A : Option Addr} {l : List UInt8} (h : BReads w B A l) (hl : 0 < l.length) : ∃ b off, A = some ⟨b, off, none⟩ ∧ b < B ∧ ∀ j c, l[j]? = some c → w.cell? ⟨b, off + j, none⟩ = some (bcell c) := by
  rcases h with rfl | h
  · simp at hl
  · exact h
theorem Owned.form {B : Nat} {w : World} {v : Value} {l : List UInt8} (h : Owned B w v l) : (v = .slice none 0 0 ∧ l = []) ∨ ∃ g cap, v = .slice (some ⟨g, 0, none⟩) l.length cap ∧ B ≤ g ∧ g < w.heap.size ∧ l.length ≤ cap ∧ cap ≤ maxLen := by
  rcases h.2 with ⟨rfl, h0⟩ | ⟨g, cap, cur, rfl, hb, hg, hn, hm, _⟩
  · exact .inl ⟨rfl, List.eq_nil_of_length_eq_zero h0⟩
  · refine .inr ⟨g, cap, rfl, hb, ?_, hn, hm⟩
    rcases Nat.lt_or_ge g w.heap.size with h1 | h1
    · exact h1
    · rw [Array.getElem?_eq_none h1] at hg; cases hg
theorem Owned.reads {B : Nat} {w : World} {v : Value} {l : List UInt8} (h : Owned B w v l) : ∃ A cap, v = .slice A l.length cap ∧ BReads w w.heap.size A l ∧ l.length ≤ cap ∧ cap ≤ maxLen := by
  rcases h.form with ⟨rfl, rfl⟩ | ⟨g, cap, rfl, _, hg, hn, hm⟩
  · exact ⟨none, 0, rfl, .inl rfl, Nat.le_refl _, by unfold maxLen; omega⟩
  · refine ⟨_, cap, rfl, .inr ⟨g, 0, rfl, hg, fun j c hj => ?_⟩, hn, hm⟩
    have := World.ownsRow.cells h (g := g) rfl j (bcell c) (by rw [List.getElem?_map, hj]; rfl)
    rwa [add_plain'] at this
theorem Owned.below {B : Nat} {w w' : World} {v : Value} {l : List UInt8} (h : Owned B w v l) (hb : Below w.heap.size w w') : Owned B w' v l := by
  refine ⟨h.1, ?_⟩
  rcases h.2 with hn | ⟨g, cap, cur, rfl, hB, hg, rest⟩
  · exact .inl hn
  · refine .inr ⟨g, cap, cur, rfl, hB, ?_, rest⟩
    rw [hb.block g (by rcases Nat.lt_or_ge g w.heap.size with h1 | h1; exact h1; rw [Array.getElem?_eq_none h1] at hg; cases hg)]
    exact hg
theorem Owned.low {B B' : Nat} {w : World} {v : Value} {l : List UInt8} (h : Owned B w v l) (hB : B' ≤ B) : Owned B' w v l := by
  refine ⟨h.1, ?_⟩
  rcases h.2 with hn | ⟨g, cap, cur, rfl, h1, rest⟩
  · exact .inl hn
  · exact .inr ⟨g, cap, cur, rfl, Nat.le_trans hB h1, rest⟩
theorem Owned.grows {B : Nat} {w : World} {v : Value} {l : List UInt8} (h : Owned B w v l) : ∀ k, v.ownBlock = some k → B ≤ k := fun k hk => (World.ownsRow.lt h k hk).1
theorem map_append_len (l r : List UInt8) : (l ++ r).length = l.length + r.length := List.length_append

/-- A list of bytes as a text. -/
theorem fold_push (l : List UInt8) (s : ByteArray) : ((l.map fun c => (c.toNat : Int)).foldl (fun r n => r.push (UInt8.ofNat n.toNat)) s).data.toList = s.data.toList ++ l := by
  induction l generalizing s with
  | nil => simp
  | cons c l ih =>
    rw [List.map_cons, List.foldl_cons, ih]
    simp [ByteArray.push]
theorem ba_eq {T : ByteArray} {l : List UInt8} (h : T.data.toList = l) : T = ⟨l.toArray⟩ := by
  obtain ⟨⟨l'⟩⟩ := T
  simp at h
  subst h
  rfl
theorem run_bytes_text (w : World) (dst src : TypeId) (hs : Try.prog.underlying src = some (.slice 5)) (hd : Try.prog.underlying dst = some .string) {B : Nat} {A : Option Addr} {l : List UInt8} (c : Nat) (h : BReads w B A l) :
    (convert src dst (.slice A l.length c)).run Try.prog w = .ok (.string ⟨l.toArray⟩) w := by
  rw [run_convert_bytes_string _ src dst 5 _ _ _ hs Try.underlying5 hd]
  cases A with
  | none =>
    have := h.hnone rfl
    obtain rfl := List.eq_nil_of_length_eq_zero this
    rfl
  | some ad =>
    have hc := h.cells ad rfl
    have hl := run_loadCells_list (P := Try.prog) w ad (l.map bcell) hc
    have e : (l.map fun c => (c.toNat : Int)).map (Value.int .u8) = l.map bcell := by rw [List.map_map]; rfl
    rw [run_bytesToString w ad l.length c (l.map fun c => (c.toNat : Int)) (by rw [e]; simpa using hl)]
    have := fold_push l ByteArray.empty
    rw [ba_eq this]
    rfl
end Go.Proofs.Ytnbghappfclnjaa
