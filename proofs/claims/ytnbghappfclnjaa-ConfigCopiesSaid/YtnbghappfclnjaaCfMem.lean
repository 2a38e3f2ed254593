/- A config, plainly and in memory. -/
import Derived.Test.YtnbghappfclnjaaRowK2
import Derived.Test.YtnbghappfclnjaaCfBox
namespace Go.Proofs.Ytnbghappfclnjaa
open Go.RowKit

def tK : EK Tg := ⟨35, 23, 5, 64, .agg #[.string ⟨#[]⟩, .string ⟨#[]⟩, .string ⟨#[]⟩, .int .i64 0, .int .i64 0], fun t => [.string t.job, .string t.host, .string t.path, .int .i64 t.iv, .int .i64 t.tm]⟩
theorem tOk : tK.Ok Try.prog := ⟨Try.underlying35, by kernel_rfl, rfl, by decide, by decide, fun _ => rfl, fun x u hu => by simp [tK] at hu; rcases hu with rfl | rfl | rfl | rfl | rfl <;> rfl⟩
def bK : EK ByteArray := ⟨36, 9, 1, 16, .string ⟨#[]⟩, fun s => [.string s]⟩
theorem bOk : bK.Ok Try.prog := ⟨Try.underlying36, by kernel_rfl, rfl, by decide, by decide, fun _ => rfl, fun x u hu => by simp [bK] at hu; rcases hu with rfl; rfl⟩
structure Cf where
  A : Option Addr
  ts : List Tg
  cap : Nat
  win : Int
  lat : Int
  B : Option Addr
  by' : List ByteArray
  cb : Nat
  ser : Int
  wins : Int
  que : Int
  con : Int
  bod : Int
  base : Int
  most : Int
def Cf.cells (c : Cf) : List Value := [.slice c.A c.ts.length c.cap, .int .i64 c.win, .int .i64 c.lat, .slice c.B c.by'.length c.cb, .int .i64 c.ser, .int .i64 c.wins, .int .i64 c.que, .int .i64 c.con, .int .i64 c.bod, .int .i64 c.base, .int .i64 c.most]
def Cf.val (c : Cf) : Value := .agg #[.slice c.A c.ts.length c.cap, .int .i64 c.win, .int .i64 c.lat, .slice c.B c.by'.length c.cb, .int .i64 c.ser, .int .i64 c.wins, .int .i64 c.que, .int .i64 c.con, .int .i64 c.bod, .int .i64 c.base, .int .i64 c.most]
/-- What its slices hold; they lie below n; of these lengths. -/
structure Cf.Reads (w : World) (n : Nat) (c : Cf) : Prop where
  ts : tK.Reads w n c.A c.ts
  by' : bK.Reads w n c.B c.by'
  nil : c.B = none → c.by' = [] ∧ c.cb = 0
  tlen : c.ts.length ≤ c.cap ∧ c.cap ≤ 9223372036854775807
  blen : c.by'.length ≤ c.cb ∧ c.cb ≤ 9223372036854775807
theorem Cf.Reads.below {w w' : World} {n : Nat} {c : Cf} (h : c.Reads w n) (hb : Below n w w') : c.Reads w' n := ⟨h.ts.below hb, h.by'.below hb, h.nil, h.tlen, h.blen⟩
theorem Cf.Reads.more {w : World} {n n' : Nat} {c : Cf} (h : c.Reads w n) (hn : n ≤ n') : c.Reads w n' := ⟨h.ts.more hn, h.by'.more hn, h.nil, h.tlen, h.blen⟩
/-- No text of it is too long to be counted. -/
def Tg.fits (t : Tg) : Prop := t.job.size ≤ 281474976710656 ∧ t.host.size ≤ 281474976710656 ∧ t.path.size ≤ 281474976710656
structure Cf.Fits (c : Cf) : Prop where
  ts : ∀ t ∈ c.ts, t.fits
  by' : ∀ s ∈ c.by', s.size ≤ 281474976710656
/-- A config's box. -/
def CfAt (w : World) (b : Nat) (c : Cf) : Prop :=
  w.cell? ⟨b, 0, none⟩ = some (.slice c.A c.ts.length c.cap) ∧ w.cell? ⟨b, 1, none⟩ = some (.int .i64 c.win) ∧ w.cell? ⟨b, 2, none⟩ = some (.int .i64 c.lat) ∧ w.cell? ⟨b, 3, none⟩ = some (.slice c.B c.by'.length c.cb) ∧
  w.cell? ⟨b, 4, none⟩ = some (.int .i64 c.ser) ∧ w.cell? ⟨b, 5, none⟩ = some (.int .i64 c.wins) ∧ w.cell? ⟨b, 6, none⟩ = some (.int .i64 c.que) ∧ w.cell? ⟨b, 7, none⟩ = some (.int .i64 c.con) ∧
  w.cell? ⟨b, 8, none⟩ = some (.int .i64 c.bod) ∧ w.cell? ⟨b, 9, none⟩ = some (.int .i64 c.base) ∧ w.cell? ⟨b, 10, none⟩ = some (.int .i64 c.most)
theorem CfAt.keep {w w' : World} {b : Nat} {c : Cf} (h : CfAt w b c) (hk : ∀ p : Addr, p.block = b → w'.cell? p = w.cell? p) : CfAt w' b c := by
  obtain ⟨h0, h1, h2, h3, h4, h5, h6, h7, h8, h9, h10⟩ := h
  exact ⟨(hk _ rfl).trans h0, (hk _ rfl).trans h1, (hk _ rfl).trans h2, (hk _ rfl).trans h3, (hk _ rfl).trans h4, (hk _ rfl).trans h5, (hk _ rfl).trans h6, (hk _ rfl).trans h7, (hk _ rfl).trans h8, (hk _ rfl).trans h9, (hk _ rfl).trans h10⟩
theorem CfAt.below {w w' : World} {b n : Nat} {c : Cf} (h : CfAt w b c) (hb : Below n w w') (hn : b < n) : CfAt w' b c := h.keep fun p hp => hb.cell (by omega)
def Cf.obj (c : Cf) : Obj := .cells #[.slice c.A c.ts.length c.cap, .int .i64 c.win, .int .i64 c.lat, .slice c.B c.by'.length c.cb, .int .i64 c.ser, .int .i64 c.wins, .int .i64 c.que, .int .i64 c.con, .int .i64 c.bod, .int .i64 c.base, .int .i64 c.most] 38
theorem CfAt.new (w : World) (c : Cf) : CfAt (w.alloc c.obj) w.heap.size c := by
  unfold CfAt World.cell? Cf.obj
  simp only [heap_alloc_new]
  exact ⟨rfl, rfl, rfl, rfl, rfl, rfl, rfl, rfl, rfl, rfl, rfl⟩
/-- Its texts' sizes together. -/
def sumT (l : List Tg) : Nat := (l.map Tg.size).sum
def sumB (l : List ByteArray) : Nat := (l.map ByteArray.size).sum
theorem sumT_snoc {l : List Tg} {k : Nat} {t : Tg} (h : l[k]? = some t) : sumT (l.take (k + 1)) = sumT (l.take k) + t.size := by
  rw [List.take_add_one, h]
  simp [sumT]
theorem sumB_snoc {l : List ByteArray} {k : Nat} {s : ByteArray} (h : l[k]? = some s) : sumB (l.take (k + 1)) = sumB (l.take k) + s.size := by
  rw [List.take_add_one, h]
  simp [sumB]
theorem sumT_le : ∀ (k : Nat) {l : List Tg}, (∀ t ∈ l, t.fits) → sumT (l.take k) ≤ k * 844424930131968
  | 0, _, _ => by simp [sumT]
  | k + 1, l, h => by
    have ih := sumT_le k h
    cases hk : l[k]? with
    | none =>
      have hl : l.length ≤ k := List.getElem?_eq_none_iff.1 hk
      rw [List.take_of_length_le (Nat.le_succ_of_le hl)]
      rw [List.take_of_length_le hl] at ih
      exact Nat.le_trans ih (Nat.mul_le_mul_right _ (Nat.le_succ k))
    | some x =>
      have hx := h x (List.mem_of_getElem? hk)
      rw [sumT_snoc hk, Nat.succ_mul]
      unfold Tg.fits at hx
      unfold Tg.size
      omega
theorem sumB_le : ∀ (k : Nat) {l : List ByteArray}, (∀ s ∈ l, s.size ≤ 281474976710656) → sumB (l.take k) ≤ k * 281474976710656
  | 0, _, _ => by simp [sumB]
  | k + 1, l, h => by
    have ih := sumB_le k h
    cases hk : l[k]? with
    | none =>
      have hl : l.length ≤ k := List.getElem?_eq_none_iff.1 hk
      rw [List.take_of_length_le (Nat.le_succ_of_le hl)]
      rw [List.take_of_length_le hl] at ih
      exact Nat.le_trans ih (Nat.mul_le_mul_right _ (Nat.le_succ k))
    | some x =>
      have hx := h x (List.mem_of_getElem? hk)
      rw [sumB_snoc hk, Nat.succ_mul]
      omega
/-- More than is gone through. -/
def Cf.much (c : Cf) : Bool := decide (20 < c.ts.length) || (decide (20 < c.by'.length) || decide (6000 < sumT (c.ts.take 21) + sumB (c.by'.take 21)))
theorem sumT_mem {l : List Tg} {t : Tg} (h : t ∈ l) : t.size ≤ sumT l := by
  induction l with
  | nil => cases h
  | cons y l ih =>
    rcases List.mem_cons.1 h with rfl | h
    · simp [sumT]
    · have := ih h
      simp [sumT] at this ⊢
      omega
theorem sumB_mem {l : List ByteArray} {s : ByteArray} (h : s ∈ l) : s.size ≤ sumB l := by
  induction l with
  | nil => cases h
  | cons y l ih =>
    rcases List.mem_cons.1 h with rfl | h
    · simp [sumB]
    · have := ih h
      simp [sumB] at this ⊢
      omega
theorem Cf.few {c : Cf} (h : c.much = false) : c.ts.length ≤ 20 ∧ c.by'.length ≤ 20 ∧ (∀ t ∈ c.ts, t.size ≤ 6000) ∧ ∀ s ∈ c.by', s.size ≤ 6000 := by
  unfold Cf.much at h
  simp only [Bool.or_eq_false_iff, decide_eq_false_iff_not] at h
  obtain ⟨h1, h2, h3⟩ := h
  rw [List.take_of_length_le (by omega), List.take_of_length_le (by omega)] at h3
  refine ⟨by omega, by omega, fun t ht => ?_, fun s hs => ?_⟩
  · have := sumT_mem ht
    omega
  · have := sumB_mem hs
    omega
end Go.Proofs.Ytnbghappfclnjaa
