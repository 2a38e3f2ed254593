/- The document's net in memory, and the place of one. -/
import Derived.Test.YtlelemjmknbnaaaRowK
import Derived.Laws.OwnMore
import Derived.Test.YtlelemjmknbnaaaNetIO
namespace Go.Proofs.Ytlelemjmknbnaaa
open Go.RowKit

structure Rc where
  id : Nat
  host : List UInt8
  st : Int
  inn : List UInt8
  at_ : Nat
  out : List UInt8
def encR (r : Rc) : List Value := [.int .i64 (r.id : Int), .string ⟨r.host.toArray⟩, .int .i64 r.st, .string ⟨r.inn.toArray⟩, .int .i64 (r.at_ : Int), .string ⟨r.out.toArray⟩]
def rcK : EK Rc := ⟨48, 67, 6, 72, .agg #[.int .i64 0, .string ⟨#[]⟩, .int .i64 0, .string ⟨#[]⟩, .int .i64 0, .string ⟨#[]⟩], encR⟩
theorem rcOk : rcK.Ok Try.prog := ⟨Try.underlying48, by kernel_rfl, rfl, by decide, by decide, fun _ => rfl, fun x u hu => by simp [rcK, encR] at hu; rcases hu with rfl | rfl | rfl | rfl | rfl | rfl <;> rfl⟩
structure RefAt (B : Nat) (w : World) (rn : Nat) (v : Value) (most : Int) (N : Nat) (rs : List Rc) : Prop where
  head : w.heap[rn]? = some (.cells #[v, .int .i64 most, .int .i64 (N : Int)] 50 (0, 0))
  own : rcK.Own B w v rs
  low : B ≤ rn
  off : rn ∉ ownB v
  ids : ∀ r ∈ rs, 1 ≤ r.id ∧ r.id ≤ N
  rise : rs.Pairwise fun x y => x.id < y.id
  ats : ∀ r ∈ rs, r.at_ ≤ r.inn.length
def getR (rs : List Rc) (k : Int) : Option Rc := rs.find? fun r => decide ((r.id : Int) = k)
namespace RefAt
variable {B : Nat} {w w' : World} {rn : Nat} {v : Value} {most : Int} {N : Nat} {rs : List Rc}
theorem cells (h : RefAt B w rn v most N rs) : w.cell? ⟨rn, 0, none⟩ = some v ∧ w.cell? ⟨rn, 1, none⟩ = some (.int .i64 most) ∧ w.cell? ⟨rn, 2, none⟩ = some (.int .i64 (N : Int)) ∧ ∀ j, w.frozen? ⟨rn, j, none⟩ = false := by
  simp [World.cell?, World.frozen?, h.head]
theorem kept {F : List Nat} (h : RefAt B w rn v most N rs) (ht : Turns F w w') (h1 : rn ∉ F) (h2 : ∀ i ∈ ownB v, i ∉ F) : RefAt B w' rn v most N rs :=
  ⟨(ht.block rn (lt_of_block h.head) h1).trans h.head, h.own.turns ht (fun g hg => h2 g (ownB_mem hg)), h.low, h.off, h.ids, h.rise, h.ats⟩
theorem form (h : RefAt B w rn v most N rs) : ∃ A c, v = .slice A rs.length c ∧ ∀ (j : Nat) (r : Rc), rs[j]? = some r → ∃ g, A = some ⟨g, 0, none⟩ ∧ ownB v = [g] ∧ B ≤ g ∧ g < w.heap.size ∧
    (w.cell? ⟨g, j * 6, none⟩ = some (.int .i64 (r.id : Int)) ∧ w.cell? ⟨g, j * 6 + 1, none⟩ = some (.string ⟨r.host.toArray⟩) ∧ w.cell? ⟨g, j * 6 + 2, none⟩ = some (.int .i64 r.st) ∧ w.cell? ⟨g, j * 6 + 3, none⟩ = some (.string ⟨r.inn.toArray⟩) ∧ w.cell? ⟨g, j * 6 + 4, none⟩ = some (.int .i64 (r.at_ : Int)) ∧ w.cell? ⟨g, j * 6 + 5, none⟩ = some (.string ⟨r.out.toArray⟩)) ∧ ∀ i, w.frozen? ⟨g, i, none⟩ = false := by
  rcases h.own.form with ⟨rfl, rfl⟩ | ⟨g, cap, rfl, hB, hg, _, _⟩
  · exact ⟨none, 0, rfl, fun j r hj => by simp at hj⟩
  · refine ⟨_, cap, rfl, fun j r hj => ⟨g, rfl, by simp [ownB, Value.ownBlock], hB, hg, ?_, fun i => World.ownsRow.frozenAt h.own i⟩⟩
    have hc : ∀ i u, (encR r)[i]? = some u → w.cell? ⟨g, j * 6 + i, none⟩ = some u := fun i u hu => by
      have := World.ownsRow.cells h.own (g := g) rfl (j * 6 + i) u (EK.flat_at rcOk hj i u hu)
      rwa [add_plain', Nat.zero_add] at this
    exact ⟨hc 0 _ rfl, hc 1 _ rfl, hc 2 _ rfl, hc 3 _ rfl, hc 4 _ rfl, hc 5 _ rfl⟩
end RefAt
set_option maxRecDepth 100000 in
set_option maxHeartbeats 2000000 in
theorem of_any {B : Nat} {w : World} {rn : Nat} {v : Value} {most : Int} {N : Nat} {rs : List Rc} (h : RefAt B w rn v most N rs) (hl : rs.length ≤ 1000) (k : Int) :
    Calls Try.prog 48 #[.pointer (some ⟨rn, 0, none⟩), .int .i64 k] w fun e w' => ((∃ (i : Nat) (r : Rc), rs[i]? = some r ∧ (r.id : Int) = k ∧ e = .returned (.int .i64 (i : Int))) ∨ ((∀ r ∈ rs, (r.id : Int) ≠ k) ∧ e = .returned (.int .i64 (-1)))) ∧ w = w' := by
  obtain ⟨c0, _, _, _⟩ := h.cells
  obtain ⟨A, c, rfl, hc⟩ := h.form
  have HC := Lib.hid hc
  clear h hc
  go_enter Try.func48, Try.ntmps48
  go_wp2
  go_loopw [5] (fun i wr => ∃ n : Nat, n ≤ rs.length ∧ i = .int .i64 n ∧ Hid (∀ (j : Nat) (r : Rc), j < n → rs[j]? = some r → (r.id : Int) ≠ k) ∧ w = wr) (fun i _ => rs.length - (intOf i).toNat)
  case atStart => exact ⟨0, Nat.zero_le _, rfl, Lib.hid (fun j y h => by omega), rfl⟩
  case round =>
    obtain ⟨n, hn, rfl, HNE, rfl⟩ := hrel
    by_cases hlt : n < rs.length
    · obtain ⟨r, hr⟩ : ∃ r, rs[n]? = some r := ⟨_, List.getElem?_eq_getElem hlt⟩
      obtain ⟨g, rfl, _, _, _, ⟨hc1, _⟩, _⟩ := HC.out n r hr
      have hlt' : (n : Int) < (rs.length : Int) := by omega
      have hn0 : (0 : Int) ≤ (n : Int) := by omega
      have HR := Lib.hid hr
      by_cases he : (r.id : Int) = k
      · have he1 : ((r.id : Int) == k) = true := by rw [he]; exact beq_self_eq_true _
        have HE := Lib.hid he
        clear he hr
        go_wp2
        go_ret
        exact ⟨.inl ⟨n, r, HR.out, HE.out, rfl⟩, rfl⟩
      · have he1 : ((r.id : Int) == k) = false := beq_eq_false_iff_ne.2 he
        have HNE1 := Lib.hid (show ∀ (j : Nat) (z : Rc), j < n + 1 → rs[j]? = some z → (z.id : Int) ≠ k from fun j z h1 h2 => by
          rcases Nat.lt_or_ge j n with h | h
          · exact HNE.out j z h h2
          · obtain rfl : j = n := by omega
            rw [hr] at h2
            cases h2
            exact he)
        clear hr he
        go_wp2
        go_roundw
        case rel => exact ⟨n + 1, by omega, by go_num, HNE1, trivial⟩
        case measure => simp [intOf] <;> omega
    · have hge : decide ((n : Int) < (rs.length : Int)) = false := by simp; omega
      have HN := Lib.hid (show ∀ r ∈ rs, (r.id : Int) ≠ k from fun r hm => by
        obtain ⟨j, hj⟩ := List.getElem?_of_mem hm
        exact HNE.out j _ (by have := (List.getElem?_eq_some_iff.1 hj).1; omega) hj)
      go_wp2
      go_ret
      exact ⟨.inr ⟨HN.out, rfl⟩, rfl⟩
end Go.Proofs.Ytlelemjmknbnaaa
