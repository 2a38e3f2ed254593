/- append of a text in a region that draws its order; a slice of the call's own that is written. -/
import Derived.Test.YtnkpdnbnheffeaaDoorChunkHex
import Derived.Test.YtnkpdnbnheffeaaDoorBodyLaid
import Derived.BigFrame
namespace Go.Proofs.YtnkpdnbnheffeaaDoor
open Go.RowKit

theorem step_append_text {w : World} {ops : Array Oper} {o : Oper} {a : Act} {K : Act → World → Prop} {Q : Exit → Act → World → Prop} {E : Prop} (hgd : o.guard = none) (s x : Operand)
    (ho : o.op = .call { callee := .builtin .append, args := #[s, x], argTypes := #[22, 9] })
    (base : Nat) (v : Value) (l1 : List UInt8) (hs : a.eval s = v) (hown : Owned base w v l1) (t : ByteArray) (hx : a.eval x = .string t)
    (hlen : l1.length + t.size ≤ 1000000) (hbase : base ≤ w.heap.size)
    (h : ∀ v' w', Owned base w' v' (l1 ++ t.data.toList) → Below base w w' → K (a.put o.dst v') w') : if Region.wanted o (yielded ops a.tmps) = true then Oper.wp Tryd.prog o a w K Q else E := by
  have hw : Region.wanted o (yielded ops a.tmps) = true := by simp [Region.wanted, hgd]
  rw [if_pos hw]
  obtain ⟨i0, hi, hz0, hz1, hz2⟩ := info_parts Tryd.infoU8
  obtain ⟨v', w', hr, h2, h3, h4⟩ := Lib.run_append_own_string (P := Tryd.prog) w base 22 9 o.type 5 i0 Tryd.underlying22 Tryd.underlying9 hi hz0 hz1 hz2 v l1.length (l1.map bcell) hown t (by unfold maxLen; omega) (by omega) hbase
  unfold Oper.wp execOp
  simp only [ho, resolve, invoke, builtin, Sem.run_bind, Sem.run_pure, Result.andThen_ok, List.map_toArray, List.map_cons, List.map_nil, hs, hx, hr]
  refine h _ _ ?_ ((Below.refl _ _).grown h3 hbase (fun k hk => hown.grows k hk))
  unfold Owned
  have e : t.data.toList.length = t.size := by rw [Array.length_toList]; rfl
  rw [map_append_len, List.map_append, e]
  exact h2
/-- append of bytes where a guard says yes. -/
theorem wpList_append_bG {w : World} {ops : Array Oper} {rest : List Oper} {o : Oper} {a : Act} {Q : Exit → Act → World → Prop} (hw : Region.wanted o (yielded ops a.tmps) = true) (s x : Operand)
    (ho : o.op = .call { callee := .builtin .append, args := #[s, x], argTypes := #[22, 22] })
    (base : Nat) (v : Value) (l1 : List UInt8) (hs : a.eval s = v) (hown : Owned base w v l1)
    (B : Nat) (A : Option Addr) (l2 : List UInt8) (n c : Nat) (hn : l2.length = n) (hx : a.eval x = .slice A n c) (hr : BReads w B A l2)
    (hlen : l1.length + l2.length ≤ 100000) (hbase : base ≤ w.heap.size)
    (h : ∀ v' w', Owned base w' v' (l1 ++ l2) → Below base w w' → wpList Tryd.prog ops Q rest (a.put o.dst v') w') : wpList Tryd.prog ops Q (o :: rest) a w :=
  BigFrame.wpList_want hw fun _ hK => EK.wp_append_all bOk s x ho base v l1 hs (own_b.2 hown) B A l2 n c hn hx (reads_b hr) hlen hbase fun v' w' h1 h2 _ => hK _ _ (h v' w' (own_b.1 h1) (h2.below (fun i hi => hown.grows i (by unfold ownB at hi; rwa [Option.mem_toList] at hi)) hbase))
theorem Owned.mut {B : Nat} {w : World} {v : Value} {l : List UInt8} (h : Owned B w v l) (h0 : 0 < l.length) : ∃ g cap, v = .slice (some ⟨g, 0, none⟩) l.length cap ∧ l.length ≤ cap ∧ Mut B w g l := by
  rcases h.2 with ⟨-, hn⟩ | ⟨g, cap, cur, rfl, hb, hg, hnc, hcm, hcs, htake⟩
  · omega
  · refine ⟨g, cap, rfl, hnc, hb, lt_of_block hg, fun j c hj => ?_⟩
    have hjl : j < l.length := (List.getElem?_eq_some_iff.1 hj).1
    have h1 : cur.toList[j]? = some (bcell c) := by
      have h2 : (cur.toList.take (l.length * 1))[j]? = some (bcell c) := by
        rw [htake, List.getElem?_map, hj]
        rfl
      rw [List.getElem?_take] at h2
      split at h2
      · exact h2
      · cases h2
    have h3 : cur[j]? = some (bcell c) := by
      rw [← h1]
      simp
    simp [World.cell?, World.frozen?, hg, h3]
theorem byte_up (c : UInt8) : IntKind.u8.wrap ((c.toNat : Int) + 1) = ((c + 1).toNat : Int) := by
  have h : ∀ n : Fin 256, IntKind.u8.wrap ((n.val : Int) + 1) = ((UInt8.ofNat n.val + 1).toNat : Int) := by decide +kernel
  have := h ⟨c.toNat, c.toNat_lt⟩
  simpa using this
def IReads (w : World) (B : Nat) (A : Option Addr) (l : List Int) : Prop :=
  l = [] ∨ ∃ b off, A = some ⟨b, off, none⟩ ∧ b < B ∧ ∀ (j : Nat) z, l[j]? = some z → w.cell? ⟨b, off + j, none⟩ = some (.int .i64 z)
theorem IReads.at {w : World} {B : Nat} {A : Option Addr} {l : List Int} (h : IReads w B A l) (hl : 0 < l.length) : ∃ b off, A = some ⟨b, off, none⟩ ∧ b < B ∧ ∀ (j : Nat) z, l[j]? = some z → w.cell? ⟨b, off + j, none⟩ = some (.int .i64 z) := by
  rcases h with rfl | h
  · simp at hl
  · exact h
theorem enc_snoc (ks : List (List UInt8)) (k : List UInt8) (n : Nat) (hn : n = k.length) : encL ks ++ hexS n ++ [13, 10] ++ k ++ [13, 10] = encL (ks ++ [k]) := by
  subst hn
  rw [encL_snoc]
  unfold enc1
  simp
theorem flat_snoc {ks : List (List UInt8)} {l : List UInt8} {t n : Nat} (h : ks.flatten = l.take t) : (ks ++ [(l.drop t).take n]).flatten = l.take (t + n) := by
  rw [List.flatten_append, h, List.flatten_cons, List.flatten_nil, List.append_nil, List.take_add]
/-- Push of a slice of the call's own, laid behind the decoder. -/
theorem push_own {B : Nat} {w : World} {p : Nat} {d : Dc} {R : List Nat} (h : Dk B w p d R) {base : Nat} {v : Value} {l : List UInt8} (ho : Owned base w v l) (hR : ∀ g ∈ R, g < base) (hb : Bnd d l.length) (hm : GX w) (hB : 1 < B) :
    Calls Tryd.prog 14 #[.pointer (some ⟨p, 0, none⟩), v] w fun e w' => e = .returned (.int .i64 ((d.push l).1 : Int)) ∧ ∃ R', Dk B w' p (d.push l).2 R' ∧ Turns R w w' ∧ ∀ g ∈ R', g ∈ R ∨ w.heap.size ≤ g := by
  obtain ⟨A, c, hv, hr, hc, -⟩ := ho.sl
  have hA : ∀ a, A = some a → a.block ∉ R := fun a e hm => by
    have h1 := hR _ hm
    have h2 := ho.grows a.block (by rw [hv, e]; rfl)
    omega
  rw [hv]
  exact push_dk h hr hc hA hb hm hB
end Go.Proofs.YtnkpdnbnheffeaaDoor
