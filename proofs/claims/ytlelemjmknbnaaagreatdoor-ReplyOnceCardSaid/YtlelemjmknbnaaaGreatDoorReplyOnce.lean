/- ReplyOnce: for every most, all bytes and any two places, a reader that gets the bytes at once and one that gets them in three pieces answer the same once the connection ended, one answer or one error, and the chapter's rows hold; no condition beside the tables and the variables of Go's library that the card ties. -/
import Derived.Test.YtlelemjmknbnaaaGreatDoorReplyOnceW
import Derived.Test.YtlelemjmknbnaaaGreatDoorReplyLaid
namespace Go.Proofs.YtlelemjmknbnaaaGreatDoor.replyOnce
open Go.ChangeShapes Go.WideShapes Go.ChangeAt Go.RowKit

/-- A slice with room stands at a plain place of the heap. -/
theorem open_plain {H : Type} {enc : TypeId × Value → H} {W : World} {a : Option Addr} {len cap : Nat} {d : DataW H} {p : List MemPlace}
    (h : DataW.Trod enc Tryz.prog W 0 (fun _ => true) true 22 (.slice a len cap) d p) : ∀ ad, a = some ad → 0 < cap → ∃ b off, ad = ⟨b, off, none⟩ ∧ b < W.heap.size := by
  intro ad hA h0
  obtain ⟨fuel, hf⟩ := h
  rcases open_ints Tryz.underlying22 Tryz.underlying5 (by kernel_rfl) hf with ⟨hcs, _⟩ | ⟨x, l, c, zs, hcs, _, hl, hm, hz, _, hcell, hwz⟩
  · simp [Value.cells] at hcs
    obtain ⟨rfl, -⟩ := hcs
    cases hA
  · simp [Value.cells] at hcs
    obtain ⟨rfl, rfl, rfl⟩ := hcs
    cases hA
    have hz' : zs.length = cap := by simpa using hz
    obtain ⟨b, off, spot⟩ := ad
    have h1 := hcell 0 (by omega)
    obtain rfl : spot = none := by simpa [Addr.add] using World.cell?_spot h1
    have hb : b < W.heap.size := by
      have := World.block_lt_of_cell? _ _ h1
      simpa [Addr.add] using this
    exact ⟨b, off, rfl, hb⟩
theorem law (m at_ also : Int) (A : Option Addr) (l : List UInt8) (c : Nat) (w : World) (hm : GX w) (h1 : l.length ≤ maxLen)
    (hr : BReads w w.heap.size A l) (hc : l.length ≤ c) (hn : A = none → c = 0) (hpl : ∀ ad, A = some ad → 0 < c → ∃ b off, ad = ⟨b, off, none⟩ ∧ b < w.heap.size) (hmost : m ≤ 9223372036854775807) :
    Calls Tryz.prog 3 #[.int .i64 m, .slice A l.length c, .int .i64 at_, .int .i64 also] w (FinR w) := by
  unfold maxLen at h1
  by_cases h : (l.length : Int) > 12000 ∨ at_ < 0 ∨ at_ > (l.length : Int) ∨ also < at_ ∨ also > (l.length : Int)
  · exact once_early m at_ also A l.length c w hm (by omega) h
  · obtain ⟨a, rfl⟩ : ∃ a : Nat, at_ = (a : Int) := ⟨at_.toNat, by omega⟩
    obtain ⟨s, rfl⟩ : ∃ s : Nat, also = (s : Int) := ⟨also.toNat, by omega⟩
    exact once_main m a s A l c w hm (by omega) (by omega) (by omega) hr hc hn hpl hmost

set_option maxRecDepth 100000 in
theorem lifted (os : Os) (started : os.Started) (H : Type) (enc : TypeId × Value → H) :
    ReturnsInHanded {} Tryz.checked os 3 .any (fun w args => (Rows.replyOnceSpec.pre enc Tryz.prog Tryz.f3 [] false w args ∧ laidMetH Tryz.prog Rows.replyOnceRow.laid w) ∧ sizedMet enc Tryz.prog Tryz.f3 (OpenSpec.ofChange Rows.replyOnceSpec) false w args)
      (Rows.replyOnceSpec.post enc Tryz.prog Tryz.f3 false true false false) := by
  refine returnsInHanded_of_calls own started (by kernel_rfl)
    (ChangeSpec.witness_shaped (enc := enc) (C := Tryz.checked) (os := os) (X := fun w _ => laidMetH Tryz.prog Rows.replyOnceRow.laid w) false (World.laidAll Tryz.prog os Rows.replyOnceRow.laid) #[.int .i64 0, .slice none 0 0, .int .i64 0, .int .i64 0] 8 (World.laidAll_os _ _ _)
      (World.shaped_of_ZipB (by kernel_rfl) (by kernel_rfl)) (by kernel_rfl) (by kernel_rfl) (by kernel_rfl)
      (by rw [MakeChecks.laidMetH_plain _ _ _ (by kernel_rfl)]; exact laidMet_laidAll _ (by kernel_rfl) (by kernel_rfl))) ?_
  intro w tape i _ hsh _ hok hpre _
  obtain ⟨_, _, _, fn', hfn', _, _, _, _, hval0⟩ := hok
  obtain rfl : fn' = Tryz.f3 := Option.some.inj (hfn'.symm.trans Tryz.func3)
  obtain ⟨⟨⟨ds, gs, before, hw, hc⟩, hL0⟩, _⟩ := hpre
  have hW := DataW.Whole.of_heap (w' := w.forCall tape i) (by rfl) hw
  suffices contract : Calls Tryz.prog 3 i.args (w.forCall tape i) fun e W' => ∃ v, e = .returned v ∧ Rows.replyOnceSpec.post enc Tryz.prog Tryz.f3 false true false false (w.forCall tape i) i.args v W' from
    contract.mono fun e W' ⟨v, he, hp⟩ => by subst he; exact ChangeSpec.post_blind hp
  have hval : ∀ (j : Nat) t v, Tryz.f3.params[j]? = some t → i.args[j]? = some v → Value.okWide Tryz.prog (w.forCall tape i) .any w.heap.size t v := hval0
  have hL : laidMetH Tryz.prog Rows.replyOnceRow.laid (w.forCall tape i) := hL0.of_heap (by rfl)
  have gx : GX (w.forCall tape i) := ⟨mx_of hsh, ex_of (show laidMetH Tryz.prog Rows.replyNilRow.laid _ from hL)⟩
  generalize w.forCall tape i = W at hW gx hval ⊢
  generalize w.heap.size = base at hval
  generalize i.args = args at hW hval ⊢
  clear hsh hval0 hw hL hL0
  have hW' := hW
  obtain ⟨p, q, hA0, hV, rfl, _, _⟩ := hW
  have hA : DataW.TrodAll enc Tryz.prog W 0 (fun _ => true) true Tryz.f3.params.toList args.toList ds p := hA0
  rw [Tryz.params3] at hA hval
  obtain ⟨v0, vs0, d0, ds0, p0, q0, hargs, rfl, rfl, h0, r0⟩ := trodAll_cons hA
  obtain ⟨v1, vs1, d1, ds1, p1, q1, rfl, rfl, rfl, h1, r1⟩ := trodAll_cons r0
  obtain ⟨v2, vs2, d2, ds2, p2, q2, rfl, rfl, rfl, h2, r2⟩ := trodAll_cons r1
  obtain ⟨v3, vs3, d3, ds3, p3, q3, rfl, rfl, rfl, h3, r3⟩ := trodAll_cons r2
  obtain ⟨rfl, rfl, rfl⟩ := trodAll_nil r3
  obtain rfl : args = #[v0, v1, v2, v3] := by cases args; simp_all
  obtain ⟨rfl, rfl⟩ := trodVars_none hV
  obtain ⟨a1, len1, cap1, rfl⟩ := okWide_slice Tryz.underlying22 (hval 1 22 v1 rfl rfl)
  have k1 := h1
  have lt1 : ∀ x ∈ p1, x.block < W.heap.size := by obtain ⟨m, hm⟩ := k1; exact DataW.trod_lt m _ _ _ hm
  have hcap := cap_of h1
  have hpl := open_plain h1
  obtain ⟨l, rfl, hm, hr, hn⟩ := open_bytes h1
  obtain ⟨a0, rfl, rfl, rfl, w0⟩ := open_int Tryz.underlying3 (hval 0 3 v0 rfl rfl) h0
  obtain ⟨a2, rfl, rfl, rfl, w2⟩ := open_int Tryz.underlying3 (hval 2 3 v2 rfl rfl) h2
  obtain ⟨a3, rfl, rfl, rfl, w3⟩ := open_int Tryz.underlying3 (hval 3 3 v3 rfl rfl) h3
  clear hA0
  refine (law a0 a2 a3 a1 l cap1 W gx hm hr hcap hn hpl (by have := bounds_i64 w0; omega)).mono fun e W' ⟨he, bel⟩ => ?_
  subst he
  exact ⟨_, rfl, _, _, _, [], _, [], hW', trodAll_mk1 (shut_bool Tryz.underlying4 _), (trodAll_cons_mk (shut_int Tryz.underlying3 w0) (trodAll_cons_mk (Below.trod laidOut (by kernel_rfl) (of_decide_eq_true (by kernel_rfl)) k1 bel lt1) (trodAll_cons_mk (shut_int Tryz.underlying3 w2) (trodAll_cons_mk (shut_int Tryz.underlying3 w3) trodAll_mk0)))), rfl, bel.frame _, fun h => by cases h⟩

theorem holds : Rows.ReplyOnceSaid :=
  OpenClaim.holds_of_wide 3 Tryz.f3 rfl rfl rfl rfl rfl rfl rfl ⟨rfl, rfl, rfl, rfl, rfl⟩ rfl rfl rfl rfl rfl (by kernel_rfl) Tryz.func3 (by kernel_rfl)
    (of_decide_eq_true (by kernel_rfl)) (by unfold Func.isWrapper; first | (rw [if_pos (by decide +kernel)]; kernel_rfl) | (rw [if_neg (by decide +kernel)]; exact ⟨rfl, rfl⟩))
    (fun os started H enc _ => lifted os started H enc)

theorem card_holds : Rows.ReplyOnceCardSaid :=
  Claim7.holds_tied_plain_at .later [] _ _ _ _ holds (fun _ h => by cases h) (by kernel_rfl) (fun _ h => by cases h) replyOnce_row_tie rfl ⟨rfl, rfl⟩ (by kernel_rfl) rfl
    (fun f fn hf hfn => by
      obtain rfl : f = 3 := Option.some.inj ((show Tryz.prog.funcNamed Rows.replyOnceRow.func = some 3 by kernel_rfl).symm.trans hf) |>.symm
      obtain rfl : fn = Tryz.f3 := (Option.some.inj (Tryz.func3.symm.trans hfn)).symm
      exact ⟨by kernel_rfl, fun j t ht => by
        rw [Tryz.params3] at ht
        have h : t = 22 ∨ t = 3 := by
          match j, ht with
          | 0, ht => exact .inr (Option.some.inj ht).symm
          | 1, ht => exact .inl (Option.some.inj ht).symm
          | 2, ht => exact .inr (Option.some.inj ht).symm
          | 3, ht => exact .inr (Option.some.inj ht).symm
          | j + 4, ht => simp at ht
        rcases h with rfl | rfl
        · exact (show Tryz.prog.wantsStandIn 22 = false by kernel_rfl)
        · exact (show Tryz.prog.wantsStandIn 3 = false by kernel_rfl)⟩)
    (by kernel_rfl)
#print axioms card_holds
end Go.Proofs.YtlelemjmknbnaaaGreatDoor.replyOnce
