/- The chapter's row. -/
import Derived.Test.YtlpmfckhioppaaaReqOf
import Derived.Deep.RegionWith
namespace Go.Proofs.Ytlpmfckhioppaaa
open Go.RowKit

theorem Owned.txt {B : Nat} {w w' : World} {v : Value} {h p : List UInt8} (ho : Owned B w v (textL h p)) (hb : Below w.heap.size w w') : (convert 30 9 v).run Try.prog w' = .ok (.string (textB h p)) w' := (ho.sl.below hb).text
set_option maxRecDepth 100000 in
set_option maxHeartbeats 2000000 in
theorem known_yes (w : World) : Calls Try.prog 19 #[] w fun e w' => e = .returned (.bool true) ∧ Below w.heap.size w w' := by
  have HB := Lib.hid (bytes_yes ⟨#[97, 58, 56, 48]⟩ ⟨#[47, 109, 101, 116, 114, 105, 99, 115]⟩ w (by decide) (by decide))
  have HT := fun W => Lib.hid (text_any ⟨#[97, 58, 56, 48]⟩ ⟨#[47, 109, 101, 116, 114, 105, 99, 115]⟩ W (by decide) (by decide))
  have HX : Hid (∀ (B : Nat) (W W' : World) (v : Value), Owned B W v (textL [97, 58, 56, 48] [47, 109, 101, 116, 114, 105, 99, 115]) → Below W.heap.size W W' → (convert 30 9 v).run Try.prog W' = .ok (.string (textB [97, 58, 56, 48] [47, 109, 101, 116, 114, 105, 99, 115])) W') := Lib.hid (fun B W W' v h hb => h.txt hb)
  change Hid (Calls _ _ _ _ fun e w' => (∃ v, e = .returned (.tuple #[v, .int .i64 0]) ∧ Owned w.heap.size w' v (textL [97, 58, 56, 48] [47, 109, 101, 116, 114, 105, 99, 115])) ∧ _) at HB
  change ∀ W, Hid (Calls _ _ _ _ fun e w' => e = .returned (.string (textB [97, 58, 56, 48] [47, 109, 101, 116, 114, 105, 99, 115])) ∧ _) at HT
  generalize textB [97, 58, 56, 48] [47, 109, 101, 116, 114, 105, 99, 115] = T at HT HX
  generalize textL [97, 58, 56, 48] [47, 109, 101, 116, 114, 105, 99, 115] = TL at HB HX
  go_enter Try.func19, Try.ntmps19
  go_wp2_with fail
  refine (Hid.out HB).mono ?_
  rintro e w1 ⟨⟨v, rfl, hown⟩, hb1⟩
  have HSK : Hid (∀ w', Hid (Below w1.heap.size w1 w') → ((convert 30 9 v).run Try.prog w' = .ok (.string T) w' ∧ Hid (Below w1.heap.size w1 w'))) := Lib.hid (fun w' hb => ⟨HX.out _ _ _ _ hown hb.out, hb⟩)
  have HB1 := Lib.hid hb1
  have HTT := Lib.hid HT
  clear HT HX hown hb1
  go_upto_region 2 with fail
  have hcv := fun q => (HSK.out (w1.drewN q) (Lib.hid (below_drewN w1 q))).1
  have hcv0 := (HSK.out w1 (Lib.hid (Below.refl _ _))).1
  go_quiet ((go_at_call 26; exact Calls.quiet_of_same ((HTT.out _).out.mono fun _ _ h => ⟨h.1, h.2.symm⟩)))
  go_wp2
  go_ret
  exact ⟨rfl, HB1.out.trans ((below_drewN w1 nq).mono HB1.out.size)⟩
end Go.Proofs.Ytlpmfckhioppaaa
