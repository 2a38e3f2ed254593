/- pack: readText and Text where all is well. -/
import Derived.Test.YtblphklfjafmfaaDoorReadV
namespace Go.Proofs.YtblphklfjafmfaaDoor
open Go.RowKit

set_option maxRecDepth 100000 in
set_option maxHeartbeats 800000 in
theorem readText_ok (b off cap k : Nat) (s : ByteArray) (L r : List UInt8) (w : World) (hs : s.size ≤ 400) (hm : L.length ≤ 3000) (hcap : L.length ≤ cap) (hcm : cap ≤ maxLen) (hb : b < w.heap.size) (hc : ∀ j c, L[j]? = some c → w.cell? ⟨b, off + j, none⟩ = some (bcell c))
    (hr : readG 0 0 L = .inl (s.size, k)) (hL : L.drop k = s.data.toList ++ r) (hk : k ≤ L.length) (hk0 : 0 < k) :
    Calls Tryd.prog 21 #[.slice (some ⟨b, off, none⟩) L.length cap, .int .i64 400] w fun e w' => e = .returned (.tuple #[.string s, .int .i64 (k + s.size : Nat), .nilIface]) ∧ w = w' := by
  have HR := Lib.hid (read_some b off cap L w (by unfold maxLen; omega) hc)
  rw [hr] at HR
  have hlen : L.length = k + s.size + r.length := by
    have h1 := congrArg List.length hL
    have h2 : s.data.toList.length = s.size := by rw [Array.length_toList]; rfl
    rw [List.length_drop, List.length_append, h2] at h1
    omega
  have hsz : (s.size : Int) ≤ 400 := by omega
  have hcm' : (cap : Int) ≤ 9223372036854775807 := by unfold maxLen at hcm; omega
  by_cases hck : cap = k
  · have hs0 : s.size = 0 := by omega
    have hN : L.length = k := by omega
    have he : s = ⟨#[]⟩ := by
      have h2 : s.data.toList.length = s.size := by rw [Array.length_toList]; rfl
      rw [ba_eq (T := s) (l := []) (List.eq_nil_of_length_eq_zero (by omega))]
    subst he
    have hrun : (convert 22 9 (.slice (some ⟨b, off, none⟩) 0 0)).run Tryd.prog w = .ok (.string ⟨#[]⟩) w := run_bytes_text w 9 22 Tryd.underlying22 Tryd.underlying9 0 (B := 0) (A := some ⟨b, off, none⟩) (l := []) (.inl rfl)
    have HRUN := Lib.hid hrun
    rw [hN] at HR ⊢
    subst hck
    have hlt : ((0 : Nat) : Int) < 400 := by omega
    clear hr hL hc hN hm hcm hlen hs0 hsz hs hk hcap hrun
    have hrun := HRUN.out
    go_enter Tryd.func21, Tryd.ntmps21
    go_wp2_with fail
    refine (Hid.out HR).mono ?_
    rintro e w' ⟨rfl, rfl⟩
    go_wp2_with fail
    go_ret3
    exact ⟨rfl, rfl⟩
  · have HRUN := Lib.hid (run_bytes_text w 9 22 Tryd.underlying22 Tryd.underlying9 (cap - k) (B := w.heap.size) (A := some ⟨b, off + k, none⟩) (l := s.data.toList) (.inr ⟨b, off + k, rfl, hb, fun j c hj => by
      have h1 : L[k + j]? = some c := by
        rw [← List.getElem?_drop, hL, List.getElem?_append_left (by
          rcases Nat.lt_or_ge j s.data.toList.length with h | h
          · exact h
          · rw [List.getElem?_eq_none h] at hj; cases hj)]
        exact hj
      rw [Nat.add_assoc]
      exact hc _ _ h1⟩))
    have hrun := HRUN.out
    have h2 : s.data.toList.length = s.size := by rw [Array.length_toList]; rfl
    rw [h2] at hrun
    clear h2
    rw [show (⟨s.data.toList.toArray⟩ : ByteArray) = s from rfl] at hrun
    obtain ⟨N, hN⟩ : ∃ N, N = L.length := ⟨_, rfl⟩
    rw [← hN] at HR hlen hcap hk ⊢
    have hks : (k : Int) + s.size ≤ N := by omega
    have hks2 : k + s.size ≤ N := by omega
    clear hr hL hc hN hm hcm hlen
    go_enter Tryd.func21, Tryd.ntmps21
    go_wp2_with fail
    refine (Hid.out HR).mono ?_
    rintro e w' ⟨rfl, rfl⟩
    go_wp2_with fail
    go_ret3
    exact ⟨rfl, rfl⟩

set_option maxRecDepth 100000 in
set_option maxHeartbeats 400000 in
theorem text_ok (b off cap k : Nat) (s : ByteArray) (L r : List UInt8) (w : World) (hs : s.size ≤ 400) (hm : L.length ≤ 3000) (hcap : L.length ≤ cap) (hcm : cap ≤ maxLen) (hb : b < w.heap.size) (hc : ∀ j c, L[j]? = some c → w.cell? ⟨b, off + j, none⟩ = some (bcell c))
    (hr : readG 0 0 L = .inl (s.size, k)) (hL : L.drop k = s.data.toList ++ r) (hk : k ≤ L.length) (hk0 : 0 < k) :
    Calls Tryd.prog 13 #[.slice (some ⟨b, off, none⟩) L.length cap, .int .i64 400] w fun e w' => e = .returned (.tuple #[.string s, .int .i64 (k + s.size : Nat), .int .i64 0]) ∧ w = w' := by
  have HR := Lib.hid (readText_ok b off cap k s L r w hs hm hcap hcm hb hc hr hL hk hk0)
  have HE := Lib.hid (errno_nil w)
  clear hr hm hc hL hcap hcm
  go_enter Tryd.func13, Tryd.ntmps13
  go_wp2_with fail
  refine (Hid.out HR).mono ?_
  rintro e w' ⟨rfl, rfl⟩
  go_wp2_with fail
  refine (Hid.out HE).mono ?_
  rintro e w' ⟨rfl, rfl⟩
  go_wp2
  go_ret3
  exact ⟨rfl, rfl⟩
end Go.Proofs.YtblphklfjafmfaaDoor
