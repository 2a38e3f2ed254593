/- The document's Advance. -/
import Derived.Test.YtaepgcicgmbbeaaWhRef
namespace Go.Proofs.Ytaepgcicgmbbeaa
open Go.RowKit

def RAdvP (B : Nat) (w : World) (rv : Nat) (A : Option Addr) (T' : Int) (L' : List Fi) (l : List Fi) (e : Ending) (w' : World) : Prop :=
  ∃ A1 c1 A' c', e = .returned (.slice A1 l.length c1) ∧ fK.Reads w' w'.heap.size A1 l ∧ (∀ i ∈ blkA A1, i ∈ blkA A) ∧ RefW B w' rv A' c' T' L' ∧ Turns [rv] w w' ∧ ∀ i ∈ blkA A', i ∈ blkA A
theorem due_take {tu T : Int} {L : List Fi} {k : Nat} (hok : WOk T L) (h1 : ∀ x ∈ L.take k, x.2 ≤ tu) (h2 : ∀ x, L[k]? = some x → tu < x.2) : L.take k = dueL tu L ∧ L.drop k = restL tu L := by
  have hd : ∀ x ∈ L.drop k, tu < x.2 := by
    intro x hx
    obtain ⟨j, hj⟩ := List.getElem?_of_mem hx
    rw [List.getElem?_drop] at hj
    have hkl : k < L.length := by have := (List.getElem?_eq_some_iff.1 hj).1; omega
    have h3 := h2 _ (List.getElem?_eq_getElem hkl)
    rcases Nat.eq_zero_or_pos j with h0 | h0
    · subst h0
      rw [Nat.add_zero, List.getElem?_eq_getElem hkl] at hj
      cases hj
      exact h3
    · have hs := hok.srt
      unfold Srt at hs
      rw [List.pairwise_iff_getElem] at hs
      have hjl := (List.getElem?_eq_some_iff.1 hj).1
      have h4 := ltF_iff.1 (hs k (k + j) hkl hjl (by omega))
      have h5 := (List.getElem?_eq_some_iff.1 hj).2
      rw [h5] at h4
      omega
  have e := List.take_append_drop k L
  constructor
  · unfold dueL
    conv => rhs; rw [← e, List.filter_append]
    rw [List.filter_eq_self.2 fun x hx => by simpa using h1 x hx, List.filter_eq_nil_iff.2 fun x hx => by have := hd x hx; simp; omega, List.append_nil]
  · unfold restL
    conv => rhs; rw [← e, List.filter_append]
    rw [List.filter_eq_nil_iff.2 fun x hx => by have := h1 x hx; simp; omega, List.filter_eq_self.2 fun x hx => by simpa using hd x hx, List.nil_append]
section
variable {B : Nat} {w w' : World} {rv : Nat} {A : Option Addr} {c : Nat} {T : Int} {L : List Fi}
theorem RefW.set (h : RefW B w rv A c T L) (T' : Int) : RefW B (w.setCell ⟨rv, 0, none⟩ (.int .i64 T')) rv A c T' L := by
  have ht : Turns [rv] w (w.setCell ⟨rv, 0, none⟩ (.int .i64 T')) := Turns.setCell _ _ _ (List.mem_singleton.2 rfl)
  refine ⟨heap_setCell_same w rv 0 _ _ _ h.head, (h.reads.turns (Nat.le_refl _) ht fun a ha hm => ?_).more ht.size, h.low, ?_, h.cap⟩
  · rcases h.form with ⟨e, _⟩ | ⟨b, off, e, _, _, a3⟩
    · rw [e] at ha; cases ha
    · rw [e] at ha; cases ha; exact a3 (by simpa using hm)
  · rcases h.form with e | ⟨b, off, e, a1, a2, a3⟩
    · exact .inl e
    · exact .inr ⟨b, off, e, a1, Nat.lt_of_lt_of_le a2 ht.size, a3⟩
def slA (A : Option Addr) (c k : Nat) : Option Addr := match A with | some ⟨b, off, s⟩ => if c = k then some ⟨b, off, s⟩ else some ⟨b, off + k * 2, s⟩ | none => none
theorem RefW.adv_end (h : RefW B w rv A c T L) (hok : WOk T L) (tu : Int) {W : World} (hW : RefW B W rv A c tu L) (ht : Turns [rv] w W) (k : Nat) (hk : k ≤ L.length) (h1 : ∀ x ∈ L.take k, x.2 ≤ tu) (h2 : ∀ x, L[k]? = some x → tu < x.2) :
    RAdvP B w rv A tu (restL tu L) (dueL tu L) (.returned (.slice A k c)) (W.setCell ⟨rv, 1, none⟩ (.slice (slA A c k) (L.length - k) (c - k))) := by
  obtain ⟨e1, e2⟩ := due_take hok h1 h2
  have t2 : Turns [rv] W (W.setCell ⟨rv, 1, none⟩ (.slice (slA A c k) (L.length - k) (c - k))) := Turns.setCell _ _ _ (List.mem_singleton.2 rfl)
  have hl1 : (dueL tu L).length = k := by rw [← e1]; simp; omega
  have hl2 : (restL tu L).length = L.length - k := by rw [← e2]; simp
  have hcap := h.cap
  have hoff : ∀ a, A = some a → a.block ∉ [rv] := fun a ha hm => by
    rcases h.form with ⟨e, _⟩ | ⟨b, off, e, _, _, a3⟩
    · rw [e] at ha; cases ha
    · rw [e] at ha; cases ha; exact a3 (by simpa using hm)
  have hsz : W.heap.size ≤ (W.setCell ⟨rv, 1, none⟩ (.slice (slA A c k) (L.length - k) (c - k))).heap.size := t2.size
  have hR := (hW.reads.turns (Nat.le_refl _) t2 hoff).more hsz
  have hH := heap_setCell_same W rv 1 _ _ (.slice (slA A c k) (L.length - k) (c - k)) hW.head
  generalize W.setCell ⟨rv, 1, none⟩ (.slice (slA A c k) (L.length - k) (c - k)) = Y at *
  refine ⟨A, c, slA A c k, c - k, by rw [hl1], ?_, fun i hi => hi, ⟨?_, ?_, h.low, ?_, ?_⟩, ht.then t2, fun i hi => ?_⟩
  · rcases h.form with ⟨rfl, rfl⟩ | ⟨b, off, rfl, _⟩
    · exact .inl (List.eq_nil_of_length_eq_zero (by omega))
    · have := EK.Reads.part fOk (l1 := []) (l2 := L.take k) (l3 := L.drop k) (by simpa using hR)
      rw [e1] at this
      simpa using this
  · rw [hH, hl2]
    rfl
  · rcases h.form with ⟨rfl, rfl⟩ | ⟨b, off, rfl, _⟩
    · exact .inl (List.eq_nil_of_length_eq_zero (by omega))
    · by_cases hck : c = k
      · exact .inl (List.eq_nil_of_length_eq_zero (by omega))
      · have := EK.Reads.part fOk (l1 := L.take k) (l2 := L.drop k) (l3 := []) (by simpa using hR)
        rw [e2] at this
        unfold slA
        simp only [if_neg hck]
        have hlk : (L.take k).length = k := by simp; omega
        rw [hlk] at this
        exact this
  · rcases h.form with ⟨rfl, rfl⟩ | ⟨b, off, rfl, a1, a2, a3⟩
    · exact .inl ⟨rfl, by omega⟩
    · refine .inr ⟨b, if c = k then off else off + k * 2, ?_, a1, ?_, a3⟩
      · unfold slA
        by_cases hck : c = k
        · simp [hck]
        · simp [hck]
      · exact Nat.lt_of_lt_of_le a2 (Nat.le_trans ht.size hsz)
  · omega
  · rcases h.form with ⟨rfl, rfl⟩ | ⟨b, off, rfl, _⟩
    · exact hi
    · unfold slA at hi
      by_cases hck : c = k
      · simpa [blkA, hck] using hi
      · simpa [blkA, hck] using hi
set_option maxRecDepth 100000 in
set_option maxHeartbeats 4000000 in
theorem radv_any (h : RefW B w rv A c T L) (hok : WOk T L) (hL : L.length ≤ 1000) (tu : Int) :
    Calls Try.prog 24 #[.pointer (some ⟨rv, 0, none⟩), .int .i64 tu] w (RAdvP B w rv A (advL T L tu).2.1 (advL T L tu).2.2 (advL T L tu).1) := by
  obtain ⟨q0, q1, qf⟩ := h.cells
  have f0 := qf 0
  unfold advL
  by_cases h1 : tu < T
  · rw [if_pos h1]
    have HE : Hid (RAdvP B w rv A T L [] (.returned (.slice none 0 0)) w) := Lib.hid ⟨none, 0, A, c, rfl, .inl rfl, by simp [blkA], h, Turns.refl _ _, fun i hi => hi⟩
    clear h hok
    go_enter Try.func24, Try.ntmps24
    go_wp2
    go_ret
    exact HE.out
  · rw [if_neg h1]
    have e1 : decide (tu < T) = false := by simpa using h1
    obtain ⟨W, hW⟩ : ∃ W, W = w.setCell ⟨rv, 0, none⟩ (.int .i64 tu) := ⟨_, rfl⟩
    have hR : RefW B W rv A c tu L := by rw [hW]; exact h.set tu
    have ht : Turns [rv] w W := by rw [hW]; exact Turns.setCell _ _ _ (List.mem_singleton.2 rfl)
    obtain ⟨r0, r1, rf⟩ := hR.cells
    have g1 := rf 1
    have H := Lib.hid h
    have HR := Lib.hid hR
    have HT := Lib.hid ht
    have HOK := Lib.hid hok
    have HL := Lib.hid hL
    have HCAP := Lib.hid h.cap
    have hform := Lib.hid h.form
    show Calls _ _ _ _ (RAdvP B w rv A tu (restL tu L) (dueL tu L))
    clear h hR ht hok hL h1 qf rf
    go_enter Try.func24, Try.ntmps24
    go_wp2
    rw [← hW]
    clear hW q0 q1 f0 e1
    go_loopw [5] (fun i wr => ∃ k : Nat, i = .int .i64 (k : Int) ∧ k ≤ L.length ∧ Hid (∀ x ∈ L.take k, x.2 ≤ tu) ∧ W = wr) (fun i _ => L.length - (intOf i).toNat)
    case atStart => exact ⟨0, rfl, Nat.zero_le _, Lib.hid (by simp), rfl⟩
    case round =>
      obtain ⟨k, rfl, hk, HQ, rfl⟩ := hrel
      by_cases hlt : k < L.length
      · obtain ⟨x, hx⟩ : ∃ x, L[k]? = some x := ⟨_, List.getElem?_eq_getElem hlt⟩
        obtain ⟨b, off, rfl, d0, d1⟩ := HR.out.at_ hx
        have f2 : (k : Int) < (L.length : Int) := by omega
        have f3 : (0 : Int) ≤ (k : Int) := by omega
        have HX := Lib.hid hx
        have HKL := Lib.hid hlt
        have HWK := Lib.hid (wrapS (i := k) (by have := HL.out; omega))
        clear hx
        by_cases he : x.2 ≤ tu
        · have hb : decide (x.2 ≤ tu) = true := by simpa using he
          have HE := Lib.hid he
          clear he hform hlt
          go_wp2
          go_roundw
          case rel =>
            refine ⟨k + 1, congrArg (Value.int .i64) HWK.out, HKL.out, Lib.hid (fun y hy => ?_), trivial⟩
            rw [List.take_add_one, HX.out] at hy
            rcases List.mem_append.1 hy with h | h
            · exact HQ.out y h
            · simp at h
              rw [h]
              exact HE.out
          case measure => exact measS HKL.out HWK.out
        · have hb : decide (x.2 ≤ tu) = false := by simpa using he
          have HE := Lib.hid (H.out.adv_end HOK.out tu HR.out HT.out k hk HQ.out (fun y hy => by have := HX.out; rw [hy] at this; cases this; omega))
          have k1 : (k : Int) ≤ (c : Int) := by have := HCAP.out; omega
          have k2 : (L.length : Int) ≤ (c : Int) := by have := HCAP.out; omega
          have k3 : ¬ c = k := by have := HCAP.out; omega
          clear he hform hlt
          have hsl : slA (some ⟨b, off, none⟩) c k = some ⟨b, off + k * 2, none⟩ := by unfold slA; simp [k3]
          rw [hsl] at HE
          clear hsl
          go_wp2
          go_ret
          exact HE.out
      · have hge : decide ((k : Int) < (L.length : Int)) = false := by simp; omega
        have hke : k = L.length := by omega
        subst hke
        have HE := Lib.hid (H.out.adv_end HOK.out tu HR.out HT.out L.length (Nat.le_refl _) HQ.out (fun y hy => by rw [List.getElem?_eq_none (Nat.le_refl _)] at hy; cases hy))
        have k1 : (L.length : Int) ≤ (c : Int) := by have := HCAP.out; omega
        rcases hform.out with ⟨rfl, rfl⟩ | ⟨b, off, rfl, -⟩
        · have h0 : L.length = 0 := by have := HCAP.out; omega
          obtain rfl : L = [] := List.eq_nil_of_length_eq_zero h0
          have HE2 : Hid (RAdvP B w rv none tu (restL tu []) (dueL tu []) (.returned (.slice none 0 0)) (W.setCell ⟨rv, 1, none⟩ (.slice none 0 0))) := Lib.hid HE.out
          clear HE h0 hlt hk
          go_wp2
          go_ret
          exact HE2.out
        · by_cases hck : c = L.length
          · subst hck
            have hsl : slA (some ⟨b, off, none⟩) L.length L.length = some ⟨b, off, none⟩ := by unfold slA; simp
            rw [hsl, Nat.sub_self] at HE
            clear hsl
            go_wp2
            go_ret
            exact HE.out
          · have hsl : slA (some ⟨b, off, none⟩) c L.length = some ⟨b, off + L.length * 2, none⟩ := by unfold slA; simp [hck]
            rw [hsl, Nat.sub_self] at HE
            clear hsl
            go_wp2
            go_ret
            exact HE.out
end
end Go.Proofs.Ytaepgcicgmbbeaa
