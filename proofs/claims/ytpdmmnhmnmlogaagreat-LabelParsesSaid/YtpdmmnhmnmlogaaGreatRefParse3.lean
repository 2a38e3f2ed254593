/- The document's Parse: the walk. -/
import Derived.Test.YtpdmmnhmnmlogaaGreatRefParseP
import Derived.Test.YtpdmmnhmnmlogaaGreatAppendS
import Derived.Test.YtpdmmnhmnmlogaaGreatLabParse
namespace Go.Proofs.YtpdmmnhmnmlogaaGreat
open Go.RowKit

theorem drop_at {s : ByteArray} {p : Nat} {c : UInt8} (h : s.data.toList[p]? = some c) : s.data.toList.drop p = c :: s.data.toList.drop (p + 1) := by
  obtain ⟨hj, he⟩ := List.getElem?_eq_some_iff.1 h
  rw [List.drop_eq_getElem_cons hj, he]
theorem upTo_at {l : List UInt8} {p : Nat} {c : UInt8} (h : ∀ (j : Nat) (d : UInt8), j < p → l[j]? = some d → d ≠ c) (hp : p ≤ l.length) (he : l[p]? = none ∨ l[p]? = some c) : l.takeWhile (· != c) = l.take p ∧ l.dropWhile (· != c) = l.drop p := by
  have hn : c ∉ l.take p := fun hm => by
    obtain ⟨j, hj⟩ := List.getElem?_of_mem hm
    rw [List.getElem?_take] at hj
    split at hj
    · rename_i hlt
      exact h j _ hlt hj rfl
    · cases hj
  rcases he with he | he
  · have hl : l.length ≤ p := List.getElem?_eq_none_iff.1 he
    rw [List.take_of_length_le hl] at hn
    rw [List.take_of_length_le hl, List.drop_eq_nil_of_le hl]
    exact upTo_none hn
  · obtain ⟨hj, hc⟩ := List.getElem?_eq_some_iff.1 he
    have e : l = l.take p ++ c :: l.drop (p + 1) := by
      conv => lhs; rw [← List.take_append_drop p l, List.drop_eq_getElem_cons hj, hc]
    have h1 := upTo_behind (r := l.drop (p + 1)) hn
    rw [← e] at h1
    refine ⟨h1.1, h1.2.trans ?_⟩
    rw [List.drop_eq_getElem_cons hj, hc]
theorem upTo_from {l : List UInt8} {a p : Nat} {c : UInt8} (h : ∀ (j : Nat) (d : UInt8), a ≤ j → j < p → l[j]? = some d → d ≠ c) (ha : a ≤ p) (hp : p ≤ l.length) (he : l[p]? = none ∨ l[p]? = some c) :
    (l.drop a).takeWhile (· != c) = (l.drop a).take (p - a) ∧ (l.drop a).dropWhile (· != c) = l.drop p := by
  have h1 := upTo_at (l := l.drop a) (p := p - a) (c := c) (fun j d hj hd => by
    rw [List.getElem?_drop] at hd
    exact h (a + j) d (by omega) (by omega) hd) (by rw [List.length_drop]; omega) (by rw [List.getElem?_drop, show a + (p - a) = p by omega]; exact he)
  rw [List.drop_drop, show a + (p - a) = p by omega] at h1
  exact h1
def onR (M s : List UInt8) (R : Option (List Lbl)) : Option (List UInt8 × List Lbl) :=
  match R with
  | none => none
  | some l => if nameP M l = some s then some (M, l) else none
theorem refC_at {s : List UInt8} {P : Nat} (h : s.takeWhile (· != 123) = s.take P ∧ s.dropWhile (· != 123) = s.drop P) : refC s = onR (s.take P) s (rP 18 [] (s.drop P)) := by
  unfold refC onR
  rw [h.1, h.2]
  cases rP 18 [] (s.drop P) <;> rfl
theorem rP_stop {k : Nat} {acc : List Lbl} {c : UInt8} {r : List UInt8} (h : ∀ d q, r.dropWhile (· != 61) ≠ d :: 34 :: q) : rP (k + 1) acc (c :: r) = none := by
  rw [rP]
  split
  · rename_i d q hd
    exact absurd hd (h _ _)
  · rfl
def rQ (k : Nat) (acc : List Lbl) (nm q : List UInt8) : Option (List Lbl) :=
  if 16 < acc.length then none else
  match qix q with
  | none => none
  | some e => match unescP (q.take e) with
    | none => none
    | some v => if q.drop (e + 1) = [125] then some (acc ++ [(nm, v)]) else if (q.drop (e + 1)).head? = some 44 then rP k (acc ++ [(nm, v)]) (q.drop (e + 1)) else none
theorem rP_go {k : Nat} {acc : List Lbl} {c d : UInt8} {r q : List UInt8} (h : r.dropWhile (· != 61) = d :: 34 :: q) : rP (k + 1) acc (c :: r) = rQ k acc (r.takeWhile (· != 61)) q := by
  rw [rP, h]
  rfl
theorem rQ_many {k : Nat} {acc : List Lbl} {nm q : List UInt8} (h : 16 < acc.length) : rQ k acc nm q = none := if_pos h
theorem rQ_end {k : Nat} {acc : List Lbl} {nm q : List UInt8} (h : qix q = none) : rQ k acc nm q = none := by
  unfold rQ
  split
  · rfl
  · rw [h]
theorem rQ_bad {k e : Nat} {acc : List Lbl} {nm q : List UInt8} (h : qix q = some e) (hu : unescP (q.take e) = none) : rQ k acc nm q = none := by
  unfold rQ
  split
  · rfl
  · simp [h, hu]
theorem rQ_on {k e : Nat} {acc : List Lbl} {nm q v : List UInt8} (hl : ¬ 16 < acc.length) (h : qix q = some e) (hu : unescP (q.take e) = some v) :
    rQ k acc nm q = if q.drop (e + 1) = [125] then some (acc ++ [(nm, v)]) else if (q.drop (e + 1)).head? = some 44 then rP k (acc ++ [(nm, v)]) (q.drop (e + 1)) else none := by
  unfold rQ
  rw [if_neg hl]
  simp [h, hu]
theorem qix_lt : ∀ (n : Nat) {q : List UInt8} {e : Nat}, q.length ≤ n → qix q = some e → e < q.length
  | _, [], _, _, h => by cases h
  | _, [c], e, _, h => by
    unfold qix at h
    split at h
    · cases h; simp
    · cases h
  | 0, _ :: _ :: _, _, hn, _ => by simp at hn
  | n + 1, c :: d :: r, e, hn, h => by
    simp only [List.length_cons] at hn ⊢
    unfold qix at h
    split at h
    · rw [Option.map_eq_some_iff] at h
      obtain ⟨k, hk, rfl⟩ := h
      have := qix_lt n (by omega) hk
      omega
    · split at h
      · cases h; omega
      · rw [Option.map_eq_some_iff] at h
        obtain ⟨k, hk, rfl⟩ := h
        have := qix_lt n (q := d :: r) (by simp; omega) hk
        simp at this
        omega
theorem unescP_len {s v : List UInt8} (h : unescP s = some v) : v.length ≤ s.length := by
  rw [unescP_sound h]
  induction v with
  | nil => exact Nat.le_refl _
  | cons c v ih =>
    rw [escL_cons, List.length_append, List.length_cons]
    have h1 : 1 ≤ (esc1 c).length := by unfold esc1; split; decide; split <;> simp
    have h2 : v.length ≤ (escL v).length := by
      clear ih h h1
      induction v with
      | nil => exact Nat.le_refl _
      | cons c v ih =>
        rw [escL_cons, List.length_append, List.length_cons]
        have : 1 ≤ (esc1 c).length := by unfold esc1; split; decide; split <;> simp
        omega
    omega
set_option maxRecDepth 100000 in
set_option maxHeartbeats 4000000 in
theorem rparse_brace (s : ByteArray) (P : Nat) (w : World) (hs : s.size ≤ 3000) (hP : P < s.size) (hPc : s.data.toList[P]? = some 123) (hN : ∀ (j : Nat) (d : UInt8), j < P → s.data.toList[j]? = some d → d ≠ 123) :
    Calls Tryz.prog 7 #[.string s] w (PsPost (refC s.data.toList) w) := by
  have hr := refC_at (upTo_at hN (by rw [← Lib.size_eq]; omega) (.inr hPc))
  obtain ⟨D, hD⟩ : ∃ D, D = refC s.data.toList := ⟨_, rfl⟩
  obtain ⟨R, hR⟩ : ∃ R, R = rP 18 [] (s.data.toList.drop P) := ⟨_, rfl⟩
  rw [← hD, ← hR] at hr
  rw [← hD]
  have HD := Lib.hid hr
  have HR0 := Lib.hid hR
  have HN := Lib.hid hN
  have HPC := Lib.hid hPc
  clear hr hR hD hN hPc
  go_enter Tryz.func7, Tryz.ntmps7
  go_wp2
  go_loopw [5] (fun i wr => ∃ p : Nat, p ≤ P ∧ i = .int .i64 p ∧ w = wr) (fun i _ => P - (intOf i).toNat)
  case atStart => exact ⟨0, Nat.zero_le _, rfl, rfl⟩
  case round =>
    obtain ⟨p, hp, rfl, rfl⟩ := hrel
    have hp0 : (0 : Int) ≤ (p : Int) := by omega
    have hlt' : (p : Int) < (s.size : Int) := by omega
    obtain ⟨c, hc, hcl⟩ := data_at s p (by omega)
    by_cases hlt : p < P
    · have n123 : ((c.toNat : Int) == 123) = false := byte_ne (HN.out p c hlt hcl)
      clear hcl
      go_wp2
      go_roundw
      case rel => exact ⟨p + 1, by omega, by go_num, trivial⟩
      case measure => simp [intOf] <;> omega
    · obtain rfl : P = p := by omega
      obtain rfl : c = 123 := by
        have := HPC.out
        rw [hcl] at this
        cases this
        rfl
      clear hcl hlt
      go_wp2
      go_loopw [5, 7] (fun atv lv wr => ∃ (q : Nat) (acc : List Lbl) (lv' : Value), lv' = lv ∧ atv = .int .i64 q ∧ q < s.size ∧ acc.length ≤ 17 ∧ lenV lv = acc.length ∧ Hid (R = rP (18 - acc.length) acc (s.data.toList.drop q)) ∧ Hid (smallL acc) ∧ Hid (OwnedL w.heap.size wr lv acc) ∧ Hid (Below w.heap.size w wr) ∧ w.heap.size ≤ wr.heap.size) (fun i _ _ => s.size - (intOf i).toNat)
      case atStart => exact ⟨P, [], _, rfl, rfl, hP, by simp, rfl, HR0, Lib.hid (fun x hx => by cases hx), Lib.hid (World.ownsRow_nil _ _ _ _), Lib.hid (Below.refl _ _), Nat.le_refl _⟩
      case round =>
        obtain ⟨q, acc, lv', rfl, rfl, hq, hac, hlv, HR, HSM, HO, HB, hBr⟩ := hrel
        obtain ⟨A, cap, rfl, _⟩ := HO.out.reads
        clear hlv
        obtain ⟨c0, _, hc0⟩ := data_at s q hq
        have HR1 := Lib.hid (show R = rP (17 - acc.length + 1) acc (c0 :: s.data.toList.drop (q + 1)) by
          rw [HR.out, drop_at hc0, show 18 - acc.length = 17 - acc.length + 1 by omega])
        have hq1 : (q : Int) < (s.size : Int) := by omega
        clear hc0 HR
        go_wp2
        go_loopw [5] (fun i wx => ∃ p : Nat, q + 1 ≤ p ∧ p ≤ s.size ∧ i = .int .i64 p ∧ Hid (∀ (j : Nat) (d : UInt8), q + 1 ≤ j → j < p → s.data.toList[j]? = some d → d ≠ 61) ∧ wr = wx) (fun i _ => s.size - (intOf i).toNat)
        case atStart => exact ⟨q + 1, Nat.le_refl _, by omega, by go_num, Lib.hid (fun j d h1 h2 => by omega), rfl⟩
        case round =>
          obtain ⟨p, hqp, hp, rfl, HNE, rfl⟩ := hrel
          have hp0 : (0 : Int) ≤ (p : Int) := by omega
          by_cases hlt : p < s.size
          · obtain ⟨c, hc, hcl⟩ := data_at s p hlt
            have hlt' : (p : Int) < (s.size : Int) := by omega
            by_cases h61 : c = 61
            · subst h61
              have HU := Lib.hid (upTo_from HNE.out hqp (by rw [← Lib.size_eq]; omega) (.inr hcl))
              by_cases hl2 : p + 1 < s.size
              · obtain ⟨d, hd, hdl⟩ := data_at s (p + 1) hl2
                have hl2' : decide ((s.size : Int) ≤ (p : Int) + 1) = false := by simp; omega
                by_cases h34 : d = 34
                · subst h34
                  have HQ := Lib.hid (show R = rQ (17 - acc.length) acc ((s.data.toList.drop (q + 1)).take (p - (q + 1))) (s.data.toList.drop (p + 2)) by
                    rw [HR1.out, rP_go (HU.out.2.trans (by rw [drop_at hcl, drop_at hdl])), HU.out.1])
                  clear hcl hdl
                  by_cases hmany : 16 < acc.length
                  · have hmany' : decide (16 < (acc.length : Int)) = true := by simp; omega
                    have HE := Lib.hid (show D = none by rw [HD.out, HQ.out, rQ_many hmany]; rfl)
                    go_wp2
                    go_ret3
                    exact ⟨.inr ⟨HE.out, rfl⟩, HB.out⟩
                  · have hmany' : decide (16 < (acc.length : Int)) = false := by simp; omega
                    have HQA := Lib.hid (quoted_any (s.extract (p + 1) s.size) wr (by rw [ByteArray.size_extract]; omega))
                    rw [Lib.extract_to_end, List.drop_drop] at HQA
                    cases hqx : qix (s.data.toList.drop (p + 2)) with
                    | none =>
                      have HE := Lib.hid (show D = none by rw [HD.out, HQ.out, rQ_end hqx]; rfl)
                      rw [show qixI (s.data.toList.drop (p + 1 + 1)) 1 = -1 by unfold qixI; rw [show p + 1 + 1 = p + 2 from rfl, hqx]] at HQA
                      clear hqx
                      go_wp2_with fail
                      refine (Hid.out HQA).mono ?_
                      rintro e w1 ⟨rfl, rfl⟩
                      go_wp2
                      go_ret3
                      exact ⟨.inr ⟨HE.out, rfl⟩, HB.out⟩
                    | some e =>
                      have hel := qix_lt _ (Nat.le_refl _) hqx
                      rw [List.length_drop, ← Lib.size_eq] at hel
                      rw [show qixI (s.data.toList.drop (p + 1 + 1)) 1 = (e : Int) + 1 by unfold qixI; rw [show p + 1 + 1 = p + 2 from rfl, hqx]; simp; omega] at HQA
                      have HX := Lib.hid hqx
                      have he0 : (0 : Int) ≤ (e : Int) := by omega
                      have he1 : (e : Int) + (p : Int) + 2 < (s.size : Int) := by omega
                      clear hqx
                      go_wp2_with fail
                      refine (Hid.out HQA).mono ?_
                      rintro e' w1 ⟨rfl, rfl⟩
                      have HUA := Lib.hid (runescape_any (s.extract (p + 2) (p + 1 + (e + 1))) wr (by rw [ByteArray.size_extract]; omega))
                      rw [Lib.extract_data, show p + 1 + (e + 1) - (p + 2) = e by omega] at HUA
                      cases hu : unescP ((s.data.toList.drop (p + 2)).take e) with
                      | none =>
                        rw [hu] at HUA
                        have HE := Lib.hid (show D = none by rw [HD.out, HQ.out, rQ_bad HX.out hu]; rfl)
                        clear hu
                        go_wp2_with fail
                        refine (Hid.out HUA).mono ?_
                        rintro e' w1 ⟨rfl, hb1⟩
                        have HB1 := Lib.hid (HB.out.trans (hb1.mono hBr))
                        clear hb1
                        go_wp2
                        go_ret3
                        exact ⟨.inr ⟨HE.out, rfl⟩, HB1.out⟩
                      | some v =>
                        rw [hu] at HUA
                        have hvl := unescP_len hu
                        rw [List.length_take, List.length_drop, ← Lib.size_eq] at hvl
                        obtain ⟨x, hx⟩ : ∃ x : Lbl, x = ((s.data.toList.drop (q + 1)).take (p - (q + 1)), v) := ⟨_, rfl⟩
                        have HX1 := Lib.hid (show s.extract (q + 1) p = ⟨x.1.toArray⟩ by rw [hx, Lib.extract_eq])
                        have HX2 := Lib.hid (show (⟨v.toArray⟩ : ByteArray) = ⟨x.2.toArray⟩ by rw [hx])
                        have HSM1 := Lib.hid (show smallL (acc ++ [x]) from fun y hy => by
                          rcases List.mem_append.1 hy with h | h
                          · exact HSM.out y h
                          · rw [List.mem_singleton] at h
                            rw [h, hx]
                            simp only [List.length_take, List.length_drop, ← Lib.size_eq]
                            omega)
                        have HON := Lib.hid (rQ_on (k := 17 - acc.length) (nm := (s.data.toList.drop (q + 1)).take (p - (q + 1))) hmany HX.out hu)
                        rw [← HQ.out, ← hx, List.drop_drop, show p + 2 + (e + 1) = p + e + 3 by omega] at HON
                        have HLEN := Lib.hid (show acc.length + [x].length ≤ 100000 by simp; omega)
                        clear hu hvl hx
                        go_wp2_with fail
                        refine (Hid.out HUA).mono ?_
                        rintro e' w1 ⟨rfl, hb1⟩
                        have HB1 := Lib.hid (HB.out.trans (hb1.mono hBr))
                        have hB1 : w.heap.size ≤ w1.heap.size := HB1.out.size
                        have HO1 := Lib.hid (HO.out.below hb1)
                        clear hb1
                        have ha0 : (0 : Int) ≤ (p : Int) + 1 + ((e : Int) + 1) + 1 := by omega
                        by_cases hat : p + e + 3 < s.size
                        · have ha1 : (p : Int) + 1 + ((e : Int) + 1) + 1 < (s.size : Int) := by omega
                          have ha2 : decide ((s.size : Int) ≤ (p : Int) + 1 + ((e : Int) + 1) + 1) = false := by simp; omega
                          obtain ⟨c, hcc, hcl⟩ := data_at s (p + 1 + (e + 1) + 1) (by omega)
                          rw [show p + 1 + (e + 1) + 1 = p + e + 3 by omega] at hcl
                          by_cases hla : p + e + 3 + 1 = s.size
                          · have ha3 : ((p : Int) + 1 + ((e : Int) + 1) + 1 == (s.size : Int) - 1) = true := by simp; omega
                            by_cases h125 : c = 125
                            · subst h125
                              have HRL := Lib.hid (show R = some (acc ++ [x]) by rw [HON.out, if_pos (by rw [drop_at hcl, List.drop_eq_nil_of_le (by rw [← Lib.size_eq]; omega)])])
                              clear hcl
                              go_wp2_with (at_builtin; refine wpList_append_lblsA rfl (.tmp 86) (.tmp 93) rfl w.heap.size _ acc rfl (HO1.out.alloc _) (w1.heap.size + 1) (some ⟨w1.heap.size, 0, none⟩) [x] 1 rfl (LReads.lone' x _ HX1.out HX2.out rfl) HLEN.out (le_alloc hB1 _) ?_; intro v2 w2 hown2 hb2; have HO2 := Lib.hid hown2; have HB2 := Lib.hid (HB1.out.trans ((below_alloc hB1 _).trans hb2)); have hBr2 : w.heap.size ≤ w2.heap.size := HB2.out.size; clear hown2 hb2)
                              have HLL := Lib.hid (show (acc ++ [x]).length ≤ 17 by simp; omega)
                              obtain ⟨L, hL⟩ : ∃ L, L = acc ++ [x] := ⟨_, rfl⟩
                              rw [← hL] at HO2 HSM1 HRL HLL
                              clear hL HON
                              obtain ⟨A2, cap2, rfl, hrd2, _, _⟩ := HO2.out.reads
                              have HNA := Lib.hid (rname_any A2 cap2 (s.extract 0 P) L w2 (by rw [ByteArray.size_extract]; omega) (by have := HLL.out; omega) HSM1.out hrd2)
                              have HM := Lib.hid (show s.extract 0 P = ⟨(s.data.toList.take P).toArray⟩ by rw [Lib.extract_eq]; simp)
                              rw [HM.out] at HNA
                              clear hrd2
                              cases hn : nameP (s.data.toList.take P) L with
                              | none =>
                                rw [show (⟨(s.data.toList.take P).toArray⟩ : ByteArray).data.toList = s.data.toList.take P from rfl, hn] at HNA
                                have HE := Lib.hid (show D = none by rw [HD.out, HRL.out]; unfold onR; simp [hn])
                                change Hid (Calls _ _ _ w2 fun e' w' => e' = .returned (.tuple #[.string ⟨#[]⟩, .int .i64 5]) ∧ Below w2.heap.size w2 w') at HNA
                                rw [← HM.out] at HNA
                                clear hn
                                refine (Hid.out HNA).mono ?_
                                rintro e' w3 ⟨rfl, hb3⟩
                                have HB3 := Lib.hid (HB2.out.trans (hb3.mono hBr2))
                                clear hb3
                                go_wp2
                                go_ret3
                                exact ⟨.inr ⟨HE.out, rfl⟩, HB3.out⟩
                              | some t =>
                                rw [show (⟨(s.data.toList.take P).toArray⟩ : ByteArray).data.toList = s.data.toList.take P from rfl, hn] at HNA
                                change Hid (Calls _ _ _ w2 fun e' w' => e' = .returned (.tuple #[.string ⟨t.toArray⟩, .int .i64 0]) ∧ Below w2.heap.size w2 w') at HNA
                                rw [← HM.out] at HNA
                                by_cases ht : t = s.data.toList
                                · have HE := Lib.hid (show D = some (s.data.toList.take P, L) by rw [HD.out, HRL.out]; unfold onR; simp [hn, ht])
                                  rw [show (⟨t.toArray⟩ : ByteArray) = s from ba_eq ht] at HNA
                                  clear hn ht
                                  refine (Hid.out HNA).mono ?_
                                  rintro e' w3 ⟨rfl, hb3⟩
                                  have HB3 := Lib.hid (HB2.out.trans (hb3.mono hBr2))
                                  have HO3 := Lib.hid (HO2.out.below hb3)
                                  clear hb3
                                  go_wp2
                                  go_ret3
                                  exact ⟨.inl ⟨_, _, _, HE.out, by rw [HM.out]; rfl, HO3.out⟩, HB3.out⟩
                                · have HE := Lib.hid (show D = none by rw [HD.out, HRL.out]; unfold onR; simp [hn, ht])
                                  have ht1 : ((⟨t.toArray⟩ : ByteArray).toList == s.toList) = false := by
                                    rw [toList_eq, Lib.toList_data]
                                    simpa using ht
                                  generalize (⟨t.toArray⟩ : ByteArray) = T at HNA ht1
                                  have ht2 : (T.toList != s.toList) = true := by rw [bne, ht1]; rfl
                                  clear hn ht
                                  refine (Hid.out HNA).mono ?_
                                  rintro e' w3 ⟨rfl, hb3⟩
                                  have HB3 := Lib.hid (HB2.out.trans (hb3.mono hBr2))
                                  clear hb3
                                  go_wp2
                                  go_ret3
                                  exact ⟨.inr ⟨HE.out, rfl⟩, HB3.out⟩
                            · have n125 : ((c.toNat : Int) == 125) = false := byte_ne h125
                              by_cases h44 : c = 44
                              · subst h44
                                have HRN := Lib.hid (show R = rP (18 - (acc ++ [x]).length) (acc ++ [x]) (s.data.toList.drop (p + e + 3)) by
                                  rw [HON.out, if_neg (by rw [drop_at hcl]; simp), if_pos (by rw [drop_at hcl]; rfl), show 18 - (acc ++ [x]).length = 17 - acc.length by simp <;> omega])
                                clear hcl h125
                                go_wp2_with (at_builtin; refine wpList_append_lblsA rfl (.tmp 86) (.tmp 93) rfl w.heap.size _ acc rfl (HO1.out.alloc _) (w1.heap.size + 1) (some ⟨w1.heap.size, 0, none⟩) [x] 1 rfl (LReads.lone' x _ HX1.out HX2.out rfl) HLEN.out (le_alloc hB1 _) ?_; intro v2 w2 hown2 hb2; have HO2 := Lib.hid hown2; have HB2 := Lib.hid (HB1.out.trans ((below_alloc hB1 _).trans hb2)); have hBr2 : w.heap.size ≤ w2.heap.size := HB2.out.size; clear hown2 hb2)
                                obtain ⟨A', cap', rfl, _⟩ := HO2.out.reads
                                go_roundw
                                case rel => exact ⟨p + e + 3, acc ++ [x], _, rfl, by go_num, hat, by simp <;> omega, by simp [lenV], HRN, HSM1, HO2, HB2, hBr2⟩
                                case measure => simp [intOf] <;> omega
                              · have n44 : ((c.toNat : Int) == 44) = false := byte_ne h44
                                have n44' : ((c.toNat : Int) != 44) = true := by rw [bne, n44]; rfl
                                have HE := Lib.hid (show D = none by rw [HD.out, HON.out, if_neg (by rw [drop_at hcl]; simp [h125]), if_neg (by rw [drop_at hcl]; simp [h44])]; rfl)
                                clear hcl h125 h44
                                go_wp2_with (at_builtin; refine wpList_append_lblsA rfl (.tmp 86) (.tmp 93) rfl w.heap.size _ acc rfl (HO1.out.alloc _) (w1.heap.size + 1) (some ⟨w1.heap.size, 0, none⟩) [x] 1 rfl (LReads.lone' x _ HX1.out HX2.out rfl) HLEN.out (le_alloc hB1 _) ?_; intro v2 w2 hown2 hb2; have HO2 := Lib.hid hown2; have HB2 := Lib.hid (HB1.out.trans ((below_alloc hB1 _).trans hb2)); have hBr2 : w.heap.size ≤ w2.heap.size := HB2.out.size; clear hown2 hb2)
                                go_ret3
                                exact ⟨.inr ⟨HE.out, rfl⟩, HB2.out⟩
                          · have ha3 : ((p : Int) + 1 + ((e : Int) + 1) + 1 == (s.size : Int) - 1) = false := by simp; omega
                            have hmo := Lib.hid (show s.data.toList.drop (p + e + 3) ≠ [125] from fun h => by
                              have := congrArg List.length h
                              rw [List.length_drop, ← Lib.size_eq] at this
                              simp at this
                              omega)
                            by_cases h44 : c = 44
                            · subst h44
                              have HRN := Lib.hid (show R = rP (18 - (acc ++ [x]).length) (acc ++ [x]) (s.data.toList.drop (p + e + 3)) by
                                rw [HON.out, if_neg hmo.out, if_pos (by rw [drop_at hcl]; rfl), show 18 - (acc ++ [x]).length = 17 - acc.length by simp <;> omega])
                              clear hcl
                              go_wp2_with (at_builtin; refine wpList_append_lblsA rfl (.tmp 86) (.tmp 93) rfl w.heap.size _ acc rfl (HO1.out.alloc _) (w1.heap.size + 1) (some ⟨w1.heap.size, 0, none⟩) [x] 1 rfl (LReads.lone' x _ HX1.out HX2.out rfl) HLEN.out (le_alloc hB1 _) ?_; intro v2 w2 hown2 hb2; have HO2 := Lib.hid hown2; have HB2 := Lib.hid (HB1.out.trans ((below_alloc hB1 _).trans hb2)); have hBr2 : w.heap.size ≤ w2.heap.size := HB2.out.size; clear hown2 hb2)
                              obtain ⟨A', cap', rfl, _⟩ := HO2.out.reads
                              go_roundw
                              case rel => exact ⟨p + e + 3, acc ++ [x], _, rfl, by go_num, hat, by simp <;> omega, by simp [lenV], HRN, HSM1, HO2, HB2, hBr2⟩
                              case measure => simp [intOf] <;> omega
                            · have n44 : ((c.toNat : Int) == 44) = false := byte_ne h44
                              have n44' : ((c.toNat : Int) != 44) = true := by rw [bne, n44]; rfl
                              have HE := Lib.hid (show D = none by rw [HD.out, HON.out, if_neg hmo.out, if_neg (by rw [drop_at hcl]; simp [h44])]; rfl)
                              clear hcl h44
                              go_wp2_with (at_builtin; refine wpList_append_lblsA rfl (.tmp 86) (.tmp 93) rfl w.heap.size _ acc rfl (HO1.out.alloc _) (w1.heap.size + 1) (some ⟨w1.heap.size, 0, none⟩) [x] 1 rfl (LReads.lone' x _ HX1.out HX2.out rfl) HLEN.out (le_alloc hB1 _) ?_; intro v2 w2 hown2 hb2; have HO2 := Lib.hid hown2; have HB2 := Lib.hid (HB1.out.trans ((below_alloc hB1 _).trans hb2)); have hBr2 : w.heap.size ≤ w2.heap.size := HB2.out.size; clear hown2 hb2)
                              go_ret3
                              exact ⟨.inr ⟨HE.out, rfl⟩, HB2.out⟩
                        · have ha2 : decide ((s.size : Int) ≤ (p : Int) + 1 + ((e : Int) + 1) + 1) = true := by simp; omega
                          have ha3 : ((p : Int) + 1 + ((e : Int) + 1) + 1 == (s.size : Int) - 1) = false := by simp; omega
                          have hnil : s.data.toList.drop (p + e + 3) = [] := List.drop_eq_nil_of_le (by rw [← Lib.size_eq]; omega)
                          have HE := Lib.hid (show D = none by rw [HD.out, HON.out, if_neg (by rw [hnil]; simp), if_neg (by rw [hnil]; simp)]; rfl)
                          clear hnil
                          go_wp2_with (at_builtin; refine wpList_append_lblsA rfl (.tmp 86) (.tmp 93) rfl w.heap.size _ acc rfl (HO1.out.alloc _) (w1.heap.size + 1) (some ⟨w1.heap.size, 0, none⟩) [x] 1 rfl (LReads.lone' x _ HX1.out HX2.out rfl) HLEN.out (le_alloc hB1 _) ?_; intro v2 w2 hown2 hb2; have HO2 := Lib.hid hown2; have HB2 := Lib.hid (HB1.out.trans ((below_alloc hB1 _).trans hb2)); have hBr2 : w.heap.size ≤ w2.heap.size := HB2.out.size; clear hown2 hb2)
                          go_ret3
                          exact ⟨.inr ⟨HE.out, rfl⟩, HB2.out⟩
                · have n34 : ((d.toNat : Int) == 34) = false := byte_ne h34
                  have n34' : ((d.toNat : Int) != 34) = true := by rw [bne, n34]; rfl
                  have HE := Lib.hid (show D = none by
                    rw [HD.out, HR1.out, rP_stop (fun d' q' he => by
                      rw [HU.out.2, drop_at hcl, drop_at hdl] at he
                      simp at he
                      exact h34 he.2.1)]
                    rfl)
                  clear hcl hdl h34
                  go_wp2
                  go_ret3
                  exact ⟨.inr ⟨HE.out, rfl⟩, HB.out⟩
              · have hl2' : (s.size : Int) ≤ (p : Int) + 1 := by omega
                have HE := Lib.hid (show D = none by
                  rw [HD.out, HR1.out, rP_stop (fun d' q' he => by
                    rw [HU.out.2, drop_at hcl, List.drop_eq_nil_of_le (by rw [← Lib.size_eq]; omega)] at he
                    simp at he)]
                  rfl)
                clear hcl
                go_wp2
                go_ret3
                exact ⟨.inr ⟨HE.out, rfl⟩, HB.out⟩
            · have n61 : ((c.toNat : Int) == 61) = false := byte_ne h61
              have HNE1 := Lib.hid (show ∀ (j : Nat) (d : UInt8), q + 1 ≤ j → j < p + 1 → s.data.toList[j]? = some d → d ≠ 61 from fun j d h0 h1 h2 => by
                rcases Nat.lt_or_ge j p with h | h
                · exact HNE.out j d h0 h h2
                · obtain rfl : j = p := by omega
                  rw [hcl] at h2
                  cases h2
                  exact h61)
              clear hcl h61
              go_wp2
              go_roundw
              case rel => exact ⟨p + 1, by omega, by omega, by go_num, HNE1, trivial⟩
              case measure => simp [intOf] <;> omega
          · have hge : decide ((p : Int) < (s.size : Int)) = false := by simp; omega
            have hl2' : (s.size : Int) ≤ (p : Int) + 1 := by omega
            have HE := Lib.hid (show D = none by
              have HU := upTo_from HNE.out hqp (by rw [← Lib.size_eq]; omega) (.inl (List.getElem?_eq_none_iff.2 (by rw [← Lib.size_eq]; omega)))
              rw [HD.out, HR1.out, rP_stop (fun d' q' he => by
                rw [HU.2, List.drop_eq_nil_of_le (by rw [← Lib.size_eq]; omega)] at he
                simp at he)]
              rfl)
            go_wp2
            go_ret3
            exact ⟨.inr ⟨HE.out, rfl⟩, HB.out⟩
set_option maxRecDepth 100000 in
set_option maxHeartbeats 4000000 in
theorem rparse_no (s : ByteArray) (w : World) (hs : s.size ≤ 3000) (hN : ∀ (j : Nat) (d : UInt8), s.data.toList[j]? = some d → d ≠ 123) :
    Calls Tryz.prog 7 #[.string s] w (PsPost (refC s.data.toList) w) := by
  have hr := refC_at (upTo_at (p := s.size) (fun j d _ h => hN j d h) (by rw [← Lib.size_eq]; omega) (.inl (List.getElem?_eq_none_iff.2 (by rw [← Lib.size_eq]; omega))))
  rw [List.drop_eq_nil_of_le (by rw [← Lib.size_eq]; omega), List.take_of_length_le (by rw [← Lib.size_eq]; omega)] at hr
  obtain ⟨D, hD⟩ : ∃ D, D = refC s.data.toList := ⟨_, rfl⟩
  rw [← hD] at hr
  rw [← hD]
  have HD := Lib.hid (show D = onR s.data.toList s.data.toList (some []) from hr)
  have HN := Lib.hid hN
  have HNA := Lib.hid (rname_any none 0 s [] w (by omega) (by simp) (fun x hx => by cases hx) (.inl rfl))
  clear hr hD hN
  go_enter Tryz.func7, Tryz.ntmps7
  go_wp2
  go_loopw [5] (fun i wr => ∃ p : Nat, p ≤ s.size ∧ i = .int .i64 p ∧ w = wr) (fun i _ => s.size - (intOf i).toNat)
  case atStart => exact ⟨0, Nat.zero_le _, rfl, rfl⟩
  case round =>
    obtain ⟨p, hp, rfl, rfl⟩ := hrel
    have hp0 : (0 : Int) ≤ (p : Int) := by omega
    by_cases hlt : p < s.size
    · have hlt' : (p : Int) < (s.size : Int) := by omega
      obtain ⟨c, hc, hcl⟩ := data_at s p (by omega)
      have n123 : ((c.toNat : Int) == 123) = false := byte_ne (HN.out p c hcl)
      clear hcl
      go_wp2
      go_roundw
      case rel => exact ⟨p + 1, by omega, by go_num, trivial⟩
      case measure => simp [intOf] <;> omega
    · obtain rfl : p = s.size := by omega
      have hall : s.extract 0 s.size = s := ba_eq (by rw [Lib.extract_to_end]; rfl)
      go_wp2
      refine wp_loop_rounds 1 ?_
      rw [rounds_succ]
      go_wp2_with fail
      have HB2 := Lib.hid (Below.refl w.heap.size w)
      cases hn : nameP s.data.toList [] with
      | none =>
        rw [hn] at HNA
        have HE := Lib.hid (show D = none by rw [HD.out]; unfold onR; simp [hn])
        change Hid (Calls _ _ #[.string s, .slice none 0 0] w fun e' w' => e' = .returned (.tuple #[.string ⟨#[]⟩, .int .i64 5]) ∧ Below w.heap.size w w') at HNA
        clear hn
        refine (Hid.out HNA).mono ?_
        rintro e' w3 ⟨rfl, hb3⟩
        have HB3 := Lib.hid hb3
        clear hb3
        go_wp2
        go_ret3
        exact ⟨.inr ⟨HE.out, rfl⟩, HB3.out⟩
      | some t =>
        rw [hn] at HNA
        change Hid (Calls _ _ #[.string s, .slice none 0 0] w fun e' w' => e' = .returned (.tuple #[.string ⟨t.toArray⟩, .int .i64 0]) ∧ Below w.heap.size w w') at HNA
        by_cases ht : t = s.data.toList
        · have HE := Lib.hid (show D = some (s.data.toList, []) by rw [HD.out]; unfold onR; simp [hn, ht])
          rw [show (⟨t.toArray⟩ : ByteArray) = s from ba_eq ht] at HNA
          clear hn ht
          refine (Hid.out HNA).mono ?_
          rintro e' w3 ⟨rfl, hb3⟩
          have HB3 := Lib.hid hb3
          clear hb3
          go_wp2
          go_ret3
          exact ⟨.inl ⟨_, _, _, HE.out, by rw [Lib.mk_data]; rfl, World.ownsRow_nil _ _ _ _⟩, HB3.out⟩
        · have HE := Lib.hid (show D = none by rw [HD.out]; unfold onR; simp [hn, ht])
          have ht1 : ((⟨t.toArray⟩ : ByteArray).toList == s.toList) = false := by
            rw [toList_eq, Lib.toList_data]
            simpa using ht
          generalize (⟨t.toArray⟩ : ByteArray) = T at HNA ht1
          have ht2 : (T.toList != s.toList) = true := by rw [bne, ht1]; rfl
          clear hn ht
          refine (Hid.out HNA).mono ?_
          rintro e' w3 ⟨rfl, hb3⟩
          have HB3 := Lib.hid hb3
          clear hb3
          go_wp2
          go_ret3
          exact ⟨.inr ⟨HE.out, rfl⟩, HB3.out⟩
theorem rparse_any (s : ByteArray) (w : World) (hs : s.size ≤ 3000) :
    Calls Tryz.prog 7 #[.string s] w (PsPost (parseP s.data.toList) w) := by
  rw [← refC_parse]
  have key : ∀ n, n ≤ s.size → (∀ (j : Nat) (d : UInt8), j < n → s.data.toList[j]? = some d → d ≠ 123) ∨ ∃ P, P < n ∧ s.data.toList[P]? = some 123 ∧ ∀ (j : Nat) (d : UInt8), j < P → s.data.toList[j]? = some d → d ≠ 123 := by
    intro n
    induction n with
    | zero => exact fun _ => .inl fun j d h => by omega
    | succ n ih =>
      intro hn
      rcases ih (by omega) with h | ⟨P, h1, h2, h3⟩
      · obtain ⟨c, _, hcl⟩ := data_at s n (by omega)
        by_cases hc : c = 123
        · subst hc
          exact .inr ⟨n, Nat.lt_succ_self _, hcl, h⟩
        · refine .inl fun j d hj hd => ?_
          rcases Nat.lt_or_ge j n with h' | h'
          · exact h j d h' hd
          · obtain rfl : j = n := by omega
            rw [hcl] at hd
            cases hd
            exact hc
      · exact .inr ⟨P, by omega, h2, h3⟩
  rcases key s.size (Nat.le_refl _) with h | ⟨P, h1, h2, h3⟩
  · exact rparse_no s w hs (fun j d hd => h j d (by have := (List.getElem?_eq_some_iff.1 hd).1; rw [← Lib.size_eq] at this; exact this) hd)
  · exact rparse_brace s P w hs h1 h2 h3
end Go.Proofs.YtpdmmnhmnmlogaaGreat
