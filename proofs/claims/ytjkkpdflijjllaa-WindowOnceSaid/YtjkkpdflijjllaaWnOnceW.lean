/- WindowOnce, walked. -/
import Derived.Test.YtjkkpdflijjllaaWnClosed
namespace Go.Proofs.Ytjkkpdflijjllaa
open Go.RowKit

section
variable {C : WiC} {b : Base} {X Y Z : World} {p rv N : Nat} {S : Ws}
theorem LoneN.rebase (h : LoneN C b X p S) {T K : List Nat} (ht : Turns T X Y) (hT : ∀ i ∈ T, i ∈ b.K ∧ b.w.heap.size ≤ i) (hK : ∀ i ∈ K, i ∈ b.K) : LoneN C ⟨b.w, K, Y⟩ Y p S := by
  obtain ⟨F, a, t, s⟩ := h
  refine ⟨F, C.turns a ht fun i hi hm => (s.2 i (hT i hm).1).2.1 hi, t.trans ht fun i hi => .inr (hT i hi).2, Nat.le_refl _, fun k hk => ?_⟩
  obtain ⟨k1, k2, k3⟩ := s.2 k (hK k hk)
  have := s.1
  have := ht.size
  exact ⟨by show k < Y.heap.size; omega, k2, rfl⟩
theorem PairN.lone {w : World} {S2 : Ws} (h : PairN C [] (.plain w) X p S rv S2) : LoneN C (.plain w) X p S := by
  obtain ⟨F, G, v, a, _, _, t, s, _⟩ := h
  exact ⟨F, a, t, Stay.plain t.size _⟩
end
/-- The law's loop: its windows, its two boxes. -/
structure OnceI (C : WiC) (w : World) (p bl bs : Nat) (most : Int) (k : Nat) (late : Int) (X : World) : Prop where
  st : ∃ S last, LoneN C ⟨w, [bl, bs], X⟩ X p S ∧ Bx2 bl bs last (totW S.L) X ∧ WsOk S k ∧ LRise S.L ∧ last ≤ S.floor ∧ totW S.L ≤ k * 1125899906842624 ∧ S.most = most ∧ S.late = late
  low : w.heap.size ≤ bl ∧ w.heap.size ≤ bs
  ne : bl ≠ bs
theorem addW_take {S : Ws} (name : ByteArray) (tm inc : Int) : ∃ j, (addW S name tm inc).2.1 = S.L.take j := by
  unfold addW
  split
  · exact ⟨0, rfl⟩
  · split
    · exact ⟨1, rfl⟩
    · exact ⟨0, rfl⟩
theorem noteW_left (S : Ws) (t : Int) : (noteW S t).L = S.L ∧ (noteW S t).floor = S.floor ∧ (noteW S t).most = S.most ∧ (noteW S t).late = S.late := by
  unfold noteW
  split <;> exact ⟨rfl, rfl, rfl, rfl⟩
theorem addW_most (S : Ws) (name : ByteArray) (tm inc : Int) : (addW S name tm inc).2.2.most = S.most := by
  have hf : (firstW S).most = S.most := by unfold firstW; split <;> rfl
  unfold addW
  split
  · rfl
  · split
    · exact hf
    · rfl
theorem clockW_most {S : Ws} {N : Nat} (h : WsOk S N) (now : Int) : (clockW S now).2.most = S.most := by
  unfold clockW
  simp only
  obtain ⟨a, b, c, d, e, f⟩ := h.firsts (shutW_le S.len S.lat (markW S now) S.L)
  unfold endW
  split <;> exact e
theorem take_small {S : Ws} {N : Nat} (h : WsOk S N) (hN : N ≤ 1000) (j : Nat) : (S.L.take j).length ≤ 1000 ∧ ∀ x ∈ S.L.take j, x.cr.length ≤ 1000 := by
  have h1 := h.room
  have h2 := h.most
  refine ⟨by rw [List.length_take]; omega, fun x hx => ?_⟩
  have := (h.each x (List.mem_of_mem_take hx)).2.2.2.2.1
  omega
/-- A round's end. -/
theorem once_fin {C : WiC} {w X : World} {b' : Base} {p bl bs k : Nat} {most late last : Int} {S : Ws} (hw : b'.w = w) (hK : bl ∈ b'.K ∧ bs ∈ b'.K) (hlow : w.heap.size ≤ bl ∧ w.heap.size ≤ bs) (hne : bl ≠ bs) (hA : LoneN C b' X p S) (hB : Bx2 bl bs last (totW S.L) X) (hS : WsOk S k) (hk : k ≤ 1000) (hR : LRise S.L) (hl : last ≤ S.floor) (ht : totW S.L ≤ k * 1125899906842624) (hm : S.most = most) (hlt : S.late = late) :
    (∀ Y, Turns [] X Y → OnceI C w p bl bs most k late Y) ∧ Calls Try.prog 18 #[ptrW p] X fun e Z => ∃ (A9 : Option Addr) (n9 c9 : Nat), e = .returned (.slice A9 n9 c9) ∧ decide (most < (n9 : Int)) = false ∧ Turns [] X Z := by
  refine ⟨fun Y hY => ⟨⟨S, last, ?_, hB.next hY, hS, hR, hl, ht, hm, hlt⟩, hlow, hne⟩, (loneN_open hA hS hk).mono ?_⟩
  · have := (hA.pre hY).rebase (T := []) (K := [bl, bs]) (Turns.refl [] Y) (by simp) (fun i hi => by
      simp only [List.mem_cons, List.not_mem_nil, or_false] at hi
      rcases hi with rfl | rfl
      · exact hK.1
      · exact hK.2)
    rw [hw] at this
    exact this
  · rintro e Z ⟨o, H, rfl, ⟨A9, c9, R9, rfl, _⟩, t, _⟩
    refine ⟨A9, _, c9, rfl, ?_, t⟩
    have h1 := hS.room
    simp
    omega
set_option maxRecDepth 100000 in
set_option maxHeartbeats 4000000 in
theorem winOnce_main (C : WiC) (len lat most : Int) (A0 : Option Addr) (cap : Nat) (l : List Ac) (w : World) (h1 : I64 len) (h2 : I64 lat) (h3 : I64 most) (hm : mayW len lat most = 0) (hn : l.length ≤ 100) (hr : acK.Reads w w.heap.size A0 l) (hok : AcsOk l) :
    Calls Try.prog 4 #[.int .i64 len, .int .i64 lat, .int .i64 most, .slice A0 l.length cap] w (FinN w) := by
  have HM := Lib.hid (rmayW_any len lat most w)
  rw [hm] at HM
  have HB := Lib.hid (beginN_any C (Turns.refl [] w) len lat most h1 h2 h3 hm)
  have HS0 := Lib.hid (WsOk.new hm)
  have HK := Lib.hid (fun Y => knownN_any C Y)
  have HR := Lib.hid hr
  have HOK := Lib.hid hok
  obtain ⟨NN, hNN⟩ : ∃ NN, NN = l.length := ⟨_, rfl⟩
  have HNN := Lib.hid hNN
  rw [← hNN] at hn ⊢
  have d1 : decide ((100 : Int) < (NN : Int)) = false := by simp; omega
  have d2 : decide (100 < NN) = false := by simpa using hn
  have hnn : (NN : Int) ≤ 100 := by omega
  clear h1 h2 h3 hm hr hok hNN
  go_enter Try.func4, Try.ntmps4
  go_wp2_with fail
  refine HM.out.mono ?_
  rintro e w1 ⟨rfl, rfl⟩
  go_wp2_with fail
  refine HB.out.mono ?_
  rintro e w2 ⟨p, rv, rfl, h2⟩
  have HP := Lib.hid h2.lone
  clear h2 HB HM
  go_upto_region 7 with fail
  have HX0 : Hid (∀ W3 : World, W3 = ((w2.alloc (.cells #[.int .i64 0] 2)).alloc (.cells #[.int .i64 (-1)] 2)) → OnceI C w p (w2.heap.size + 1) w2.heap.size most 0 0 W3) := Lib.hid (fun W3 e => by
    have ht : Turns [] w2 W3 := by rw [e]; exact (Turns.alloc _ _).then (Turns.alloc _ _)
    have hs : W3.heap.size = w2.heap.size + 2 := by rw [e]; simp
    have hh := HP.out.hold ht [w2.heap.size + 1, w2.heap.size] (by intro k hk; simp at hk; omega)
    have hw : w.heap.size ≤ w2.heap.size := HP.out.turns.size
    refine ⟨⟨_, -1, hh, ⟨?_, ?_⟩, HS0.out, (fun x hx => by cases hx), by simp [newW], by simp [newW, totW], rfl, rfl⟩, ⟨by omega, by omega⟩, by omega⟩
    · have e1 : (w2.alloc (.cells #[.int .i64 0] 2)).heap.size = w2.heap.size + 1 := by simp
      rw [e, ← e1]
      exact heap_alloc_new _ _
    · rw [e]
      exact ((Turns.alloc (F := []) (w2.alloc (.cells #[.int .i64 0] 2)) (.cells #[.int .i64 (-1)] 2)).block w2.heap.size (by simp) (by simp)).trans (heap_alloc_new _ _))
  have HX1 := Lib.hid (HX0.out _ rfl)
  obtain ⟨bs, hbs⟩ : ∃ bs, bs = w2.heap.size := ⟨_, rfl⟩
  obtain ⟨bl, hbl⟩ : ∃ bl, bl = w2.heap.size + 1 := ⟨_, rfl⟩
  rw [← hbl, ← hbs] at HX1 ⊢
  generalize (w2.alloc (.cells #[.int .i64 0] 2)).alloc (.cells #[.int .i64 (-1)] 2) = w3 at HX1 ⊢
  clear HX0 HP hbs hbl
  go_wp2_with fail
  go_loopw [13, 16] (fun lv iv wr => ∃ (k : Nat) (late : Int), k ≤ NN ∧ iv = .int .i64 (k : Int) ∧ lv = .int .i64 late ∧ Hid (OnceI C w p bl bs most k late wr)) (fun _ iv _ => NN - (intOf iv).toNat)
  case atStart => exact ⟨0, 0, Nat.zero_le _, rfl, rfl, HX1⟩
  case round =>
    obtain ⟨k, late, hk, rfl, rfl, HX⟩ := hrel
    have hk0 : (0 : Int) ≤ (k : Int) := by omega
    obtain ⟨⟨S, last, hA, hBx, hS, hRi, hla, htot, hmo, hlt9⟩, hlow, hne⟩ := HX.out
    by_cases hlt : k < NN
    · have hlt' : (k : Int) < (NN : Int) := by omega
      obtain ⟨a, ha⟩ : ∃ a, l[k]? = some a := ⟨_, List.getElem?_eq_getElem (by have := HNN.out; omega)⟩
      have hao := HOK.out a (List.mem_of_getElem? ha)
      obtain ⟨g, off, rfl, hc⟩ := acts_at HR.out ha
      obtain ⟨x0, x1, x2, x3, x4, x5⟩ := hc wr hA.turns
      obtain ⟨kind, n, name, tm, inc, rs⟩ := a
      obtain ⟨hn0, hn1, hn2, hn3⟩ := hao
      simp only at hn0 hn1 hn2 hn3 x0 x1 x2 x3 x4 x5
      clear hc ha HX
      go_upto_region 12 with fail
      have HT4 : Hid (Turns [] wr (wr.alloc (.cells #[.int .i64 kind, .int .i64 n, .string name, .int .i64 tm, .int .i64 inc, .bool rs] 36))) := Lib.hid (Turns.alloc _ _)
      have HA4 := Lib.hid (hA.hold HT4.out [wr.heap.size] (by simp))
      have HBX := Lib.hid (heap_alloc_new wr (.cells #[.int .i64 kind, .int .i64 n, .string name, .int .i64 tm, .int .i64 inc, .bool rs] 36))
      obtain ⟨bx, hbx⟩ : ∃ bx, bx = wr.heap.size := ⟨_, rfl⟩
      rw [← hbx] at HBX HA4 ⊢
      generalize wr.alloc (.cells #[.int .i64 kind, .int .i64 n, .string name, .int .i64 tm, .int .i64 inc, .bool rs] 36) = w4 at HT4 HA4 HBX ⊢
      have HB4 := Lib.hid (hBx.next HT4.out)
      have hbxl : bx ≠ bl ∧ bx ≠ bs := by
        have h1 := lt_of_block hBx.l
        have h2 := lt_of_block hBx.s
        omega
      have HBN := Lib.hid hbxl
      have HACT : Hid (∀ Y : World, Y.heap[bx]? = w4.heap[bx]? → Y.cell? ⟨bx, 0, none⟩ = some (.int .i64 kind) ∧ Y.cell? ⟨bx, 1, none⟩ = some (.int .i64 n) ∧ Y.cell? ⟨bx, 2, none⟩ = some (.string name) ∧ Y.cell? ⟨bx, 3, none⟩ = some (.int .i64 tm) ∧ Y.cell? ⟨bx, 4, none⟩ = some (.int .i64 inc) ∧ Y.cell? ⟨bx, 5, none⟩ = some (.bool rs)) := Lib.hid (fun Y hy => by
        rw [HBX.out] at hy
        refine ⟨?_, ?_, ?_, ?_, ?_, ?_⟩ <;> simp [World.cell?, hy])
      have HSTAY : Hid (∀ {Y : World} {S' : Ws}, LoneN C ⟨w, [bx] ++ [bl, bs], w4⟩ Y p S' → Bx2 bl bs last (totW S.L) Y ∧ Y.heap[bx]? = w4.heap[bx]?) := Lib.hid (fun hY => ⟨⟨(hY.stays bl (by simp)).trans HB4.out.l, (hY.stays bs (by simp)).trans HB4.out.s⟩, hY.stays bx (by simp)⟩)
      have HS := Lib.hid (And.intro hS (And.intro hRi (And.intro hla (And.intro htot (And.intro hmo hlt9)))))
      have HLOW := Lib.hid hlow
      have HNE := Lib.hid hne
      have HOKA := Lib.hid (And.intro hn0 (And.intro hn1 (And.intro hn2 hn3)))
      have HLT := Lib.hid hlt
      have hk1 : k + 1 ≤ 1000 := by omega
      clear x0 x1 x2 x3 x4 x5 hA hBx hS hRi hla htot hmo hlt9 hlow hne hn0 hn1 hn2 hn3 hbx hbxl
      obtain ⟨y0, y1, y2, y3, y4, y5⟩ := HACT.out w4 rfl
      by_cases k1 : kind = 1
      · subst k1
        have HNT := Lib.hid (loneN_note HA4.out HS.out.1 n HOKA.out.2.1)
        go_wp2_with fail
        refine HNT.out.mono ?_
        rintro e w5 ⟨rfl, h5⟩
        obtain ⟨f1, f2, f3, f4⟩ := noteW_left S n
        have HFN := Lib.hid (once_fin (b' := ⟨w, [bx] ++ [bl, bs], w4⟩) (k := k + 1) (most := most) (late := late) (last := last) rfl ⟨by simp, by simp⟩ HLOW.out HNE.out h5 (by rw [f1]; exact (HSTAY.out h5).1) ((HS.out.1.note n).mono (Nat.le_succ _)) hk1 (by rw [f1]; exact HS.out.2.1) (by rw [f2]; exact HS.out.2.2.1) (by rw [f1]; have := HS.out.2.2.2.1; omega) (f3.trans HS.out.2.2.2.2.1) (f4.trans HS.out.2.2.2.2.2))
        clear h5 HNT f1 f2 f3 f4 y0 y1 y2 y3 y4 y5
        go_wp2_with (go_at_call 18; refine HFN.out.2.mono ?_; rintro e w9 ⟨A9, n9, c9, rfl, hq9, t9⟩; have HE9 := Lib.hid (HFN.out.1 _ t9); clear t9)
        exact ⟨⟨k + 1, late, HLT.out, by go_num, rfl, HE9⟩, by have := HLT.out; simp [intOf]; omega⟩
      by_cases k2 : kind = 2
      · subst k2
        clear k1
        by_cases hbig : 1125899906842624 ≤ inc
        · have db : decide (1125899906842624 ≤ inc) = true := by simpa using hbig
          have HFN := Lib.hid (once_fin (b' := ⟨w, [bx] ++ [bl, bs], w4⟩) (k := k + 1) (most := most) (late := late) (last := last) rfl ⟨by simp, by simp⟩ HLOW.out HNE.out HA4.out HB4.out (HS.out.1.mono (Nat.le_succ _)) hk1 HS.out.2.1 HS.out.2.2.1 (by have := HS.out.2.2.2.1; omega) HS.out.2.2.2.2.1 HS.out.2.2.2.2.2)
          have HE9 := Lib.hid (HFN.out.1 _ (Turns.refl _ _))
          clear hbig HFN
          go_wp2_with fail
          exact ⟨⟨k + 1, late, HLT.out, by go_num, rfl, HE9⟩, by have := HLT.out; simp [intOf]; omega⟩
        have db : decide (1125899906842624 ≤ inc) = false := by simpa using hbig
        have HSM : Hid (totW S.L + inc ≤ 9223372036854775807) := Lib.hid (by have := HS.out.2.2.2.1; omega)
        have HIN := Lib.hid (show inc < 1125899906842624 by omega)
        have HAD := Lib.hid (loneN_add HA4.out HS.out.1 (by omega) name tm inc rs HOKA.out.1 HOKA.out.2.2.1 HOKA.out.2.2.2)
        have HLE := Lib.hid (addW_left HS.out.1 HS.out.2.1 HS.out.2.2.1 name tm inc HSM.out)
        have HTK := Lib.hid (addW_take (S := S) name tm inc)
        have HMO := Lib.hid ((addW_most S name tm inc).trans HS.out.2.2.2.2.1)
        have HWK := Lib.hid (HS.out.1.add name tm inc HOKA.out.2.2.2.2)
        clear hbig
        generalize addW S name tm inc = q at HAD HLE HTK HMO HWK
        obtain ⟨q0, q1, q2⟩ := q
        simp only at HAD HLE HTK HMO HWK
        go_wp2_with fail
        refine HAD.out.mono ?_
        rintro e w5 ⟨o5, G5, rfl, hl5, hg5, h5⟩
        have hbx5 := (HSTAY.out h5).1
        have hact5 := HACT.out _ (HSTAY.out h5).2
        have H5 := Lib.hid h5
        have HRB : Hid (∀ (X Y : World), LoneN C ⟨w, [bx] ++ [bl, bs], X⟩ X p q2 → Turns [bl, bs] X Y → LoneN C ⟨w, [bx] ++ [bl, bs], Y⟩ Y p q2) := Lib.hid (fun X Y hX hXY => hX.rebase (K := [bx] ++ [bl, bs]) hXY (fun i hi => by
          simp only [List.mem_cons, List.not_mem_nil, or_false] at hi
          rcases hi with rfl | rfl
          · exact ⟨by simp, HLOW.out.1⟩
          · exact ⟨by simp, HLOW.out.2⟩) (fun i hi => hi))
        have h55 : LoneN C ⟨w, [bx] ++ [bl, bs], w5⟩ w5 p q2 := h5.rebase (T := []) (K := [bx] ++ [bl, bs]) (Turns.refl [] w5) (by simp) (fun i hi => hi)
        have H55 := Lib.hid h55
        clear y0 y1 y2 y3 y4 y5 HAD h55
        cases q0 with
        | true =>
          have hq1 : q1 = [] := HLE.out.2.1 rfl
          subst hq1
          have HLF := Lib.hid HLE.out.1
          simp only [if_true] at HLF
          have HCL := Lib.hid (closed_any (bl := bl) (bs := bs) hl5 hbx5 HNE.out (fun i hi hm => hg5 i hi (by simp only [List.mem_cons, List.not_mem_nil, or_false] at hm; rcases hm with rfl | rfl <;> simp)) HLF.out.cl (by obtain ⟨j, e⟩ := HTK.out; rw [e]; exact (take_small HS.out.1 (by omega) j).1) (by obtain ⟨j, e⟩ := HTK.out; rw [e]; exact (take_small HS.out.1 (by omega) j).2) (by have := totW_pos HS.out.1.lc; simpa [totW] using this) (by have := HS.out.2.2.2.1; omega))
          obtain ⟨A5, c5, R5, rfl, -⟩ := hl5
          have hlate : 0 ≤ late ∧ late ≤ 1000 := by have h1 := HS.out.1.late; have h2 := HS.out.2.2.2.2.2; omega
          clear hg5 h5 hbx5 hact5
          go_wp2_with fail
          refine HCL.out.mono ?_
          rintro e w6 ⟨rfl, hb6, ht6⟩
          have h6 := HRB.out _ _ H55.out ht6
          have hb7 : Bx2 bl bs last (totW q2.L) w6 := by
            have e : totW S.L - totW [] = totW q2.L := by have := HLF.out.tot; simp only [totW] at this ⊢; omega
            rw [e] at hb6
            exact hb6
          have HFN := Lib.hid (once_fin (b' := ⟨w, [bx] ++ [bl, bs], w6⟩) (k := k + 1) (most := most) (late := late + 1) rfl ⟨by simp, by simp⟩ HLOW.out HNE.out h6 hb7 HWK.out hk1 HLF.out.rise (HLF.out.lastN) (by have h1 := HS.out.2.2.2.1; have h2 := HLF.out.tot; simp only [totW] at h2; omega) HMO.out (by have := HLF.out.late; rw [this]; have := HS.out.2.2.2.2.2; simp [this]))
          clear h6 hb6 hb7 ht6 HCL H5
          go_wp2_with (go_at_call 18; refine HFN.out.2.mono ?_; rintro e w9 ⟨A9, n9, c9, rfl, hq9, t9⟩; have HE9 := Lib.hid (HFN.out.1 _ t9); clear t9)
          exact ⟨⟨k + 1, late + 1, HLT.out, by go_num, rfl, HE9⟩, by have := HLT.out; simp [intOf]; omega⟩
        | false =>
          have HLF := Lib.hid HLE.out.1
          simp only [Bool.false_eq_true, if_false] at HLF
          have HI0 := Lib.hid (HLE.out.2.2 rfl)
          obtain ⟨t1, t2, t3, t4⟩ := hbx5.cells
          obtain ⟨-, -, -, -, y4, -⟩ := hact5
          obtain ⟨tt, htt⟩ : ∃ tt, tt = totW S.L := ⟨_, rfl⟩
          have HTT := Lib.hid htt
          rw [← htt] at t2
          have htb : 0 ≤ tt ∧ tt ≤ 112589990684262400 ∧ 0 ≤ inc ∧ inc < 1125899906842624 := by
            have h1 := totW_pos HS.out.1.lc
            have h2 := HS.out.2.2.2.1
            have h3 := HI0.out
            have h4 := HIN.out
            omega
          have HS5 := Lib.hid (show Bx2 bl bs last (tt + inc) (w5.setCell ⟨bs, 0, none⟩ (.int .i64 (tt + inc))) ∧ Turns [bl, bs] w5 (w5.setCell ⟨bs, 0, none⟩ (.int .i64 (tt + inc))) from hbx5.setS HNE.out _)
          have HH5 := Lib.hid (fun i (hi : i ∈ G5) (hm : i ∈ [bl, bs]) => hg5 i hi (by simp only [List.mem_cons, List.not_mem_nil, or_false] at hm; rcases hm with rfl | rfl <;> simp))
          have HL5 := Lib.hid hl5
          clear hg5 h5 hbx5 htt hl5
          go_upto_region 21 with fail
          generalize w5.setCell ⟨bs, 0, none⟩ (.int .i64 (tt + inc)) = w6 at HS5 ⊢
          have HCL := Lib.hid (closed_any (bl := bl) (bs := bs) (HL5.out.turns HS5.out.2 HH5.out) HS5.out.1 HNE.out HH5.out HLF.out.cl (by obtain ⟨j, e⟩ := HTK.out; rw [e]; exact (take_small HS.out.1 (by omega) j).1) (by obtain ⟨j, e⟩ := HTK.out; rw [e]; exact (take_small HS.out.1 (by omega) j).2) (by have h1 := HLF.out.tot; have h2 := totW_pos HWK.out.lc; have h3 := HTT.out; omega) (by omega))
          obtain ⟨A5, c5, R5, rfl, -⟩ := HL5.out
          clear t1 t2 t3 t4 y4
          go_wp2_with fail
          refine HCL.out.mono ?_
          rintro e w7 ⟨rfl, hb6, ht6⟩
          have h6 := HRB.out _ _ (HRB.out _ _ H55.out HS5.out.2) ht6
          have hb7 : Bx2 bl bs (lastN last q1) (totW q2.L) w7 := by
            have e : tt + inc - totW q1 = totW q2.L := by have := HLF.out.tot; have := HTT.out; omega
            rw [e] at hb6
            exact hb6
          have HFN := Lib.hid (once_fin (b' := ⟨w, [bx] ++ [bl, bs], w7⟩) (k := k + 1) (most := most) (late := late) rfl ⟨by simp, by simp⟩ HLOW.out HNE.out h6 hb7 HWK.out hk1 HLF.out.rise HLF.out.lastN (by have h1 := HS.out.2.2.2.1; have h2 := HLF.out.tot; have h3 := totW_pos HLF.out.cl.ok; have h4 := HIN.out; omega) HMO.out (by have := HLF.out.late; rw [this]; have := HS.out.2.2.2.2.2; simp [this]))
          clear h6 hb6 hb7 ht6 HCL H5 htb
          go_wp2_with (go_at_call 18; refine HFN.out.2.mono ?_; rintro e w9 ⟨A9, n9, c9, rfl, hq9, t9⟩; have HE9 := Lib.hid (HFN.out.1 _ t9); clear t9)
          exact ⟨⟨k + 1, late, HLT.out, by go_num, rfl, HE9⟩, by have := HLT.out; simp [intOf]; omega⟩
      by_cases k3 : kind = 3
      · subst k3
        clear k1 k2
        have HCK := Lib.hid (loneN_clock HA4.out HS.out.1 (by omega) n HOKA.out.2.1)
        have HLF := Lib.hid (clockW_left HS.out.1 HS.out.2.1 HS.out.2.2.1 n)
        have HTK := Lib.hid (show ∃ j, (clockW S n).1 = S.L.take j from ⟨_, rfl⟩)
        have HMO := Lib.hid ((clockW_most HS.out.1 n).trans HS.out.2.2.2.2.1)
        have HWK := Lib.hid ((HS.out.1.clock n).mono (Nat.le_succ _))
        generalize clockW S n = q at HCK HLF HTK HMO HWK
        obtain ⟨q1, q2⟩ := q
        simp only at HCK HLF HTK HMO HWK
        clear y2 y3 y4 y5
        go_wp2_with fail
        refine HCK.out.mono ?_
        rintro e w5 ⟨o5, G5, rfl, hl5, hg5, h5⟩
        have hbx5 := (HSTAY.out h5).1
        have HCL := Lib.hid (closed_any (bl := bl) (bs := bs) hl5 hbx5 HNE.out (fun i hi hm => hg5 i hi (by simp only [List.mem_cons, List.not_mem_nil, or_false] at hm; rcases hm with rfl | rfl <;> simp)) HLF.out.cl (by obtain ⟨j, e⟩ := HTK.out; rw [e]; exact (take_small HS.out.1 (by omega) j).1) (by obtain ⟨j, e⟩ := HTK.out; rw [e]; exact (take_small HS.out.1 (by omega) j).2) (by have h1 := HLF.out.tot; have h2 := totW_pos HWK.out.lc; omega) (by have := HS.out.2.2.2.1; omega))
        have H5 := Lib.hid h5
        clear hl5 hg5 h5 hbx5 HCK y0 y1
        go_wp2_with fail
        refine HCL.out.mono ?_
        rintro e w6 ⟨rfl, hb6, ht6⟩
        have h6 := H5.out.rebase (K := [bx] ++ [bl, bs]) ht6 (fun i hi => by
          simp only [List.mem_cons, List.not_mem_nil, or_false] at hi
          rcases hi with rfl | rfl
          · exact ⟨by simp, HLOW.out.1⟩
          · exact ⟨by simp, HLOW.out.2⟩) (fun i hi => hi)
        have hb7 : Bx2 bl bs (lastN last q1) (totW q2.L) w6 := by
          have e : totW S.L - totW q1 = totW q2.L := by have := HLF.out.tot; omega
          rw [e] at hb6
          exact hb6
        have HFN := Lib.hid (once_fin (b' := ⟨w, [bx] ++ [bl, bs], w6⟩) (k := k + 1) (most := most) (late := late) rfl ⟨by simp, by simp⟩ HLOW.out HNE.out h6 hb7 HWK.out hk1 HLF.out.rise HLF.out.lastN (by have h1 := HS.out.2.2.2.1; have h2 := HLF.out.tot; have h3 := totW_pos HLF.out.cl.ok; omega) HMO.out (by have := HLF.out.late; rw [this]; have := HS.out.2.2.2.2.2; simp [this]))
        clear h6 hb6 hb7 ht6 HCL H5
        go_wp2_with (go_at_call 18; refine HFN.out.2.mono ?_; rintro e w9 ⟨A9, n9, c9, rfl, hq9, t9⟩; have HE9 := Lib.hid (HFN.out.1 _ t9); clear t9)
        exact ⟨⟨k + 1, late, HLT.out, by go_num, rfl, HE9⟩, by have := HLT.out; simp [intOf]; omega⟩
      · have e1 : (kind == 1) = false := by simpa using k1
        have e2 : (kind == 2) = false := by simpa using k2
        have e3 : (kind == 3) = false := by simpa using k3
        have HFN := Lib.hid (once_fin (b' := ⟨w, [bx] ++ [bl, bs], w4⟩) (k := k + 1) (most := most) (late := late) (last := last) rfl ⟨by simp, by simp⟩ HLOW.out HNE.out HA4.out HB4.out (HS.out.1.mono (Nat.le_succ _)) hk1 HS.out.2.1 HS.out.2.2.1 (by have := HS.out.2.2.2.1; omega) HS.out.2.2.2.2.1 HS.out.2.2.2.2.2)
        clear k1 k2 k3
        go_wp2_with (go_at_call 18; refine HFN.out.2.mono ?_; rintro e w9 ⟨A9, n9, c9, rfl, hq9, t9⟩; have HE9 := Lib.hid (HFN.out.1 _ t9); clear t9)
        exact ⟨⟨k + 1, late, HLT.out, by go_num, rfl, HE9⟩, by have := HLT.out; simp [intOf]; omega⟩
    · have hge : decide ((k : Int) < (NN : Int)) = false := by simp; omega
      have hOP := loneN_open hA hS (by omega)
      have HOP := Lib.hid hOP
      have HB1 := Lib.hid hBx
      have HA1 := Lib.hid hA
      have HS := Lib.hid (And.intro hS (And.intro htot (And.intro hla hlt9)))
      have HLOW := Lib.hid hlow
      have HNE := Lib.hid hne
      have e1 : (late == late) = true := by simp
      have e0 : ((0 : Int) != 0) = false := rfl
      clear hOP hBx hA hS hRi hla htot hmo hlt9 hlow hne HX
      go_wp2_with fail
      refine HOP.out.mono ?_
      rintro e w5 ⟨o5, G5, rfl, hl5, t5, hg5⟩
      have HT5 := Lib.hid t5
      have HCL := Lib.hid (closed_any (bl := bl) (bs := bs) hl5 (HB1.out.next t5) HNE.out (fun i hi hm => by
        have h1 := hg5 i hi
        have h2 := lt_of_block HB1.out.l
        have h3 := lt_of_block HB1.out.s
        simp only [List.mem_cons, List.not_mem_nil, or_false] at hm
        omega) (HS.out.1.cl HS.out.2.2.1) (by have h1 := HS.out.1.room; have h2 := HS.out.1.most; omega) (fun x hx => by have := (HS.out.1.each x hx).2.2.2.2.1; omega) (Int.le_refl _) (by have := HS.out.2.1; omega))
      rw [Int.sub_self] at HCL
      clear hl5 t5 hg5 HOP
      go_wp2_with fail
      refine HCL.out.mono ?_
      rintro e w6 ⟨rfl, hb6, ht6⟩
      have h6 := (HA1.out.pre HT5.out).rebase (K := [bl, bs]) ht6 (fun i hi => ⟨hi, by
        simp only [List.mem_cons, List.not_mem_nil, or_false] at hi
        rcases hi with rfl | rfl
        · exact HLOW.out.1
        · exact HLOW.out.2⟩) (fun i hi => hi)
      have HCN := Lib.hid (loneN_counts h6)
      rw [HS.out.2.2.2] at HCN
      have HT6 : Hid (Turns [] w w6) := Lib.hid h6.turns
      obtain ⟨t1, t2, t3, t4⟩ := hb6.cells
      clear h6 hb6 ht6 HCL
      go_wp2_with (first | (go_at_call 19; refine HCN.out.mono ?_; rintro e w7 ⟨rfl, t7⟩; have HT7 := Lib.hid (HT6.out.then t7); clear t7) | (go_at_call 10; refine (HK.out _).mono ?_; rintro e w8 ⟨rfl, t8⟩; have HT8 := Lib.hid (HT7.out.then t8); clear t8))
      go_ret
      exact ⟨rfl, HT8.out⟩
set_option maxRecDepth 100000 in
set_option maxHeartbeats 2000000 in
theorem winOnce_no (C : WiC) (len lat most : Int) (A0 : Option Addr) (cap n : Nat) (w : World) (hm : mayW len lat most ≠ 0) :
    Calls Try.prog 4 #[.int .i64 len, .int .i64 lat, .int .i64 most, .slice A0 n cap] w (FinN w) := by
  have HM := Lib.hid (rmayW_any len lat most w)
  have HK := Lib.hid (fun Y => knownN_any C Y)
  generalize mayW len lat most = m at HM hm
  have d1 : (m != 0) = true := by simpa using hm
  clear hm
  go_enter Try.func4, Try.ntmps4
  go_wp2_with (first | (go_at_call 8; refine HM.out.mono ?_; rintro e w1 ⟨rfl, rfl⟩) | (go_at_call 10; refine (HK.out _).mono ?_; rintro e w3 ⟨rfl, t3⟩; have HT3 := Lib.hid t3; clear t3))
  go_ret
  exact ⟨rfl, HT3.out⟩
set_option maxRecDepth 100000 in
set_option maxHeartbeats 2000000 in
theorem winOnce_many (C : WiC) (len lat most : Int) (A0 : Option Addr) (cap n : Nat) (w : World) (hm : mayW len lat most = 0) (hn : 100 < n) :
    Calls Try.prog 4 #[.int .i64 len, .int .i64 lat, .int .i64 most, .slice A0 n cap] w (FinN w) := by
  have HM := Lib.hid (rmayW_any len lat most w)
  have HK := Lib.hid (fun Y => knownN_any C Y)
  rw [hm] at HM
  have d1 : decide ((100 : Int) < (n : Int)) = true := by simp; omega
  have d2 : decide (100 < n) = true := by simpa using hn
  clear hm hn
  go_enter Try.func4, Try.ntmps4
  go_wp2_with (first | (go_at_call 8; refine HM.out.mono ?_; rintro e w1 ⟨rfl, rfl⟩) | (go_at_call 10; refine (HK.out _).mono ?_; rintro e w3 ⟨rfl, t3⟩; have HT3 := Lib.hid t3; clear t3))
  go_ret
  exact ⟨rfl, HT3.out⟩
end Go.Proofs.Ytjkkpdflijjllaa
