/- The document's Clock. -/
import Derived.Test.YtjkkpdflijjllaaWnClockL
import Derived.Test.YtjkkpdflijjllaaInv
namespace Go.Proofs.Ytjkkpdflijjllaa
open Go.RowKit

set_option maxRecDepth 100000 in
set_option maxHeartbeats 1000000 in
theorem rclockW_any {B : Nat} {w : World} {rv : Nat} {G : List Nat} {v : Value} {S : Ws} {N : Nat} (h : RefW B w rv G v S) (hB : B ≤ w.heap.size) (hok : WsOk S N) (now : Int) :
    Calls Try.prog 30 #[.pointer (some ⟨rv, 0, none⟩), .int .i64 now] w fun e w' => ∃ o v' G' H, e = .returned o ∧ WnL w' H o (clockW S now).1 ∧ RefW B w' rv G' v' (clockW S now).2 ∧ Turns [rv] w w' ∧ (∀ i ∈ G', i ∈ G ∨ w.heap.size ≤ i) ∧ ∀ i ∈ H, i ∈ G ∨ w.heap.size ≤ i := by
  obtain ⟨mk, hmk⟩ : ∃ mk, mk = markW S now := ⟨_, rfl⟩
  have hmkb := markW_le hok now
  rw [← hmk] at hmkb
  have HMB := Lib.hid (And.intro hmkb.1 (Int.le_trans hmkb.2 hok.mark.2))
  have HMK := Lib.hid hmk
  obtain ⟨sh, hsh⟩ : ∃ sh, sh = shutW S.len S.lat mk S.L := ⟨_, rfl⟩
  have HSL := Lib.hid (show sh ≤ S.L.length by rw [hsh]; exact shutW_le _ _ _ _)
  have HSH := Lib.hid hsh
  have HCW := Lib.hid (show clockW S now = (S.L.take sh, endW (firstsW S sh) mk) by unfold clockW; rw [← hmk, ← hsh])
  have HLT := Lib.hid (show ∀ k x, k < sh → S.L[k]? = some x → (x.num + 1) * S.len + S.lat ≤ mk from fun k x hk hx => shutW_lt (by rw [← hsh]; exact hk) hx)
  have HAT := Lib.hid (show ∀ x, S.L[sh]? = some x → ¬ (x.num + 1) * S.len + S.lat ≤ mk from fun x hx => shutW_at (by rw [← hsh]; exact hx))
  have HOK := Lib.hid hok
  have HFS := Lib.hid (fun k (hk : k ≤ S.L.length) => hok.firsts hk)
  have HST := Lib.hid (CloL.start h hB)
  have hL64 : S.L.length ≤ 64 := by have := hok.room; have := hok.most; omega
  obtain ⟨c0, c1, c2, c3, c4, c5, c6, c7, fz⟩ := h.cells
  clear h hB hok hmk hmkb hsh c0 c1 c2 c3 c4 c6 c7 fz
  go_enter Try.func30, Try.ntmps30
  obtain ⟨b1, hb1⟩ : ∃ b1, b1 = decide (now < S.mark) := ⟨_, rfl⟩
  have HB1 := Lib.hid hb1
  have d1 : decide (now < S.mark) = b1 := hb1.symm
  clear hb1
  go_upto_if 14 with fail
  go_cut [5] from 15 to 17 (fun x wx => wx = w ∧ x = .int .i64 mk)
  case first =>
    cases b1 with
    | true =>
      have E := Lib.hid (show mk = max now (-1) by rw [HMK.out]; unfold markW; rw [if_pos (by simpa using HB1.out.symm)])
      go_wp2_with fail
      all_goals
        go_meet
        exact ⟨rfl, by rw [E.out]; first | rfl | (congr 1; omega)⟩
    | false =>
      have E := Lib.hid (show mk = S.mark by rw [HMK.out]; unfold markW; rw [if_neg (by simpa using HB1.out.symm)])
      go_wp2_with fail
      go_meet
      exact ⟨rfl, by rw [E.out]⟩
  case rest =>
  obtain ⟨e0, rfl⟩ := hcut
  have e0 := e0.symm
  subst e0
  clear c5 d1
  go_wp2_with fail
  go_loopw [6] (fun o wr => ∃ (k : Nat) (A9 : Option Addr) (c9 : Nat), k ≤ sh ∧ o = .slice A9 k c9 ∧ ∃ (K : List Nat) (v4 : Value) (R9 : List Rw), R9.length = k ∧ Hid (CloL B w rv G K v4 (firstsW S k) (.slice A9 k c9) R9 (S.L.take k) wr)) (fun o _ => sh - lenV o)
  case atStart => exact ⟨0, none, 0, Nat.zero_le _, rfl, G, v, [], rfl, HST⟩
  case round =>
    obtain ⟨k, A9, c9, hk, rfl, K, v4, R9, hR9, HX⟩ := hrel
    obtain ⟨f1, f2, f3, f4, f5, f6⟩ := HFS.out k (Nat.le_trans hk HSL.out)
    have HF := Lib.hid (And.intro f1 (And.intro f2 (And.intro f3 f4)))
    obtain ⟨c0, c1, c2, c3, c4, c5, c6, c7, fz⟩ := HX.out.ref.cells
    have HFW := Lib.hid (show firstsW S (k + 1) = firstW (firstsW S k) from rfl)
    obtain ⟨S1, hS1⟩ : ∃ S1, S1 = firstsW S k := ⟨_, rfl⟩
    rw [← hS1] at HX HF HFW c0 c1
    have HS1 := Lib.hid hS1
    obtain ⟨A4, cc, e4, hl4, hm4⟩ := HX.out.ref.form
    rw [HF.out.2.2.1] at c0
    rw [HF.out.2.2.2] at c1
    clear f1 f2 f3 f4 f5 f6 c2 c5 c6 c7 hS1
    subst e4
    have HR9 := Lib.hid hR9
    clear hR9
    by_cases hks : k < sh
    · obtain ⟨x, hx⟩ : ∃ x, S.L[k]? = some x := ⟨_, List.getElem?_eq_getElem (Nat.lt_of_lt_of_le hks HSL.out)⟩
      have hxo := HOK.out.each x (List.mem_of_getElem? hx)
      have hcond := HLT.out k x hks hx
      have hdr : S1.L = x :: S.L.drop (k + 1) := by
        rw [HF.out.2.1]
        obtain ⟨h1, h2⟩ := List.getElem?_eq_some_iff.1 hx
        rw [List.drop_eq_getElem_cons h1, h2]
      have HDR := Lib.hid hdr
      have h0x : S1.L[0]? = some x := by rw [hdr]; rfl
      obtain ⟨bq, oq, cq, r, eq, hw, d0, d1⟩ := HX.out.ref.list.at h0x
      injection eq with eq1 eq2 eq3
      subst eq1 eq3
      simp only [Nat.zero_mul, Nat.add_zero] at d0
      obtain ⟨n1, hn1⟩ : ∃ n1, n1 = S1.L.length := ⟨_, rfl⟩
      rw [← hn1] at c3 hl4 HX
      have hn0 : 0 < n1 := by rw [hn1, hdr]; simp
      have dn : decide ((0 : Int) < (n1 : Int)) = true := by simp; omega
      obtain ⟨P, hP⟩ : ∃ P, P = (x.num + 1) * S.len := ⟨_, rfl⟩
      have hPb : 0 ≤ P ∧ P ≤ 1125899906842624 + 1073741824 := by
        have h1 := hxo.1
        have h2 := hxo.2.1
        have h3 := HOK.out.len
        have e1 : P = x.num * S.len + S.len := by rw [hP, Int.add_mul, Int.one_mul]
        have e2 : 0 ≤ x.num * S.len := Int.mul_nonneg h1 (by omega)
        omega
      rw [← hP] at hcond
      have hnb : 0 ≤ x.num ∧ x.num ≤ 1125899906842624 := by
        have h1 := hxo.1
        have h2 := hxo.2.1
        have h3 := HOK.out.len
        have : x.num * 1 ≤ x.num * S.len := Int.mul_le_mul_of_nonneg_left h3.1 h1
        omega
      have HW1 := Lib.hid (show wrap64 (x.num + 1) = x.num + 1 from IntWalk.wrap64_in _ (by omega))
      have HW2 := Lib.hid (show wrap64 ((x.num + 1) * S.len) = P by rw [← hP]; exact IntWalk.wrap64_in _ (by omega))
      have HW3 := Lib.hid (show wrap64 (P + S.lat) = P + S.lat from IntWalk.wrap64_in _ (by have := HOK.out.lat; omega))
      have HCD := Lib.hid hcond
      have HP := Lib.hid hP
      have HXK := Lib.hid hx
      clear hxo hcond hdr h0x eq2 hw d1 hn1 hP hPb hnb
      go_upto_region 5 with fail
      go_cut [44] (fun z wx => wx = wr.drew ∧ z = .bool true)
      case first =>
        first | go_region | fail "region 5"
        go_wp2
        go_meet
        exact ⟨rfl, by rw [HW1.out, HW2.out, HW3.out, decide_eq_true HCD.out]⟩
      case rest =>
      obtain ⟨e3, rfl⟩ := hcut
      have HT3 := Lib.hid (show Turns [] wr wc by rw [e3]; exact (Turns.refl [] wr).drew)
      have HX2 := Lib.hid (HX.out.next HT3.out)
      have HF1 := Lib.hid (rfirstW_any HX2.out.ref HDR.out (by rw [List.length_drop]; omega))
      clear e3 c0 c1 c3 c4 d0 fz dn
      have HKS := Lib.hid hks
      have HLK := Lib.hid (show R9.length + 1 ≤ 100000 by have := HR9.out; have := HSL.out; omega)
      have HSE := Lib.hid (show S.L.take (k + 1) = S.L.take k ++ [x] by rw [List.take_add_one, (show S.L[k]? = some x from HXK.out)]; rfl)
      go_wp2_with (first | (go_at_call 42; refine HF1.out.mono ?_; rintro e w3 ⟨r3, v3, K3, rfl, hr3, href3, ht3, hk3, hk3'⟩; have HX3 := Lib.hid (HX2.out.first href3 ht3 hk3 hk3'); have HR3 := Lib.hid hr3; obtain ⟨rn, rA, rl, rc⟩ := r3; have er1 : rn = x.num := hr3.num; have er2 : rl = x.cr.length := hr3.len; subst er1 er2; clear hr3 href3 ht3 hk3 hk3') | (at_builtin; refine EK.wpList_append_all wOk rfl (.tmp 45) (.tmp 48) rfl w.heap.size (.slice A9 k c9) R9 rfl (HX3.out.next (Turns.alloc _ _)).own (w3.heap.size + 1) (some ⟨w3.heap.size, 0, none⟩) [⟨x.num, rA, x.cr.length, rc⟩] 1 1 rfl rfl (EK.Reads.lone wOk (W := w3) _ _ _ rfl rfl) HLK.out (HX3.out.next (Turns.alloc _ _)).tt.size ?_; intro v5 w5 ho5 ht5 hf5; have HX5 := Lib.hid ((HX3.out.next (Turns.alloc _ _)).app ho5 ht5 hf5 (.one (HR3.out.turns (Turns.alloc (F := []) _ _) (by simp)))); obtain ⟨A5, c5, e5, -⟩ := ho5.reads; rw [List.length_append, HR9.out, List.length_singleton] at e5; subst e5; clear ho5 ht5 hf5))
      have hfw := HFW.out
      refine ⟨⟨k + 1, A5, c5, HKS.out, rfl, K3, v3, R9 ++ [⟨x.num, rA, x.cr.length, rc⟩], by rw [List.length_append, HR9.out]; rfl, ?_⟩, by have := HKS.out; simp [lenV]; omega⟩
      rw [hfw, HSE.out]
      exact HX5
    · have hke : k = sh := by omega
      subst hke
      clear hks
      have HHD : Hid ((S1.L = [] ∧ S1.L.length = 0) ∨ ∃ x bq oq, S1.L[0]? = some x ∧ A4 = some ⟨bq, oq, none⟩ ∧ wr.cell? ⟨bq, oq, none⟩ = some (.int .i64 x.num) ∧ ¬ (x.num + 1) * S.len + S.lat ≤ mk ∧ 0 ≤ (x.num + 1) * S.len ∧ (x.num + 1) * S.len ≤ 1125899906842624 + 1073741824 ∧ 0 ≤ x.num ∧ x.num ≤ 1125899906842624 ∧ 0 < S1.L.length) := Lib.hid (by
        cases hq : S1.L with
        | nil => exact .inl ⟨rfl, rfl⟩
        | cons x l =>
          right
          have h0x : S1.L[0]? = some x := by rw [hq]; rfl
          obtain ⟨bq, oq, cq, r, eq, hw, d0, d1⟩ := HX.out.ref.list.at h0x
          injection eq with eq1 eq2 eq3
          simp only [Nat.zero_mul, Nat.add_zero] at d0
          have hkx : S.L[k]? = some x := by
            rw [HF.out.2.1, List.getElem?_drop, Nat.add_zero] at h0x
            exact h0x
          have hxo := HOK.out.each x (List.mem_of_getElem? hkx)
          have h1 := hxo.1
          have h2 := hxo.2.1
          have h3 := HOK.out.len
          have e1 : (x.num + 1) * S.len = x.num * S.len + S.len := by rw [Int.add_mul, Int.one_mul]
          have e2 : 0 ≤ x.num * S.len := Int.mul_nonneg h1 (by omega)
          have e3 : x.num * 1 ≤ x.num * S.len := Int.mul_le_mul_of_nonneg_left h3.1 h1
          exact ⟨x, bq, oq, by simp, eq1, d0, by have := HAT.out x hkx; simpa using this, by omega, by omega, h1, by omega, by simp⟩)
      have HLB := Lib.hid (show 0 ≤ S.lat ∧ S.lat ≤ 1073741824 from HOK.out.lat)
      go_upto_region 5 with fail
      go_cut [44] (fun z wx => wx = wr.drew ∧ z = .bool false)
      case first =>
        obtain ⟨n1, hn1⟩ : ∃ n1, n1 = S1.L.length := ⟨_, rfl⟩
        rw [← hn1] at c3 hl4 HX HHD
        rcases HHD.out with ⟨-, h0⟩ | ⟨x, bq, oq, -, rfl, d0, h1, h2, h3, h4, h5, h6⟩
        · subst h0
          have dn : decide ((0 : Int) < ((0 : Nat) : Int)) = false := rfl
          clear hn1
          first | go_region | fail "region 5b"
          go_wp2
          go_meet
          exact ⟨rfl, rfl⟩
        · have dn : decide ((0 : Int) < (n1 : Int)) = true := by simp; omega
          obtain ⟨P, hP⟩ : ∃ P, P = (x.num + 1) * S.len := ⟨_, rfl⟩
          rw [← hP] at h1 h2 h3
          have HW1 := Lib.hid (show wrap64 (x.num + 1) = x.num + 1 from IntWalk.wrap64_in _ (by omega))
          have HW2 := Lib.hid (show wrap64 ((x.num + 1) * S.len) = P by rw [← hP]; exact IntWalk.wrap64_in _ (by omega))
          have HW3 := Lib.hid (show wrap64 (P + S.lat) = P + S.lat from IntWalk.wrap64_in _ (by have := HLB.out; omega))
          have HCD := Lib.hid h1
          clear h1 h2 h3 h4 h5 hn1 hP
          first | go_region | fail "region 5c"
          go_wp2
          go_meet
          exact ⟨rfl, by rw [HW1.out, HW2.out, HW3.out, decide_eq_false (by have := HCD.out; omega)]⟩
      case rest =>
      obtain ⟨e3, rfl⟩ := hcut
      have HX2 := Lib.hid (HX.out.next (show Turns [] wr wc by rw [e3]; exact (Turns.refl [] wr).drew))
      clear e3 c0 c1 c3 fz HHD
      obtain ⟨c0, c1, c2, c3, c4, c5, c6, c7, fz⟩ := HX2.out.ref.cells
      rw [HF.out.2.2.1] at c0
      rw [HF.out.2.2.2] at c1
      have f4 := fz 4
      have hq0 : (S.len == 0) = false := by have := HOK.out.len; simp; omega
      have HL1 := Lib.hid HOK.out.len
      obtain ⟨la, hla⟩ : ∃ la, la = mk - S.lat := ⟨_, rfl⟩
      have HLA := Lib.hid hla
      have HWL := Lib.hid (show wrap64 (mk - S.lat) = la by rw [hla]; exact IntWalk.wrap64_in _ (by have := HMB.out; have := HLB.out; omega))
      have HCE := Lib.hid (show endW (firstsW S k) mk = if S.len ≤ la ∧ S1.floor < Int.tdiv la S.len - 1 then { S1 with floor := Int.tdiv la S.len - 1 } else S1 by
        unfold endW
        rw [← HS1.out, HF.out.2.2.1, HF.out.2.2.2, hla])
      have HTD := Lib.hid (show S.len ≤ la → wrap64 (Int.tdiv la S.len) = Int.tdiv la S.len ∧ wrap64 (Int.tdiv la S.len - 1) = Int.tdiv la S.len - 1 from fun hle => by
        have h1 := HL1.out
        have h2 := HMB.out
        have h3 := HLB.out
        rw [Int.tdiv_eq_ediv_of_nonneg (by omega)]
        have h4 := Int.ediv_nonneg (a := la) (b := S.len) (by omega) (by omega)
        have h5 := Int.ediv_le_self (a := la) S.len (by omega)
        exact ⟨IntWalk.wrap64_in _ (by omega), IntWalk.wrap64_in _ (by omega)⟩)
      clear hla c2 c3 c5 c6 c7 fz hL64 hl4 hm4
      go_upto_region 7 with fail
      go_cut [7] (fun z wx => wx = wc ∧ z = .int .i64 la)
      case first =>
        go_wp2_with fail
        go_meet
        exact ⟨rfl, by first | rw [HWL.out] | rw [HLA.out]⟩
      case rest =>
      obtain ⟨e4, rfl⟩ := hcut
      have e4 := e4.symm
      subst e4
      obtain ⟨cc, hcc⟩ : ∃ cc, cc = (decide (S.len ≤ la) && decide (S1.floor < Int.tdiv la S.len - 1)) := ⟨_, rfl⟩
      have HCC := Lib.hid hcc
      clear hcc
      obtain ⟨w8, rfl⟩ : ∃ w8, w8 = wc := ⟨_, rfl⟩
      go_upto_region 8 with fail
      go_cut [75] (fun z wx => wx = w8.drew ∧ z = .bool cc)
      case first =>
        by_cases hle : S.len ≤ la
        · have dl : decide (S.len ≤ la) = true := by simpa using hle
          obtain ⟨t1, t2⟩ := HTD.out hle
          have HT1 := Lib.hid t1
          have HT2 := Lib.hid t2
          have HCC2 := Lib.hid (show cc = decide (S1.floor < Int.tdiv la S.len - 1) by rw [HCC.out, dl]; rfl)
          have hlen0 : S.len ≠ 0 := by have := HL1.out; omega
          clear t1 t2 hle
          first | go_region | fail "region 8"
          go_wp2
          go_meet
          refine ⟨rfl, ?_⟩
          rw [HCC2.out]
          first | rw [HT1.out, HT2.out] | rw [HT1.out] | rw [HT2.out] | (with_reducible rfl) | (trace_state; fail "t")
        · have dl : decide (S.len ≤ la) = false := by simpa using hle
          have HCC2 := Lib.hid (show cc = false by rw [HCC.out, dl]; rfl)
          clear hle
          first | go_region | fail "region 8"
          go_wp2
          go_meet
          exact ⟨rfl, by rw [HCC2.out]⟩
      case rest =>
      obtain ⟨e5, rfl⟩ := hcut
      have HX3 := Lib.hid (HX2.out.next (show Turns [] w8 wc by rw [e5]; exact (Turns.refl [] w8).drew))
      clear e5 c0 c1 c4 f4
      obtain ⟨c0, c1, c2, c3, c4, c5, c6, c7, fz⟩ := HX3.out.ref.cells
      rw [HF.out.2.2.1] at c0
      have f4 := fz 4
      clear c1 c2 c3 c5 c6 c7 fz
      cases cc with
      | true =>
        have hcc := HCC.out.symm
        simp only [Bool.and_eq_true, decide_eq_true_eq] at hcc
        obtain ⟨t1, t2⟩ := HTD.out hcc.1
        have HT1 := Lib.hid t1
        have HT2 := Lib.hid t2
        have hlen0 : S.len ≠ 0 := by have := HL1.out; omega
        have HE := Lib.hid (show clockW S now = (S.L.take k, { S1 with floor := Int.tdiv la S.len - 1 }) by rw [HCW.out, HCE.out, if_pos hcc])
        have HFN := Lib.hid (HX3.out.floor (Int.tdiv la S.len - 1)).fin
        clear t1 t2 hcc
        go_wp2_with fail
        go_ret
        rw [HE.out]
        first | rw [HT1.out, HT2.out] | rw [HT1.out] | rw [HT2.out] | skip
        obtain ⟨H, h1, h2, h3, h4, h5⟩ := HFN.out
        first | exact ⟨_, rfl, _, _, H, h1, h2, h3, h4, h5⟩ | exact ⟨_, _, _, H, rfl, h1, h2, h3, h4, h5⟩
      | false =>
        have hcc := HCC.out.symm
        have hno : ¬ (S.len ≤ la ∧ S1.floor < Int.tdiv la S.len - 1) := by
          rintro ⟨e1, e2⟩
          rw [decide_eq_true e1, decide_eq_true e2] at hcc
          cases hcc
        have HE := Lib.hid (show clockW S now = (S.L.take k, S1) by rw [HCW.out, HCE.out, if_neg hno])
        have HFN := Lib.hid HX3.out.fin
        clear hcc hno
        go_wp2_with fail
        go_ret
        rw [HE.out]
        obtain ⟨H, h1, h2, h3, h4, h5⟩ := HFN.out
        first | exact ⟨_, rfl, _, _, H, h1, h2, h3, h4, h5⟩ | exact ⟨_, _, _, H, rfl, h1, h2, h3, h4, h5⟩
end Go.Proofs.Ytjkkpdflijjllaa
