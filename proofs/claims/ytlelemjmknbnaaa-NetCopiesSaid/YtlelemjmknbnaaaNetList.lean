/- A net's list: its connections' numbers and hosts, rising. -/
import Derived.Test.YtlelemjmknbnaaaRowK
import Derived.Test.YtlelemjmknbnaaaNetSame0
import Derived.Laws.MakeOwn
namespace Go.Proofs.Ytlelemjmknbnaaa
open Go.RowKit Go.Maps Go.Sort Go.Shelf
attribute [local go_sem] Oper.semAt_some

abbrev Ent := Nat × List UInt8
def entK : EK Ent := ⟨76, 80, 2, 24, .agg #[.int .i64 0, .string ⟨#[]⟩], fun x => [.int .i64 (x.1 : Int), .string ⟨x.2.toArray⟩]⟩
theorem entOk : entK.Ok Try.prog := ⟨Try.underlying76, by kernel_rfl, rfl, by decide, by decide, fun _ => rfl, fun x u hu => by simp [entK] at hu; rcases hu with rfl | rfl <;> rfl⟩
def idK : EK Nat := ⟨85, 3, 1, 8, .int .i64 0, fun x => [.int .i64 (x : Int)]⟩
theorem idOk : idK.Ok Try.prog := ⟨Try.underlying85, by kernel_rfl, rfl, by decide, by decide, fun _ => rfl, fun x u hu => by simp [idK] at hu; subst hu; rfl⟩
def idsOf (L : List NE) : List Nat := L.map fun x => x.1.id
def entsOf (L : List NE) : List Ent := L.map fun x => (x.1.id, x.1.host)

theorem idsOf_rise {L : List NE} (h : L.Pairwise fun x y => x.1.id < y.1.id) : (idsOf L).Pairwise (· < ·) := List.pairwise_map.2 h
theorem mem_idsOf {L : List NE} (k : Int) : k ∈ (idsOf L).map (fun n : Nat => (n : Int)) ↔ (getE L k).isSome = true := by
  unfold getE idsOf
  rw [List.find?_isSome]
  simp only [List.mem_map, List.map_map, Function.comp_apply, decide_eq_true_eq]
theorem perm_ids {w : World} {bm n : Nat} {D : DataW Unit} {L : List NE} (ho : w.ownsMap Try.prog 3 pelem bm n D) (hk : Keys D L) (hr : L.Pairwise fun x y => x.1.id < y.1.id) : ((idsOf L).map fun n : Nat => (n : Int)).Perm (intKeys D) := by
  obtain ⟨es, hD, hpw, _⟩ := ho.entries keyed
  obtain ⟨es', hD', hko⟩ := ho.keysOf
  obtain rfl : es = es' := by rw [hD] at hD'; simpa using hD'
  subst hD
  refine perm_intKeys hpw (fun p hp => by obtain ⟨v, hv⟩ := hko p hp; obtain ⟨x, _, hx, _⟩ := Maps.keyOf_i64 Try.underlying3 hv; exact ⟨x, hx⟩) ?_ (fun x => by rw [mem_idsOf, hk.has x])
  exact List.pairwise_map.2 ((idsOf_rise hr).imp fun h e => by omega)
theorem sort_ids {ss : List Int} {D : DataW Unit} {L : List NE} (hs : ss.Perm (intKeys D)) (hp : ((idsOf L).map fun n : Nat => (n : Int)).Perm (intKeys D)) (hr : L.Pairwise fun x y => x.1.id < y.1.id) :
    ss.mergeSort leI = (idsOf L).map fun n : Nat => (n : Int) := by
  rw [mergeSort_of_perm_i (hs.trans hp.symm)]
  refine List.mergeSort_of_pairwise (List.pairwise_map.2 ((idsOf_rise hr).imp fun h => ?_))
  simp only [leI, decide_eq_true_eq]
  omega
theorem sorted_ids {B : Nat} {w : World} {bn bm : Nat} {most last : Int} {L : List NE} (h : NetAt B w bn bm most last L) (hl : L.length ≤ 100000) :
    Calls Try.prog 55 #[.func (.func 60) #[] #[.pointer (some ⟨w.heap.size, 0, none⟩)]] (w.alloc (.cells #[.map (some bm)] 45)) fun e w' =>
      (∃ v, e = .returned v ∧ idK.Own w.heap.size w' v (idsOf L)) ∧ Below w.heap.size w w' := by
  obtain ⟨n, D, ho, hn, hk⟩ := h.hmap
  have hp := perm_ids ho hk h.rise
  have hsz : Maps.size D = L.length := hk.size
  have hbl := ho.lt
  have hseq : SeqGives Fence.wide 2 Try.prog 60 #[.pointer (some ⟨w.heap.size, 0, none⟩)] encZ (fun ss => ss.Perm (intKeys D)) (Maps.size D) (w.alloc (.cells #[.map (some bm)] 45)) :=
    AnyZI.keys_gives (ρ := Try.keysA_ren) { Try.keysA with } Fence.wide _ trivial rfl (by omega) w.heap.size bm n D _ (by simp) (by simp) (by
      obtain ⟨es, clock, hb, Ft, hs, hD⟩ := ho
      exact ⟨es, clock, (Below.heap_alloc _ _ bm hbl).trans hb, Ft, hs, hD⟩)
  have cS := AnyZI.sorted_in Try.sortedA Fence.wide 5 trivial trivial trivial trivial rfl (by omega) (sortsA _) (enters_of Try.func59 (by kernel_rfl) rfl) 60 #[.pointer (some ⟨w.heap.size, 0, none⟩)] trivial (enters_of Try.func60 (by kernel_rfl) rfl) _ _ (show Maps.size D ≤ maxLen by unfold maxLen; omega) (by omega) _ hseq
  change CallsIn _ _ Try.prog 55 _ _ _ at cS
  refine ((callsIn_wide (n := 5)).1 cS).mono ?_
  rintro e w' ⟨v, ss, rfl, hs, hrow, hnil, hb⟩
  refine ⟨⟨v, rfl, ?_⟩, ((Below.refl _ w).alloc (Nat.le_refl _) _).trans (hb.mono (by simp))⟩
  have e1 := sort_ids hs hp h.rise
  have e2 : ss.length = (idsOf L).length := by
    rw [← List.length_mergeSort (le := leI) ss, e1, List.length_map]
  have e3 : (ss.mergeSort leI).map encZ = idK.flat (idsOf L) := by
    rw [e1, List.map_map]
    unfold EK.flat
    induction idsOf L with
    | nil => rfl
    | cons x l ih => simp only [List.map_cons, List.flatMap_cons, ih]; rfl
  unfold EK.Own
  have := ownsRow_base_a hrow (show w.heap.size ≤ (w.alloc (.cells #[.map (some bm)] 45)).heap.size by simp)
  rw [← e2, ← e3]
  exact this
theorem NetAt.lookup {B : Nat} {w : World} {bn bm : Nat} {most last : Int} {L : List NE} (h : NetAt B w bn bm most last L) {k : Int} {x : NE} (hk : (Lit.int .i64 k).wf = true) (hx : getE L k = some x) :
    (Instr.lookup 45 (.map (some bm)) (.int .i64 k) false).run Try.prog w = .ok (.pointer (some ⟨x.2.b, 0, none⟩)) w := by
  obtain ⟨n, D, ho, _, hks⟩ := h.hmap
  obtain ⟨v, ps, hrun, hv⟩ := ho.lookup keyed Try.underlying45 (zeroConn w) (zd := .lit (.bool false)) (zp := []) rfl (Go.Maps.keyOf_int_mk Try.underlying3 hk : Go.keyOf Try.prog 3 (.int .i64 k) = some (.int .i64 k))
  have ha := hks.at_ k
  rw [hx] at ha
  rw [ha] at hv
  rw [hrun, pelem_ptr hv]
theorem getE_of_mem {L : List NE} (hr : L.Pairwise fun x y => x.1.id < y.1.id) {x : NE} (hx : x ∈ L) : getE L (x.1.id : Int) = some x := by
  obtain ⟨L1, L2, rfl⟩ := List.append_of_mem hx
  exact getE_self hr
theorem idK_cells {B : Nat} {w : World} {v : Value} {l : List Nat} (h : idK.Own B w v l) : ∃ A cap, v = .slice A l.length cap ∧ ∀ (k x : Nat), l[k]? = some x → ∃ kb, A = some ⟨kb, 0, none⟩ ∧ B ≤ kb ∧ kb < w.heap.size ∧ w.cell? ⟨kb, k, none⟩ = some (.int .i64 (x : Int)) := by
  rcases h.form with ⟨rfl, rfl⟩ | ⟨g, cap, rfl, hB, hg, _, _⟩
  · exact ⟨none, 0, rfl, fun k x hk => by simp at hk⟩
  · refine ⟨_, cap, rfl, fun k x hk => ⟨g, rfl, hB, hg, ?_⟩⟩
    have := World.ownsRow.cells h (g := g) rfl k (.int .i64 (x : Int)) (by have := EK.flat_at idOk hk 0 _ rfl; simpa [idK] using this)
    rwa [add_plain', Nat.zero_add] at this
set_option maxRecDepth 100000 in
set_option maxHeartbeats 2000000 in
theorem list_any {B : Nat} {w : World} {bn bm : Nat} {most last : Int} {L : List NE} (h : NetAt B w bn bm most last L) (hl : L.length ≤ 1000) (hh : ∀ x ∈ L, x.1.host.length ≤ 1000000) (hlast : last ≤ 1000000000) :
    Calls Try.prog 50 #[.pointer (some ⟨bn, 0, none⟩)] w fun e w' => (∃ v, e = .returned v ∧ entK.Own w.heap.size w' v (entsOf L)) ∧ Below w.heap.size w w' := by
  have c2 := h.c2
  obtain ⟨n, D, ho, hn, hk⟩ := h.hmap
  have hlen0 : ∀ ty, (Builtin.len_ #[45] ty #[.map (some bm)]).run Try.prog w = .ok (.int .i64 (L.length : Int)) w := fun ty => by
    rw [ho.len Try.underlying45 ty, hk.size]
  obtain ⟨i0, hi, hz0, hz1, hz2⟩ := info_parts entOk.inf
  obtain ⟨w1, hmk, hown1, hg1⟩ := run_make_own (P := Try.prog) (w := w) w.heap.size 76 80 i0 _ 2 Try.underlying76 hi hz0 hz1 .i64 .i64 L.length (by rw [hz2]; show 24 * L.length ≤ _; omega) (by unfold maxLen; omega) (Nat.le_refl _)
  have t1 : Turns [] w w1 := Turns.of_grown hg1
  have h1 : NetAt B w1 bn bm most last L := h.kept t1 (by simp)
  have d2 := h1.c2
  have HK := Lib.hid (keys_call (some bm) w1)
  have HS := Lib.hid (sorted_ids h1 (by omega))
  have H := Lib.hid h
  have HT1 := Lib.hid t1
  have HO1 : Hid (entK.Own w.heap.size w1 (.slice (some ⟨w.heap.size, 0, none⟩) 0 L.length) []) := Lib.hid hown1
  clear h ho hk hn h1 t1 hown1 hg1 hi hz0 hz1 hz2
  go_enter Try.func50, Try.ntmps50
  go_wp2_with fail
  refine HK.out.mono ?_
  rintro e w2 ⟨rfl, rfl⟩
  go_wp2_with fail
  refine HS.out.mono ?_
  rintro e w2 ⟨⟨kv, rfl, hkv⟩, hb2⟩
  obtain ⟨KA, kc, rfl, hkeys⟩ := idK_cells hkv
  have HKY := Lib.hid hkeys
  have HB2 := Lib.hid hb2
  have hln : (idsOf L).length = L.length := by simp [idsOf]
  rw [hln]
  clear hkv hkeys hb2 hln d2 c2 hlen0 hmk
  go_wp2_with fail
  have HW1 := Lib.hid (show w.heap.size < w1.heap.size from (HO1.out.foot w.heap.size (by simp [ownB, Value.ownBlock])).2)
  have HX : Hid (∀ wr, Turns [w.heap.size] w2 wr → NetAt B wr bn bm most last L ∧ Below w.heap.size w wr ∧ w.heap.size ≤ wr.heap.size ∧ w2.heap.size ≤ wr.heap.size) := Lib.hid (fun wr ht => by
    have hb1 : Below w.heap.size w w2 := (HT1.out.below (by simp) (Nat.le_refl _)).trans (HB2.out.mono (Nat.le_of_lt HW1.out))
    have hs2 := hb1.size
    have hb : Below w.heap.size w wr := hb1.trans (ht.below (by simp) hs2)
    exact ⟨H.out.kept (Turns.of_below hb (Nat.le_refl _)) (by simp), hb, hb.size, ht.size⟩)
  have HC : Hid (∀ wr (p : Addr), Turns [w.heap.size] w2 wr → p.block < w2.heap.size → p.block ≠ w.heap.size → wr.cell? p = w2.cell? p) := Lib.hid (fun wr p ht h1 h2 => World.cell?_of_block (ht.block _ h1 (by simpa using h2)))
  have HRI := Lib.hid H.out.rise
  have HID := Lib.hid H.out.ids
  have HHO := Lib.hid hh
  have HLA := Lib.hid hlast
  clear hh hlast
  go_loopw [3, 21] (fun s i wr => ∃ (k : Nat) (sv : Value), sv = s ∧ k ≤ L.length ∧ i = .int .i64 k ∧ Hid (entK.Own w.heap.size wr sv (entsOf (L.take k))) ∧ Hid (Turns [w.heap.size] w2 wr) ∧ Hid (∀ j ∈ ownB sv, j = w.heap.size ∨ w2.heap.size ≤ j)) (fun _ i _ => L.length - (intOf i).toNat)
  case atStart => exact ⟨0, _, rfl, Nat.zero_le _, rfl, Lib.hid (HO1.out.below HB2.out), Lib.hid (Turns.refl _ _), Lib.hid (fun j hj => by simp [ownB, Value.ownBlock] at hj; exact .inl hj)⟩
  case round =>
    obtain ⟨k, sv, rfl, hk, rfl, HO, HT, HF⟩ := hrel
    by_cases hlt : k < L.length
    · obtain ⟨x, hx⟩ : ∃ x, L[k]? = some x := ⟨_, List.getElem?_eq_getElem hlt⟩
      have hxm := List.mem_of_getElem? hx
      obtain ⟨kb, rfl, hk1, hk2, hkc⟩ := HKY.out k x.1.id (by simp [idsOf, hx])
      have hn := (HX.out _ HT.out).1
      have hc1 : wr.cell? ⟨kb, k, none⟩ = some (.int .i64 (x.1.id : Int)) := (HC.out wr ⟨kb, k, none⟩ HT.out hk2 (by have := HW1.out; simp; omega)).trans hkc
      have hd2 := hn.c2
      have hcs := cell_conn (hn.conns x hxm).1
      have hc3 := hcs.1
      have hwf : (Lit.int .i64 (x.1.id : Int)).wf = true := wf_nat (by have := (HID.out x hxm).2; have := HLA.out; omega)
      have hlk := hn.lookup hwf (getE_of_mem HRI.out hxm)
      have hlt' : (k : Int) < (L.length : Int) := by omega
      have hk0 : (0 : Int) ≤ (k : Int) := by omega
      have HCL := Lib.hid (clone_str ⟨x.1.host.toArray⟩ wr (HHO.out x hxm))
      have HXM := Lib.hid hxm
      have HXK := Lib.hid hx
      clear hn hxm hx hcs hwf hk1 hk2 hkc
      go_wp2_with fail
      refine HCL.out.mono ?_
      rintro e w3 ⟨rfl, hb3⟩
      have HB3 := Lib.hid hb3
      clear hb3
      have HO3 := Lib.hid ((HO.out.below HB3.out).alloc (.cells #[.int .i64 (x.1.id : Int), .string ⟨x.1.host.toArray⟩] 80))
      have HR3 := Lib.hid (EK.Reads.lone entOk (W := w3) (p := w3.heap.size) (x.1.id, x.1.host) #[.int .i64 (x.1.id : Int), .string ⟨x.1.host.toArray⟩] 80 rfl rfl)
      have HN3 := Lib.hid (show (entsOf (L.take k)).length + 1 ≤ 100000 by simp [entsOf]; omega)
      have HZ3 := Lib.hid (show w.heap.size ≤ (w3.alloc (.cells #[.int .i64 (x.1.id : Int), .string ⟨x.1.host.toArray⟩] 80)).heap.size by
        have h1 := (HX.out _ HT.out).2.2.1
        have h2 := HB3.out.size
        simp
        omega)
      go_wp2_with (at_builtin; refine EK.wpList_append (K := entK) entOk rfl (.tmp 25) (.tmp 38) rfl w.heap.size sv _ rfl HO3.out _ _ [(x.1.id, x.1.host)] 1 1 rfl rfl HR3.out (by simp) HN3.out HZ3.out ?_; intro v4 w4 hown4 ht4 hf4; have HO4 := Lib.hid hown4; have HT4 := Lib.hid ht4; have HF4 := Lib.hid hf4; clear hown4 ht4 hf4)
      go_roundw
      case rel =>
        refine ⟨k + 1, v4, rfl, by omega, by go_num, Lib.hid ?_, Lib.hid ?_, Lib.hid ?_⟩
        · have e : entsOf (L.take (k + 1)) = entsOf (L.take k) ++ [(x.1.id, x.1.host)] := by
            rw [List.take_add_one, HXK.out]
            simp [entsOf]
          rw [e]
          exact HO4.out
        · have t3 : Turns [w.heap.size] w2 (w3.alloc (.cells #[.int .i64 (x.1.id : Int), .string ⟨x.1.host.toArray⟩] 80)) := (HT.out.trans (Turns.of_below HB3.out (Nat.le_refl _)) (by simp)).trans (Turns.alloc (F := []) _ _) (by simp)
          exact t3.trans HT4.out (fun i hi => by rcases HF.out i hi with h1 | h1; exact .inl (by simp [h1]); exact .inr h1)
        · intro j hj
          rcases HF4.out j hj with h1 | h1
          · exact HF.out j h1
          · have := (HX.out _ HT.out).2.2.2
            have := HB3.out.size
            simp at h1
            exact .inr (by omega)
      case measure => simp [intOf] <;> omega
    · have hge : decide ((k : Int) < (L.length : Int)) = false := by simp; omega
      obtain rfl : k = L.length := by omega
      go_wp2_with fail
      go_ret
      exact ⟨⟨_, rfl, by have := HO.out; rwa [List.take_length] at this⟩, (HX.out _ HT.out).2.1⟩
end Go.Proofs.Ytlelemjmknbnaaa
