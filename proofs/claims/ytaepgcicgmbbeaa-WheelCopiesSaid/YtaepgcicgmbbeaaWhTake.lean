/- What take leaves, plainly: the last of its slot comes into its place. -/
import Derived.Test.YtaepgcicgmbbeaaWhPut
namespace Go.Proofs.Ytaepgcicgmbbeaa
open Go.RowKit

/-- l without its place i: the last comes there. -/
def swapL (l : List Fi) (i : Nat) : List Fi := (match l[l.length - 1]? with | some y => l.set i y | none => l).take (l.length - 1)
theorem at_inj {l : List Fi} (hd : l.Nodup) {i j : Nat} {x : Fi} (h1 : l[i]? = some x) (h2 : l[j]? = some x) : i = j := (List.getElem?_inj (List.getElem?_eq_some_iff.1 h1).1 hd).1 (h1.trans h2.symm)
theorem swapL_len (l : List Fi) (i : Nat) : (swapL l i).length = l.length - 1 := by
  unfold swapL
  split
  · simp
  · simp
theorem swapL_at {l : List Fi} {i : Nat} {y : Fi} (hy : l[l.length - 1]? = some y) (j : Nat) : (swapL l i)[j]? = if j < l.length - 1 then (if j = i then some y else l[j]?) else none := by
  unfold swapL
  rw [hy]
  simp only
  by_cases hj : j < l.length - 1
  · rw [if_pos hj, List.getElem?_take_of_lt hj, List.getElem?_set]
    by_cases hji : i = j
    · subst hji
      rw [if_pos rfl, if_pos rfl, if_pos (by omega)]
    · rw [if_neg hji, if_neg (fun e => hji e.symm)]
  · rw [if_neg hj, List.getElem?_take_eq_none (by omega)]
theorem swapL_perm {l : List Fi} {i : Nat} {x : Fi} (hi : l[i]? = some x) (hd : Ids l) : l.Perm (x :: swapL l i) := by
  have hil : i < l.length := (List.getElem?_eq_some_iff.1 hi).1
  obtain ⟨y, hy⟩ : ∃ y, l[l.length - 1]? = some y := ⟨_, List.getElem?_eq_getElem (by omega)⟩
  have hlen : (swapL l i).length = l.length - 1 := swapL_len l i
  have hmem : ∀ z, z ∈ swapL l i ↔ z ∈ l ∧ z ≠ x := by
    intro z
    have hnd := hd.nodup
    constructor
    · intro hz
      obtain ⟨j, hj⟩ := List.getElem?_of_mem hz
      rw [swapL_at hy] at hj
      by_cases h1 : j < l.length - 1
      · rw [if_pos h1] at hj
        by_cases h2 : j = i
        · rw [if_pos h2] at hj
          cases hj
          refine ⟨List.mem_of_getElem? hy, fun e => ?_⟩
          subst e
          have := at_inj hnd hi hy
          omega
        · rw [if_neg h2] at hj
          refine ⟨List.mem_of_getElem? hj, fun e => ?_⟩
          subst e
          have := at_inj hnd hj hi
          omega
      · rw [if_neg h1] at hj
        cases hj
    · rintro ⟨hz, hne⟩
      obtain ⟨j, hj⟩ := List.getElem?_of_mem hz
      have hjl : j < l.length := (List.getElem?_eq_some_iff.1 hj).1
      have hji : j ≠ i := fun e => by subst e; rw [hi] at hj; cases hj; exact hne rfl
      by_cases h1 : j < l.length - 1
      · refine List.mem_of_getElem? (i := j) ?_
        rw [swapL_at hy, if_pos h1, if_neg hji]
        exact hj
      · have e : j = l.length - 1 := by omega
        subst e
        rw [hy] at hj
        cases hj
        refine List.mem_of_getElem? (i := i) ?_
        rw [swapL_at hy, if_pos (by omega), if_pos rfl]
  have hnd2 : (swapL l i).Nodup := by
    unfold List.Nodup
    rw [List.pairwise_iff_getElem]
    intro a b ha hb hab e
    have h1 : (swapL l i)[a]? = some (swapL l i)[a] := List.getElem?_eq_getElem ha
    have h2 : (swapL l i)[b]? = some (swapL l i)[b] := List.getElem?_eq_getElem hb
    rw [← e] at h2
    generalize (swapL l i)[a] = z at h1 h2
    rw [swapL_at hy, if_pos (by omega)] at h1 h2
    have hnd := hd.nodup
    by_cases c1 : a = i
    · rw [if_pos c1] at h1
      rw [if_neg (by omega)] at h2
      cases h1
      have := at_inj hnd h2 hy
      omega
    · rw [if_neg c1] at h1
      by_cases c2 : b = i
      · rw [if_pos c2] at h2
        cases h2
        have := at_inj hnd h1 hy
        omega
      · rw [if_neg c2] at h2
        have := at_inj hnd h1 h2
        omega
  refine List.perm_iff_count.2 fun z => ?_
  have n2 : (x :: swapL l i).Nodup := List.nodup_cons.2 ⟨fun hm => ((hmem x).1 hm).2 rfl, hnd2⟩
  have hm : z ∈ l ↔ z ∈ x :: swapL l i := by
    rw [List.mem_cons, hmem]
    by_cases e : z = x
    · subst e
      exact ⟨fun _ => .inl rfl, fun _ => List.mem_of_getElem? hi⟩
    · exact ⟨fun h => .inr ⟨h, e⟩, fun h => h.elim (fun h => absurd h e) (fun h => h.1)⟩
  by_cases h : z ∈ l
  · rw [hd.nodup.count, n2.count, if_pos h, if_pos (hm.1 h)]
  · rw [hd.nodup.count, n2.count, if_neg h, if_neg (fun h' => h (hm.2 h'))]
/-- What take leaves: S' and P' are as told. -/
theorem Laid.take {B : Nat} {w w' : World} {bw : Nat} {T : Int} {L L' : List Fi} {F : List Nat} {bs bp : Nat} {S : Sl} {P : Pc} (h : Laid B w bw T L F bs bp S P) (hF : ∀ i ∈ F, B ≤ i ∧ i < w.heap.size) (hd : Ids L) {x y : Fi} (hp : L.Perm (x :: L'))
    {v v' : Value} {l : List Fi} {i : Nat} (e : S (part x.2) = some (v, l)) (hi : l[i]? = some x) (hy : l[l.length - 1]? = some y) {G : List Nat}
    (ht : Turns G w w') (hG : ∀ i ∈ G, i = bs ∨ i = bp ∨ i ∈ ownB v)
    (hpl : MapV 3 aread w' bp (fun z => if z = x.1 then none else if z = y.1 then some (placeV (part x.2, i)) else (P z).map placeV) L'.length)
    (ho : swapL l i ≠ [] → fK.Own B w' v' (swapL l i) ∧ ∀ i ∈ ownB v', i ∈ ownB v) (hs : ∃ n, MapV 2 sread w' bs (fun z => if z = part x.2 then (if swapL l i = [] then none else some v') else (S z).map (·.1)) n) :
    WhAt B w' bw T L' F := by
  obtain ⟨d1, d2, d3, f1, f2, f3⟩ := h.heads
  have hap := h.apart _ _ _ e
  have hGF : ∀ i ∈ G, i ∈ F := fun i hi => by
    rcases hG i hi with rfl | rfl | hi
    · exact f2
    · exact f3
    · exact (hap i hi).1
  have hbwG : bw ∉ G := fun hm => by
    rcases hG bw hm with e | e | e
    · exact d1 e
    · exact d2 e
    · exact (hap bw e).2.1 rfl
  have hil : i < l.length := (List.getElem?_eq_some_iff.1 hi).1
  have hxl : x ∈ l := List.mem_of_getElem? hi
  have hyl : y ∈ l := List.mem_of_getElem? hy
  have hdl : Ids l := h.nodup hd e
  have hsp := swapL_perm hi hdl
  have hdL : Ids (x :: L') := Ids.perm hd hp
  have hold : ∀ k' v'' l', k' ≠ part x.2 → S k' = some (v'', l') → ∀ i ∈ ownB v'', i ∉ G := fun k' v'' l' hk e' i hi hm => by
    have ha := h.apart k' v'' l' e' i hi
    rcases hG i hm with e'' | e'' | e''
    · exact ha.2.2.1 e''
    · exact ha.2.2.2.1 e''
    · exact (hap i e'').2.2.2.2 k' v'' l' hk e' hi
  obtain ⟨S', hS'⟩ : ∃ S' : Sl, S' = fun k => if k = part x.2 then (if swapL l i = [] then none else some (v', swapL l i)) else S k := ⟨_, rfl⟩
  have hSo : ∀ k, k ≠ part x.2 → S' k = S k := fun k hk => by rw [hS']; simp [hk]
  have hSx : S' (part x.2) = if swapL l i = [] then none else some (v', swapL l i) := by rw [hS']; simp
  have hSs : ∀ v l', S' (part x.2) = some (v, l') → swapL l i ≠ [] ∧ v = v' ∧ l' = swapL l i := fun v l' h => by
    rw [hSx] at h
    split at h
    · cases h
    · rename_i hne
      cases h
      exact ⟨hne, rfl, rfl⟩
  obtain ⟨P', hP'⟩ : ∃ P' : Pc, P' = fun z => if z = x.1 then none else if z = y.1 then some (part x.2, i) else P z := ⟨_, rfl⟩
  refine ⟨fun i hi => ⟨(hF i hi).1, Nat.lt_of_lt_of_le (hF i hi).2 ht.size⟩, f1, .inr ⟨bs, bp, S', P', (ht.block bw (hF bw f1).2 hbwG).trans h.head, ?_, ?_, fun k v1 l1 e1 => ?_, fun k v1 l1 e1 j hj => ?_, ⟨d1, d2, d3, f1, f2, f3⟩, fun k => ?_, fun id p j => ?_⟩⟩
  · obtain ⟨n, hs⟩ := hs
    refine ⟨n, hs.congr fun z => ?_⟩
    rw [hS']
    by_cases hz : z = part x.2
    · by_cases hn : swapL l i = []
      · simp [hz, hn]
      · simp [hz, hn]
    · simp [hz]
  · refine hpl.congr fun z => ?_
    rw [hP']
    by_cases h1 : z = x.1
    · simp [h1]
    · by_cases h2 : z = y.1
      · show _ = Option.map placeV (if z = x.1 then none else if z = y.1 then some (part x.2, i) else P z)
        rw [if_neg h1, if_pos h2, if_neg h1, if_pos h2]; rfl
      · show _ = Option.map placeV (if z = x.1 then none else if z = y.1 then some (part x.2, i) else P z)
        rw [if_neg h1, if_neg h2, if_neg h1, if_neg h2]
  · by_cases hk : k = part x.2
    · subst hk
      obtain ⟨a1, rfl, rfl⟩ := hSs _ _ e1
      exact ⟨(ho a1).1, a1⟩
    · rw [hSo k hk] at e1
      exact ⟨(h.own k v1 l1 e1).1.turns ht fun g hg => hold k v1 l1 hk e1 g (by unfold ownB; rw [hg]; simp), (h.own k v1 l1 e1).2⟩
  · by_cases hk : k = part x.2
    · subst hk
      obtain ⟨a1, rfl, rfl⟩ := hSs _ _ e1
      obtain ⟨n0, n1, n2, n3, n4⟩ := hap j ((ho a1).2 j hj)
      refine ⟨n0, n1, n2, n3, fun k' v'' l' hk' e' => ?_⟩
      rw [hSo k' hk'] at e'
      exact n4 k' v'' l' hk' e'
    · rw [hSo k hk] at e1
      obtain ⟨n0, n1, n2, n3, n4⟩ := h.apart k v1 l1 e1 j hj
      refine ⟨n0, n1, n2, n3, fun k' v'' l' hk' e' => ?_⟩
      by_cases hk2 : k' = part x.2
      · subst hk2
        obtain ⟨a1, rfl, rfl⟩ := hSs _ _ e'
        exact fun hm => (hap j ((ho a1).2 j hm)).2.2.2.2 k v1 l1 hk e1 hj
      · rw [hSo k' hk2] at e'
        exact n4 k' v'' l' hk' e'
  · have hpf := hp.filter (fun z => decide (part z.2 = k))
    have hpk := h.perm k
    by_cases hk : k = part x.2
    · subst hk
      have hat : S'.at_ (part x.2) = swapL l i := by
        unfold Sl.at_
        rw [hSx]
        by_cases hn : swapL l i = []
        · simp [hn]
        · simp [hn]
      rw [hat]
      rw [List.filter_cons_of_pos (by simp)] at hpf
      unfold Sl.at_ at hpk
      rw [e] at hpk
      exact List.Perm.cons_inv (hsp.symm.trans (hpk.trans hpf))
    · have hat : S'.at_ k = S.at_ k := by
        unfold Sl.at_
        rw [hSo k hk]
      rw [hat]
      rw [List.filter_cons_of_neg (by simp; exact fun e => hk e.symm)] at hpf
      exact hpk.trans hpf
  · have hPx : P x.1 = some (part x.2, i) := (h.place _ _ _).2 ⟨v, l, x, e, hi, rfl⟩
    have hPy : P y.1 = some (part x.2, l.length - 1) := (h.place _ _ _).2 ⟨v, l, y, e, hy, rfl⟩
    have hel : ∀ (j : Nat) (z : Fi), (swapL l i)[j]? = some z → z ∈ l ∧ z.1 ≠ x.1 := fun j z hj => by
      have hz : z ∈ swapL l i := List.mem_of_getElem? hj
      have hzl : z ∈ l := hsp.symm.subset (List.mem_cons_of_mem _ hz)
      have := Ids.perm hdl hsp
      exact ⟨hzl, fun e => (List.pairwise_cons.1 this).1 z hz e.symm⟩
    rw [hP']
    simp only
    by_cases hx1 : id = x.1
    · rw [if_pos hx1]
      constructor
      · intro h'; cases h'
      · rintro ⟨v1, l1, z, e1, hj, hz⟩
        by_cases hk : p = part x.2
        · subst hk
          obtain ⟨a1, rfl, rfl⟩ := hSs _ _ e1
          exact absurd (hz.trans hx1) (hel j z hj).2
        · rw [hSo p hk] at e1
          have hzL := ((h.mem e1 z).1 (List.mem_of_getElem? hj))
          have hxL := ((h.mem e x).1 hxl)
          have := hd.eq hzL.1 hxL.1 (hz.trans hx1)
          subst this
          exact absurd hzL.2.symm (fun h => hk h)
    · rw [if_neg hx1]
      by_cases hy1 : id = y.1
      · rw [if_pos hy1]
        have hil2 : i < l.length - 1 := by
          rcases Nat.lt_or_ge i (l.length - 1) with h1 | h1
          · exact h1
          · have : i = l.length - 1 := by omega
            rw [← this, hi] at hy
            cases hy
            exact absurd hy1 hx1
        have hne : swapL l i ≠ [] := fun h0 => by
          have := swapL_len l i
          rw [h0] at this
          simp at this
          omega
        constructor
        · intro h'
          cases h'
          exact ⟨v', swapL l i, y, by rw [hSx, if_neg hne], by rw [swapL_at hy, if_pos hil2, if_pos rfl], hy1.symm⟩
        · rintro ⟨v1, l1, z, e1, hj, hz⟩
          have hyL := ((h.mem e y).1 hyl)
          by_cases hk : p = part x.2
          · subst hk
            obtain ⟨a1, rfl, rfl⟩ := hSs _ _ e1
            have hzy := hdl.eq (hel j z hj).1 hyl (hz.trans hy1)
            subst hzy
            rw [swapL_at hy] at hj
            by_cases hjl : j < l.length - 1
            · rw [if_pos hjl] at hj
              by_cases hji : j = i
              · rw [hji]
              · rw [if_neg hji] at hj
                have := at_inj hdl.nodup hj hy
                omega
            · rw [if_neg hjl] at hj
              cases hj
          · rw [hSo p hk] at e1
            have hzL := ((h.mem e1 z).1 (List.mem_of_getElem? hj))
            have := hd.eq hzL.1 hyL.1 (hz.trans hy1)
            subst this
            exact absurd (hzL.2.symm.trans hyL.2) hk
      · rw [if_neg hy1, h.place id p j]
        constructor
        · rintro ⟨v1, l1, z, e1, hj, hz⟩
          by_cases hk : p = part x.2
          · subst hk
            rw [e] at e1
            cases e1
            have hjl : j < l.length := (List.getElem?_eq_some_iff.1 hj).1
            have hji : j ≠ i := fun e' => by subst e'; rw [hi] at hj; cases hj; exact hx1 hz.symm
            have hjy : j ≠ l.length - 1 := fun e' => by subst e'; rw [hy] at hj; cases hj; exact hy1 hz.symm
            have hne : swapL l i ≠ [] := fun h0 => by
              have := swapL_len l i
              rw [h0] at this
              simp at this
              omega
            exact ⟨v', swapL l i, z, by rw [hSx, if_neg hne], by rw [swapL_at hy, if_pos (by omega), if_neg hji]; exact hj, hz⟩
          · exact ⟨v1, l1, z, by rw [hSo p hk]; exact e1, hj, hz⟩
        · rintro ⟨v1, l1, z, e1, hj, hz⟩
          by_cases hk : p = part x.2
          · subst hk
            obtain ⟨a1, rfl, rfl⟩ := hSs _ _ e1
            rw [swapL_at hy] at hj
            by_cases hjl : j < l.length - 1
            · rw [if_pos hjl] at hj
              by_cases hji : j = i
              · rw [if_pos hji] at hj
                cases hj
                exact absurd hz.symm hy1
              · rw [if_neg hji] at hj
                exact ⟨v, l, z, e, hj, hz⟩
            · rw [if_neg hjl] at hj
              cases hj
          · rw [hSo p hk] at e1
            exact ⟨v1, l1, z, e1, hj, hz⟩
end Go.Proofs.Ytaepgcicgmbbeaa
