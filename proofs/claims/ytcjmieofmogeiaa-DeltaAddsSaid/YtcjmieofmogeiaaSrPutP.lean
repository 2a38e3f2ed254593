/- The program's Put, plainly: what has been put so far, what is stale. -/
import Derived.Test.YtcjmieofmogeiaaSrLive
namespace Go.Proofs.Ytcjmieofmogeiaa
open Go.RowKit
variable {hd : Hd}

def RiseL (L : List One) : Prop := (L.map One.name).Pairwise fun a b => ltB a b = true
theorem ltB_irrefl (a : ByteArray) : ltB a a = false := ltN_irrefl _
theorem ltB_trans {a b c : ByteArray} (h1 : ltB a b = true) (h2 : ltB b c = true) : ltB a c = true := ltN_trans h1 h2
theorem ltB_total {a b : ByteArray} (h1 : ltB a b = false) (h2 : ltB b a = false) : a = b := by
  have := ltN_total h1 h2
  obtain ⟨⟨a⟩⟩ := a
  obtain ⟨⟨b⟩⟩ := b
  simp only at this
  rw [this]
theorem RiseL.ne {L : List One} (h : RiseL L) : NamesNe One.name L := by
  unfold RiseL at h
  rw [List.pairwise_map] at h
  exact h.imp fun {a b} hab e => by rw [e, ltB_irrefl] at hab; cases hab
/-- The list and the map tell the same. -/
structure Tel (P : PM) (L : List One) : Prop where
  rise : RiseL L
  mem : ∀ y ∈ L, ∃ g, P y.name = some (g, y.l)
  all : ∀ x q, P x = some q → ∃ y ∈ L, y.name = x ∧ y.l = q.2
theorem Tel.tells {P : PM} {L : List One} (h : Tel P L) : Tells P L := ⟨h.rise.ne, h.mem, h.all⟩
theorem Tel.only {P : PM} {L : List One} (h : Tel P L) {i j : Nat} {y z : One} (hy : L[i]? = some y) (hz : L[j]? = some z) (e : y.name = z.name) : i = j := by
  have hn := List.pairwise_iff_getElem.1 h.rise.ne
  obtain ⟨hi, e1⟩ := List.getElem?_eq_some_iff.1 hy
  obtain ⟨hj, e2⟩ := List.getElem?_eq_some_iff.1 hz
  rcases Nat.lt_trichotomy i j with hl | hl | hl
  · exact absurd (by rw [e1, e2, e]) (hn i j hi hj hl)
  · exact hl
  · exact absurd (by rw [e1, e2, e]) (hn j i hj hi hl)
theorem Tel.none {P : PM} {L : List One} (h : Tel P L) {x : ByteArray} (hp : P x = .none) : ofN x L = .none :=
  ofN_lost fun y hy e => by
    obtain ⟨g, hg⟩ := h.mem y hy
    rw [e, hp] at hg
    cases hg
theorem Tel.some {P : PM} {L : List One} (h : Tel P L) {x : ByteArray} {g : Nat} {l : Lst} (hp : P x = .some (g, l)) : ∃ i y, ofN x L = .some i ∧ L[i]? = .some y ∧ y.name = x ∧ y.l = l := by
  obtain ⟨y, hy, e1, e2⟩ := h.all x _ hp
  obtain ⟨i, hi⟩ := List.getElem?_of_mem hy
  exact ⟨i, y, ofN_here hi e1 (fun j z hj hz e => by have := h.only hi hz (e1.trans e.symm); omega), hi, e1, e2⟩
theorem rise_insert {L : List One} (h : RiseL L) {x : ByteArray} (hx : ∀ y ∈ L, ¬ y.name = x) (v : One) (hv : v.name = x) : RiseL (L.take (atN x L) ++ v :: L.drop (atN x L)) := by
  induction L with
  | nil => unfold RiseL; simp
  | cons y L ih =>
    unfold RiseL at h ih ⊢
    have hc := List.pairwise_cons.1 (by simpa using h : ((y.name) :: L.map One.name).Pairwise fun a b => ltB a b = true)
    unfold atN
    by_cases hy : ltB y.name x = true
    · rw [if_pos hy]
      have ih' := ih hc.2 fun z hz => hx z (List.mem_cons_of_mem _ hz)
      simp only [List.take_succ_cons, List.drop_succ_cons, List.cons_append, List.map_cons]
      refine List.Pairwise.cons (fun a ha => ?_) ih'
      simp only [List.map_append, List.map_cons, List.mem_append, List.mem_cons, List.mem_map] at ha
      rcases ha with ⟨z, hz, rfl⟩ | rfl | ⟨z, hz, rfl⟩
      · exact hc.1 _ (List.mem_map_of_mem (List.mem_of_mem_take hz))
      · rw [hv]; exact hy
      · exact hc.1 _ (List.mem_map_of_mem (List.mem_of_mem_drop hz))
    · rw [if_neg hy]
      have hy' : ltB y.name x = false := by simpa using hy
      have hxy : ltB x y.name = true := by
        cases hh : ltB x y.name with
        | true => rfl
        | false => exact absurd (ltB_total hy' hh) (hx y (List.mem_cons_self ..))
      simp only [List.take_zero, List.nil_append, List.drop_zero, List.map_cons]
      refine List.Pairwise.cons (fun a ha => ?_) (by simpa using h)
      rw [hv]
      rcases List.mem_cons.1 ha with rfl | ha
      · exact hxy
      · exact ltB_trans hxy (hc.1 a ha)
theorem tel_insert {P : PM} {L : List One} (h : Tel P L) {x : ByteArray} (hp : P x = .none) (g : Nat) (l : Lst) : Tel (updM P x (g, l)) (L.take (atN x L) ++ ⟨x, l⟩ :: L.drop (atN x L)) := by
  have hx : ∀ y ∈ L, ¬ y.name = x := fun y hy e => by
    obtain ⟨g, hg⟩ := h.mem y hy
    rw [e, hp] at hg
    cases hg
  have hm : ∀ y, y ∈ L.take (atN x L) ++ (⟨x, l⟩ : One) :: L.drop (atN x L) ↔ y = ⟨x, l⟩ ∨ y ∈ L := fun y => by
    have : y ∈ L ↔ y ∈ L.take (atN x L) ++ L.drop (atN x L) := by rw [List.take_append_drop]
    rw [this]
    simp only [List.mem_append, List.mem_cons]
    constructor
    · rintro (h | h | h)
      · exact .inr (.inl h)
      · exact .inl h
      · exact .inr (.inr h)
    · rintro (h | h | h)
      · exact .inr (.inl h)
      · exact .inl h
      · exact .inr (.inr h)
  refine ⟨rise_insert h.rise hx _ rfl, fun y hy => ?_, fun z q hq => ?_⟩
  · rcases (hm y).1 hy with rfl | hy
    · exact ⟨g, updM_here _ _ _⟩
    · obtain ⟨g', hg'⟩ := h.mem y hy
      exact ⟨g', by rw [updM_ne (hx y hy)]; exact hg'⟩
  · rcases updM_or hq with ⟨rfl, rfl⟩ | ⟨_, hq⟩
    · exact ⟨_, (hm _).2 (.inl rfl), rfl, rfl⟩
    · obtain ⟨y, hy, e⟩ := h.all z q hq
      exact ⟨y, (hm y).2 (.inr hy), e⟩
theorem names_set {L : List One} {i : Nat} {y v : One} (hy : L[i]? = .some y) (hv : v.name = y.name) : (L.set i v).map One.name = L.map One.name := by
  rw [List.map_set, hv]
  apply List.ext_getElem?
  intro j
  by_cases hj : i = j
  · subst hj
    rw [List.getElem?_set_self (by rw [List.length_map]; exact (List.getElem?_eq_some_iff.1 hy).1), List.getElem?_map, hy]
    rfl
  · rw [List.getElem?_set_ne hj]
theorem tel_set {P : PM} {L : List One} (h : Tel P L) {i : Nat} {y : One} (hy : L[i]? = .some y) (g : Nat) (l : Lst) : Tel (updM P y.name (g, l)) (L.set i ⟨y.name, l⟩) := by
  have hil := (List.getElem?_eq_some_iff.1 hy).1
  refine ⟨by unfold RiseL; rw [names_set (v := ⟨y.name, l⟩) hy rfl]; exact h.rise, fun z hz => ?_, fun z q hq => ?_⟩
  · obtain ⟨j, hj⟩ := List.getElem?_of_mem hz
    by_cases e : i = j
    · subst e
      rw [List.getElem?_set_self hil] at hj
      cases hj
      exact ⟨g, updM_here _ _ _⟩
    · rw [List.getElem?_set_ne e] at hj
      obtain ⟨g', hg'⟩ := h.mem z (List.mem_of_getElem? hj)
      exact ⟨g', by rw [updM_ne fun e' => e (h.only hy hj e'.symm)]; exact hg'⟩
  · rcases updM_or hq with ⟨rfl, rfl⟩ | ⟨hne, hq⟩
    · exact ⟨⟨y.name, l⟩, List.mem_of_getElem? (List.getElem?_set_self hil), rfl, rfl⟩
    · obtain ⟨u, hu, e1, e2⟩ := h.all z q hq
      obtain ⟨j, hj⟩ := List.getElem?_of_mem hu
      have hij : i ≠ j := fun e => by
        subst e
        rw [hy] at hj
        cases hj
        exact hne e1.symm
      exact ⟨u, List.mem_of_getElem? (by rw [List.getElem?_set_ne hij]; exact hj), e1, e2⟩
/-- What one sample leaves. -/
structure OneQ [hd : Hd] (B : Nat) (w w' : World) (p b most : Nat) (P P' : PM) (x : Smp) (L' : List One) (G : List Nat) : Prop where
  sm : Sm B w' p b most P' L'.length
  tel : Tel P' L'
  same : ∀ z, z ≠ x.name → P' z = P z
  blk : ∀ q, P' x.name = .some q → (∃ l, P x.name = .some (q.1, l)) ∨ w.heap.size ≤ q.1
  turns : Turns G w w'
  in_ : ∀ i ∈ G, MapP.In b P i ∨ w.heap.size ≤ i
theorem one_of {B : Nat} {w w' : World} {p b most : Nat} {P : PM} {L : List One} {owner : Int} {x : Smp} {e : Ending} (h : Sm B w p b most P L.length) (ht : Tel P L) (hq : PutQ B w p b most P L.length owner x e w') :
    e = .returned (oneP most owner x L).1.val' ∧ ∃ P' G, OneQ B w w' p b most P P' x (oneP most owner x L).2 G := by
  cases hp : P x.name with
  | none =>
    have ho := ht.none hp
    unfold PutQ at hq
    rw [hp] at hq
    have hv : verM most L.length x (Option.map (fun q : Nat × Lst => q.2) Option.none) = if most ≤ L.length then 4 else 1 := rfl
    rw [hv] at hq
    unfold oneP
    rw [ho]
    simp only
    by_cases hm : most ≤ L.length
    · rw [if_pos hm] at hq
      rw [if_pos hm]
      rcases hq with ⟨_, he, htu⟩ | ⟨h4, _⟩
      · exact ⟨he, P, [], ⟨h.pre htu, ht, fun _ _ => rfl, fun q hq => (by rw [hp] at hq; cases hq), htu, by simp⟩⟩
      · exact absurd h4 (by decide)
    · rw [if_neg hm] at hq
      rw [if_neg hm]
      rcases hq with ⟨h1, _⟩ | ⟨_, g, l, was, he, hs, htu⟩
      · exact absurd rfl h1
      · rcases was with h' | ⟨_, hg, hl⟩
        · cases h'
        · refine ⟨by rw [he]; unfold seenM; rw [hl]; rfl, updM P x.name (g, nowL owner x), [b, g], ⟨?_, tel_insert ht hp g _, fun z hz => updM_ne hz, fun q hq => ?_, htu, fun i hi => ?_⟩⟩
          · have hle := atN_le x.name L
            have : (L.take (atN x.name L) ++ (⟨x.name, nowL owner x⟩ : One) :: L.drop (atN x.name L)).length = L.length + 1 := by simp; omega
            rw [this]
            simpa using hs
          · rw [updM_here] at hq
            cases hq
            exact .inr hg
          · rcases List.mem_cons.1 hi with rfl | hi
            · exact .inl (.inl rfl)
            · rw [List.mem_singleton] at hi
              subst hi
              exact .inr hg
  | some q =>
    obtain ⟨g, l⟩ := q
    obtain ⟨i, y, ho, hy, hn, hl⟩ := ht.some hp
    unfold PutQ at hq
    rw [hp] at hq
    have hv : verM most L.length x (Option.map (fun q : Nat × Lst => q.2) (Option.some (g, l))) = if x.tm < l.s.tm then 2 else if x.tm = l.s.tm then 3 else 1 := rfl
    rw [hv] at hq
    unfold oneP
    rw [ho]
    simp only [hy]
    subst hl
    have keep : ∀ v : Int, e = .returned (Sn.val' ⟨x, v, false, 0⟩) ∧ Turns [] w w' → e = .returned (Sn.val' ⟨x, v, false, 0⟩) ∧ ∃ P' G, OneQ B w w' p b most P P' x L G := fun v hh =>
      ⟨hh.1, P, [], ⟨h.pre hh.2, ht, fun _ _ => rfl, fun q hq => .inl ⟨q.2, hq⟩, hh.2, by simp⟩⟩
    by_cases h1 : x.tm < y.l.s.tm
    · rw [if_pos h1] at hq
      rw [if_pos h1]
      rcases hq with ⟨_, hh⟩ | ⟨h4, _⟩
      · exact keep _ hh
      · exact absurd h4 (by decide)
    · rw [if_neg h1] at hq
      rw [if_neg h1]
      by_cases h2 : x.tm = y.l.s.tm
      · rw [if_pos h2] at hq
        rw [if_pos h2]
        rcases hq with ⟨_, hh⟩ | ⟨h4, _⟩
        · exact keep _ hh
        · exact absurd h4 (by decide)
      · rw [if_neg h2] at hq
        rw [if_neg h2]
        rcases hq with ⟨h1, _⟩ | ⟨_, g', l', was, he, hs, htu⟩
        · exact absurd rfl h1
        · rcases was with h' | ⟨h', _⟩
          · cases h'
            refine ⟨by rw [he]; unfold seenM; rfl, updM P x.name (g, nowL owner x), [b, g], ⟨?_, ?_, fun z hz => updM_ne hz, fun q hq => ?_, htu, fun i hi => ?_⟩⟩
            · rw [List.length_set]
              simpa using hs
            · rw [← hn]
              exact tel_set ht hy g _
            · rw [updM_here] at hq
              cases hq
              exact .inl ⟨_, hp⟩
            · rcases List.mem_cons.1 hi with rfl | hi
              · exact .inl (.inl rfl)
              · rw [List.mem_singleton] at hi
                subst hi
                exact .inl (.inr ⟨_, _, hp, rfl⟩)
          · cases h'
end Go.Proofs.Ytcjmieofmogeiaa

namespace Go.Proofs.Ytcjmieofmogeiaa
open Go.RowKit
variable {hd : Hd}

/-- The program's store, told by its series. -/
structure Sr0 (hd : Hd) (B : Nat) (w : World) (p b : Nat) (F : List Nat) (most : Nat) (P : PM) (L : List One) : Prop where
  sm : Sm B w p b most P L.length
  tel : Tel P L
  cov : ∀ i, i = p ∨ MapP.In b P i → i ∈ F
  foot : ∀ i ∈ F, B ≤ i ∧ i < w.heap.size
abbrev Sr [hd : Hd] (B : Nat) (w : World) (p b : Nat) (F : List Nat) (most : Nat) (P : PM) (L : List One) : Prop := Sr0 hd B w p b F most P L
theorem own_cells {α : Type} {K : EK α} {B : Nat} {w : World} {v : Value} {l : List α} (h : K.Own B w v l) : ∀ i ∈ ownB v, ∃ cur, w.heap[i]? = some (.cells cur K.te (0, 0)) := by
  intro i hi
  rcases h.2 with ⟨rfl, _⟩ | ⟨g, cap, cur, rfl, _, hg, _⟩
  · cases hi
  · have : i = g := by simpa [ownB, Value.ownBlock] using hi
    subst this
    exact ⟨cur, hg⟩
theorem MapG.blk {k : TypeId} {κ : Type} {T : KD k κ} {R : RdV} {w : World} {b n : Nat} {f : κ → Option Value} (h : MapG T R w b f n) : ∃ es clock, w.heap[b]? = some (.map es clock) := by
  obtain ⟨D, ⟨es, clock, hb, _⟩, _⟩ := h
  exact ⟨es, clock, hb⟩
theorem RangeG.not_cells {k : TypeId} {κ : Type} {T : KD k κ} {R : RdV} {w : World} {b r : Nat} {f : κ → Option Value} {left : κ → Bool} {cnt : Nat} (h : RangeG T R w b r f left cnt) {g : Nat} {C : Array Value} {t : TypeId} {fr : Nat × Nat} (hg : w.heap[g]? = some (.cells C t fr)) : b ≠ g ∧ r ≠ g := by
  obtain ⟨n, D, lf, ⟨es, clock, since, seen, c0, hb, _, _, _, hr, _⟩, _⟩ := h
  constructor
  · rintro rfl
    rw [hb] at hg
    cases hg
  · rintro rfl
    rw [hr] at hg
    cases hg
theorem seen_last : nK.te ≠ lK.te := by show (71 : Nat) ≠ 88; decide
section
variable {B : Nat} {w W W' : World} {p b bu most n : Nat} {F : List Nat} {P P' : PM} {L : List One} {owner : Int} {la lb : List Smp} {r : List Sn × List One} {o : Value}
/-- A row of verdicts is apart from the store's blocks. -/
theorem own_not_in (h : Sm B W p b most P n) {l : List Sn} (ho : nK.Own B W o l) : ∀ i ∈ ownB o, i ≠ p ∧ ¬ MapP.In b P i := by
  intro i hi
  obtain ⟨cur, hc⟩ := own_cells ho i hi
  refine ⟨?_, ?_⟩
  · rintro rfl
    rw [h.head] at hc
    injection hc with e
    injection e with _ e _
    exact absurd e hd.ne
  · rintro (rfl | ⟨x, q, hq, rfl⟩)
    · obtain ⟨es, cl, hm⟩ := h.map.map.blk
      rw [hm] at hc
      cases hc
    · rw [(h.map.blk x q hq).1] at hc
      injection hc with e
      injection e with _ e _
      exact absurd e.symm seen_last
theorem map_not_in (h : Sm B W p b most P n) {f : ByteArray → Option Value} {c : Nat} (hm : MapG nameKD pread W bu f c) (hb : bu ≠ b) : bu ≠ p ∧ ¬ MapP.In b P bu := by
  obtain ⟨es, cl, hc⟩ := hm.blk
  refine ⟨?_, ?_⟩
  · rintro rfl
    rw [h.head] at hc
    cases hc
  · rintro (e | ⟨x, q, hq, rfl⟩)
    · exact hb e
    · rw [(h.map.blk x q hq).1] at hc
      cases hc
theorem map_not_own {f : ByteArray → Option Value} {c : Nat} (hm : MapG nameKD pread W bu f c) {l : List Sn} (ho : nK.Own B W o l) : bu ∉ ownB o := by
  obtain ⟨es, cl, hc⟩ := hm.blk
  intro hi
  obtain ⟨cur, hc'⟩ := own_cells ho bu hi
  rw [hc] at hc'
  cases hc'
/-- What has been put so far: la is deleted from what was live, lb may have been written. -/
structure PutJ [hd : Hd] (B : Nat) (w : World) (p b bu most : Nat) (F : List Nat) (P : PM) (owner : Int) (la lb : List Smp) (r : List Sn × List One) (o : Value) (W : World) (P' : PM) : Prop where
  out : nK.Own w.heap.size W o r.1
  sm : Sm B W p b most P' r.2.length
  tel : Tel P' r.2
  un : ∃ c, MapG nameKD pread W bu (fun x => if amongB la x = true then none else mineM owner (P x)) c
  same : ∀ x, amongB lb x = false → P' x = P x
  blk : ∀ x q, P' x = some q → MapP.In b P q.1 ∨ w.heap.size ≤ q.1
  tt : Turns F w W
  new : w.heap.size ≤ bu ∧ b < w.heap.size ∧ B ≤ w.heap.size
theorem PutJ.nb (h : PutJ B w p b bu most F P owner la lb r o W P') : bu ≠ b := by have := h.new; omega
theorem PutJ.next (h : PutJ B w p b bu most F P owner la lb r o W P') (ht : Turns [] W W') : PutJ B w p b bu most F P owner la lb r o W' P' :=
  ⟨h.out.turns ht (by simp), h.sm.pre ht, h.tel, let ⟨c, hc⟩ := h.un; ⟨c, hc.turns ht (by simp)⟩, h.same, h.blk, h.tt.trans ht (by simp), h.new⟩
theorem PutJ.start (h : Sr B w p b F most P L) (hB : B ≤ w.heap.size) (ht : Turns [] w W) (hbu : w.heap.size ≤ bu) (hu : ∃ c, MapG nameKD pread W bu (fun x => mineM owner (P x)) c) : PutJ B w p b bu most F P owner [] [] ([], L) (.slice none 0 0) W P :=
  ⟨World.ownsRow_nil _ _ _ _, h.sm.pre ht, h.tel, let ⟨c, hc⟩ := hu; ⟨c, hc.congr fun x => rfl⟩, fun _ _ => rfl, fun x q hq => .inl (.inr ⟨x, q, hq, rfl⟩), ht.mono (by simp), hbu, h.sm.map.map.lt, hB⟩
theorem among_snoc (l : List Smp) (x : Smp) (n : ByteArray) : amongB (l ++ [x]) n = (amongB l n || eqN x.name n) := by
  unfold amongB
  simp
theorem PutJ.one (h : PutJ B w p b bu most F P owner la lb r o W P') (hF : ∀ i, MapP.In b P i → i ∈ F) {x : Smp} {P2 : PM} {L2 : List One} {G : List Nat} (hq : OneQ B W W' p b most P' P2 x L2 G) : PutJ B w p b bu most F P owner la (lb ++ [x]) (r.1, L2) o W' P2 := by
  have hG : ∀ i ∈ G, i ∈ F ∨ w.heap.size ≤ i := fun i hi => by
    rcases hq.in_ i hi with (rfl | ⟨z, q, hz, rfl⟩) | h2
    · exact .inl (hF _ (.inl rfl))
    · exact (h.blk z q hz).imp (hF _) id
    · exact .inr (Nat.le_trans h.tt.size h2)
  refine ⟨h.out.turns hq.turns fun g hg hm => ?_, hq.sm, hq.tel, ?_, fun z hz => ?_, fun z q hz => ?_, h.tt.trans hq.turns hG, h.new⟩
  · have hm' : g ∈ ownB o := by unfold ownB; rw [hg]; simp
    have hlow : B ≤ w.heap.size := h.new.2.2
    rcases hq.in_ g hm with h2 | h2
    · exact (own_not_in h.sm (h.out.low hlow) g hm').2 h2
    · have := (h.out.foot g hm').2; omega
  · obtain ⟨c, hc⟩ := h.un
    refine ⟨c, hc.turns hq.turns fun hm => ?_⟩
    rcases hq.in_ bu hm with h2 | h2
    · exact (map_not_in h.sm hc h.nb).2 h2
    · have := hc.lt; omega
  · rw [among_snoc, Bool.or_eq_false_iff] at hz
    rw [hq.same z fun e => by rw [e, eqN_self] at hz; exact absurd hz.2 (by simp)]
    exact h.same z hz.1
  · by_cases e : z = x.name
    · subst e
      rcases hq.blk q hz with ⟨l, h2⟩ | h2
      · exact h.blk _ (q.1, l) h2
      · exact .inr (Nat.le_trans h.tt.size h2)
    · rw [hq.same z e] at hz
      exact h.blk z q hz
theorem PutJ.app (h : PutJ B w p b bu most F P owner la lb r o W P') {o' : Value} {s : Sn} (ho : nK.Own w.heap.size W' o' (r.1 ++ [s])) (ht : Turns (ownB o) W W') : PutJ B w p b bu most F P owner la lb (r.1 ++ [s], r.2) o' W' P' := by
  have hn := own_not_in h.sm (h.out.low h.new.2.2)
  obtain ⟨c, hc⟩ := h.un
  exact ⟨ho, h.sm.turns ht (fun hm => (hn p hm).1 rfl) (fun i hi => (hn i hi).2), h.tel, ⟨c, hc.turns ht (map_not_own hc h.out)⟩, h.same, h.blk, h.tt.trans ht fun i hi => .inr (h.out.foot i hi).1, h.new⟩
theorem PutJ.del (h : PutJ B w p b bu most F P owner la lb r o W P') {x : Smp} (hx : NmOk x.name) (ty : TypeId) :
    ∃ W', (Builtin.delete_ #[64, 9] ty #[.map (some bu), .string x.name]).run Try.prog W = .ok (.tuple #[]) W' ∧ PutJ B w p b bu most F P owner (la ++ [x]) lb r o W' P' := by
  obtain ⟨c, hc⟩ := h.un
  obtain ⟨W', hrun, hm, htu⟩ := hc.drop (t := 64) (e := 91) sm_keyed Try.underlying64 hx.key ty
  have hni := map_not_in h.sm hc h.nb
  refine ⟨W', hrun, ⟨h.out.turns htu fun g hg hi => ?_, h.sm.turns htu (by simpa using Ne.symm hni.1) (by intro i hi; rw [List.mem_singleton] at hi; subst hi; exact hni.2), h.tel, ⟨_, hm.congr fun z => ?_⟩, h.same, h.blk, h.tt.trans htu fun i hi => .inr (by rw [List.mem_singleton] at hi; rw [hi]; exact h.new.1), h.new⟩⟩
  · rw [List.mem_singleton] at hi
    subst hi
    exact map_not_own hc h.out (by unfold ownB; rw [hg]; simp)
  · rw [among_snoc]
    by_cases e : z = x.name
    · subst e
      rw [if_pos rfl, eqN_self, Bool.or_true, if_pos rfl]
    · rw [if_neg e, eqN_no (Ne.symm e), Bool.or_false]
/-- Which are stale. -/
def dieM (V : ByteArray → Bool) (P : PM) : PM := fun x => if V x = true then (P x).map fun q => (q.1, ⟨q.2.s, false, q.2.own⟩) else P x
def dieB (V : ByteArray → Bool) (y : One) : One := if V y.name = true then ⟨y.name, ⟨y.l.s, false, y.l.own⟩⟩ else y
theorem dieB_name (V : ByteArray → Bool) (y : One) : (dieB V y).name = y.name := by unfold dieB; split <;> rfl
theorem dieM_some {V : ByteArray → Bool} {P : PM} {x : ByteArray} {q : Nat × Lst} (h : dieM V P x = some q) : ∃ l, P x = some (q.1, l) := by
  unfold dieM at h
  split at h
  · cases hp : P x with
    | none => rw [hp] at h; cases h
    | some u => rw [hp] at h; cases h; exact ⟨_, rfl⟩
  · exact ⟨_, h⟩
theorem tel_die {P : PM} {L : List One} (h : Tel P L) (V : ByteArray → Bool) : Tel (dieM V P) (L.map (dieB V)) := by
  refine ⟨?_, fun y hy => ?_, fun x q hq => ?_⟩
  · unfold RiseL
    rw [List.map_map, show (One.name ∘ dieB V) = One.name from funext fun y => dieB_name V y]
    exact h.rise
  · obtain ⟨u, hu, rfl⟩ := List.mem_map.1 hy
    obtain ⟨g, hg⟩ := h.mem u hu
    refine ⟨g, ?_⟩
    rw [dieB_name]
    unfold dieM dieB
    split
    · rw [hg]; rfl
    · exact hg
  · obtain ⟨l, hl⟩ := dieM_some hq
    obtain ⟨y, hy, e1, e2⟩ := h.all x _ hl
    refine ⟨dieB V y, List.mem_map_of_mem hy, by rw [dieB_name]; exact e1, ?_⟩
    obtain ⟨qg, ql⟩ := q
    unfold dieM at hq
    unfold dieB
    rw [e1]
    rw [hl] at hq
    split at hq
    · rename_i hv
      simp only [Option.map_some, Option.some.injEq, Prod.mk.injEq, true_and] at hq
      rw [if_pos hv, e2, hq]
    · rename_i hv
      simp only [Option.some.injEq, Prod.mk.injEq, true_and] at hq
      rw [if_neg hv, e2, hq]
/-- What is stale behind a scrape. -/
theorem stale_eq {P P' : PM} {L : List One} {owner : Int} {l : List Smp} (ht : Tel P' L) (same : ∀ x, amongB l x = false → P' x = P x) :
    L.map (dieB fun x => (if amongB l x = true then none else mineM owner (P x)).isSome) = L.map (staleB owner l) := by
  refine List.map_congr_left fun y hy => ?_
  obtain ⟨g, hg⟩ := ht.mem y hy
  unfold dieB staleB
  show (if (if amongB l y.name = true then none else mineM owner (P y.name)).isSome = true then _ else _) = _
  cases ha : amongB l y.name with
  | true => rw [if_pos rfl, if_neg (by simp), if_neg (by simp)]
  | false =>
    have hP := same y.name ha
    rw [hg] at hP
    rw [if_neg (show ¬ (false = true) by simp), ← hP]
    by_cases ho : y.l.own = owner
    · by_cases hv : y.l.live = true
      · rw [mine_yes hv ho, if_pos (by simp), if_pos ⟨ho, rfl⟩]
      · rw [mine_no (fun h => hv h.1), if_neg (by simp), if_pos ⟨ho, rfl⟩]
        obtain ⟨nm, ⟨s, lv, ow⟩⟩ := y
        simp at hv
        subst hv
        rfl
    · rw [mine_no (fun h => ho h.2), if_neg (by simp), if_neg (fun h => ho h.1)]
end
end Go.Proofs.Ytcjmieofmogeiaa
