/- Jobs and hosts that were seen: a set keyed by a struct. -/
import Derived.Test.YtnbghappfclnjaaGreatTurns
import Derived.Test.YtnbghappfclnjaaGreatCfMem
import Derived.Maps.OwnSet
import Derived.DeepKeys4
namespace Go.Proofs.YtnbghappfclnjaaGreat
open Go.RowKit

theorem who_laid : laidOutB Tryz.prog = true := by kernel_rfl
theorem who_row : (71 : TypeId) < Tryz.prog.types.size := of_decide_eq_true (by kernel_rfl)
theorem who_keyT : Tryz.prog.keyType 71 = true := by kernel_rfl
theorem who_wide : (match Tryz.prog.underlying 71 with | some (.array _ _) | some (.struct _) => true | _ => false) = true := by kernel_rfl
theorem who_deepT : Tryz.prog.keyTypeAt 2 71 = true := by kernel_rfl
set_option maxRecDepth 100000 in
theorem whoK : Maps.Keyed Tryz.prog 71 := Maps.Keyed.of_law (deep_law_laid who_laid (m := 2) (by omega) who_row who_deepT who_wide)
theorem who_map : Tryz.prog.underlying 69 = some (.map 71 72) := Tryz.underlying69
theorem who_zero (w : World) : (zeroValue 72).run Tryz.prog w = .ok (.agg #[]) w := by kernel_rfl
theorem who_str : Tryz.prog.underlying 71 = some (.struct (Tryz.prog.fieldsOf 71)) := by kernel_rfl
theorem who_cells : Tryz.prog.cellsOf 71 = 2 := by kernel_rfl
theorem str_cells : Tryz.prog.cellsOf 9 = 1 := by kernel_rfl
theorem who_named : (Tryz.prog.fieldsOf 71).toList.map (fun f => (f.name, f.type, f.offset)) = [("job", 9, 0), ("host", 9, 1)] := by kernel_rfl
theorem who_plain : (Tryz.prog.fieldsOf 71).all (·.name != "_") = true := by kernel_rfl
theorem deep_of {n : Nat} (h : 0 < n) : ∃ m, n + 1 = m + 2 := ⟨n - 1, by omega⟩
theorem who_deep : ∃ m, Tryz.prog.types.size + 1 = m + 2 := deep_of (Nat.lt_of_le_of_lt (Nat.zero_le _) who_row)
def whoV (j h : ByteArray) : Value := .agg #[.string j, .string h]
theorem who_lits (m : Nat) (j h : ByteArray) (hj : j.size ≤ maxLen) (hh : h.size ≤ maxLen) : Tryz.prog.keyLits (m + 2) 71 [.string j, .string h] = some [.string j.data.toList, .string h.data.toList] := by
  have hf := who_named
  have hp := who_plain
  have hs := who_str
  have ej : Tryz.prog.keyLits (m + 1) 9 [.string j] = some [.string j.data.toList] := by
    simp only [Program.keyLits, Tryz.underlying9, if_pos hj]
  have eh : Tryz.prog.keyLits (m + 1) 9 [.string h] = some [.string h.data.toList] := by
    simp only [Program.keyLits, Tryz.underlying9, if_pos hh]
  generalize Tryz.prog.fieldsOf 71 = fs at hf hp hs
  obtain ⟨fs⟩ := fs
  simp only at hf
  rcases fs with _ | ⟨f0, _ | ⟨f1, _ | ⟨f2, fs⟩⟩⟩
  · cases hf
  · simp at hf
  · simp only [List.map_cons, List.map_nil, List.cons.injEq, Prod.mk.injEq, and_true] at hf
    obtain ⟨⟨n0, t0, o0⟩, n1, t1, o1⟩ := hf
    unfold Program.keyLits
    rw [hs]
    simp only [who_cells, List.length_cons, List.length_nil, hp, and_self, if_true]
    simp [t0, t1, o0, o1, str_cells, ej, eh]
  · simp at hf
theorem who_key (j h : ByteArray) (hj : j.size ≤ maxLen) (hh : h.size ≤ maxLen) : ∃ l, keyOf Tryz.prog 71 (whoV j h) = some l := by
  obtain ⟨m, hm⟩ := who_deep
  refine ⟨.string (keyBytes [.string j.data.toList, .string h.data.toList]), ?_⟩
  unfold keyOf
  rw [who_str]
  simp only
  rw [if_pos (by
    rw [who_keyT]
    unfold Value.formed whoV
    simp [who_str, who_cells]), hm]
  show (Tryz.prog.keyLits (m + 2) 71 [.string j, .string h]).map _ = _
  rw [who_lits m j h hj hh]
  rfl
theorem whoV_inj {j h j' h' : ByteArray} (e : whoV j h = whoV j' h') : j = j' ∧ h = h' := by
  unfold whoV at e
  simp at e
  exact e
/-- The set in block b holds just the pairs of S. -/
def SetV (w : World) (b : Nat) (S : ByteArray → ByteArray → Prop) (n : Nat) : Prop :=
  ∃ D : DataW Unit, w.ownsMap Tryz.prog 71 unitElem b n D ∧ ∀ j h l, keyOf Tryz.prog 71 (whoV j h) = some l → (Maps.has D l = true ↔ S j h)
section
variable {w w' : World} {b n : Nat} {S : ByteArray → ByteArray → Prop}
theorem SetV.made (w : World) : SetV (w.alloc (.map #[] 0)) w.heap.size (fun _ _ => False) 0 :=
  ⟨.map [], World.ownsMap_made w _ _ _, fun _ _ _ _ => ⟨fun h => (by cases h), fun h => h.elim⟩⟩
theorem SetV.lt (h : SetV w b S n) : b < w.heap.size := by
  obtain ⟨D, ho, _⟩ := h
  exact ho.lt
theorem SetV.turns {F : List Nat} (h : SetV w b S n) (ht : Turns F w w') (hb : b ∉ F) : SetV w' b S n := by
  obtain ⟨D, ho, h2⟩ := h
  have hlt := ho.lt
  obtain ⟨es, clock, h1, r⟩ := ho
  exact ⟨D, ⟨es, clock, (ht.block b hlt hb).trans h1, r⟩, h2⟩
theorem SetV.congr {S' : ByteArray → ByteArray → Prop} (h : SetV w b S n) (e : ∀ j h, S j h ↔ S' j h) : SetV w b S' n := by
  obtain ⟨D, ho, h2⟩ := h
  exact ⟨D, ho, fun j h l hl => (h2 j h l hl).trans (e j h)⟩
theorem SetV.look (h : SetV w b S n) {j u : ByteArray} (hj : j.size ≤ maxLen) (hu : u.size ≤ maxLen) :
    ∃ r : Bool, (Instr.lookup 69 (.map (some b)) (.agg #[.string j, .string u]) true).run Tryz.prog w = .ok (.tuple #[.agg #[], .bool r]) w ∧ (r = true ↔ S j u) := by
  obtain ⟨D, ho, h2⟩ := h
  obtain ⟨l, hl⟩ := who_key j u hj hu
  obtain ⟨v, ps, hrun, hv⟩ := ho.look_ok whoK who_map (who_zero w) unitElem_mk hl
  obtain ⟨rfl, _⟩ := unitElem_inv hv
  exact ⟨_, hrun, h2 j u l hl⟩
theorem SetV.store (h : SetV w b S n) (hn : n < maxLen) {j u : ByteArray} (hj : j.size ≤ maxLen) (hu : u.size ≤ maxLen) :
    ∃ w', (Instr.mapUpdate 69 (.map (some b)) (.agg #[.string j, .string u]) (.agg #[])).run Tryz.prog w = .ok () w' ∧ SetV w' b (fun j' u' => (j' = j ∧ u' = u) ∨ S j' u') (n + 1) ∧ Turns [b] w w' := by
  obtain ⟨D, ho, h2⟩ := h
  obtain ⟨l, hl⟩ := who_key j u hj hu
  have hkl := whoK.key hl
  obtain ⟨w', hrun, r1, r2⟩ := ho.update whoK who_map hn hl unitElem_mk
  refine ⟨w', hrun, ⟨_, r1, fun j' u' l' hl' => ?_⟩, Turns.of_grown r2⟩
  by_cases e : l' = l
  · subst e
    obtain ⟨e1, e2⟩ := whoV_inj (whoK.inj hl' hl)
    rw [Maps.has_put_same ho.isMap hkl]
    exact ⟨fun _ => .inl ⟨e1, e2⟩, fun _ => rfl⟩
  · rw [Maps.has_put_other e, h2 j' u' l' hl']
    refine ⟨.inr, fun h' => h'.resolve_left fun ⟨e1, e2⟩ => e ?_⟩
    subst e1 e2
    rw [hl] at hl'
    exact (Option.some.inj hl').symm
end
end Go.Proofs.YtnbghappfclnjaaGreat
