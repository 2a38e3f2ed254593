/- A program's windows by what its calls do, apart from how they lie in memory; a pair of it and the document's. -/
import Derived.Test.YtjkkpdflijjllaaWnAdd
import Derived.Test.YtjkkpdflijjllaaWnClock
import Derived.Test.YtjkkpdflijjllaaWnAlike
namespace Go.Proofs.Ytjkkpdflijjllaa
open Go.RowKit

abbrev ptrW (b : Nat) : Value := .pointer (some ⟨b, 0, none⟩)
def I64 (n : Int) : Prop := -9223372036854775808 ≤ n ∧ n ≤ 9223372036854775807
structure WiC where
  At : Nat → World → Nat → List Nat → Ws → Prop
  foot : ∀ {B w p F S}, At B w p F S → ∀ i ∈ F, B ≤ i ∧ i < w.heap.size
  low : ∀ {B B' w p F S}, At B' w p F S → B ≤ B' → At B w p F S
  turns : ∀ {B w w' p F S} {G : List Nat}, At B w p F S → Turns G w w' → (∀ i ∈ F, i ∉ G) → At B w' p F S
  new : ∀ (len lat most : Int) (w : World), I64 len → I64 lat → I64 most → Calls Try.prog 9 #[.int .i64 len, .int .i64 lat, .int .i64 most] w fun e w' => (mayW len lat most = 0 → ∃ p F, e = .returned (.tuple #[ptrW p, .int .i64 0]) ∧ At w.heap.size w' p F (newW len lat most)) ∧ (mayW len lat most ≠ 0 → e = .returned (.tuple #[.pointer none, .int .i64 (mayW len lat most)])) ∧ Turns [] w w'
  note : ∀ {B w p F S N}, At B w p F S → B ≤ w.heap.size → WsOk S N → ∀ t, I64 t → Calls Try.prog 15 #[ptrW p, .int .i64 t] w fun e w' => e = .returned (.tuple #[]) ∧ ∃ F', At B w' p F' (noteW S t) ∧ Turns F w w' ∧ ∀ i ∈ F', i ∈ F ∨ w.heap.size ≤ i
  add : ∀ {B w p F S N}, At B w p F S → B ≤ w.heap.size → WsOk S N → N ≤ 1000 → ∀ (name : ByteArray) (tm inc : Int) (rs : Bool), name.size ≤ 140737488355328 → I64 tm → I64 inc → Calls Try.prog 16 #[ptrW p, .agg #[.string name, .int .i64 tm, .int .i64 inc, .bool rs]] w fun e w' => ∃ o F' H, e = .returned (.tuple #[.bool (addW S name tm inc).1, o]) ∧ WnL w' H o (addW S name tm inc).2.1 ∧ At B w' p F' (addW S name tm inc).2.2 ∧ Turns F w w' ∧ (∀ i ∈ F', i ∈ F ∨ w.heap.size ≤ i) ∧ ∀ i ∈ H, (i ∈ F ∨ w.heap.size ≤ i) ∧ i ∉ F'
  clock : ∀ {B w p F S N}, At B w p F S → B ≤ w.heap.size → WsOk S N → N ≤ 1000 → ∀ now, I64 now → Calls Try.prog 17 #[ptrW p, .int .i64 now] w fun e w' => ∃ o F' H, e = .returned o ∧ WnL w' H o (clockW S now).1 ∧ At B w' p F' (clockW S now).2 ∧ Turns F w w' ∧ (∀ i ∈ F', i ∈ F ∨ w.heap.size ≤ i) ∧ ∀ i ∈ H, (i ∈ F ∨ w.heap.size ≤ i) ∧ i ∉ F'
  opened : ∀ {B w p F S N}, At B w p F S → WsOk S N → N ≤ 1000 → Calls Try.prog 18 #[ptrW p] w fun e w' => ∃ o H, e = .returned o ∧ WnL w' H o S.L ∧ Turns [] w w' ∧ ∀ i ∈ H, w.heap.size ≤ i
  floor : ∀ {B w p F S}, At B w p F S → Calls Try.prog 24 #[ptrW p] w fun e w' => e = .returned (.int .i64 S.floor) ∧ Turns [] w w'
  mark : ∀ {B w p F S}, At B w p F S → Calls Try.prog 25 #[ptrW p] w fun e w' => e = .returned (.int .i64 S.mark) ∧ Turns [] w w'
  counts : ∀ {B w p F S}, At B w p F S → Calls Try.prog 19 #[ptrW p] w fun e w' => e = .returned (.tuple #[.int .i64 S.cred, .int .i64 S.late]) ∧ Turns [] w w'
  copy : ∀ {B w p F S N}, At B w p F S → WsOk S N → N ≤ 1000 → Calls Try.prog 20 #[ptrW p] w fun e w' => ∃ q G, e = .returned (ptrW q) ∧ At w.heap.size w' q G S ∧ Turns [] w w'
  same : ∀ {B1 B2 w p q F G S T N M}, At B1 w p F S → At B2 w q G T → WsOk S N → WsOk T M → N ≤ 1000 → M ≤ 1000 → Calls Try.prog 22 #[ptrW p, ptrW q] w fun e w' => e = .returned (.bool (alikeW S T)) ∧ Turns [] w w'
/-- A program's windows and the document's; beside them blocks that stay. -/
def PairN (C : WiC) (Q : List Nat) (b : Base) (X : World) (p : Nat) (S1 : Ws) (rv : Nat) (S2 : Ws) : Prop :=
  ∃ F G v, C.At b.w.heap.size X p F S1 ∧ RefW b.w.heap.size X rv G v S2 ∧ (∀ i ∈ F, i ∉ rv :: G) ∧ Turns [] b.w X ∧ Stay b X (F ++ [rv]) ∧ ∀ i ∈ Q, i < b.Z.heap.size ∧ i ∉ G
section
variable {C : WiC} {Q : List Nat} {b : Base} {X Y Z : World} {p rv N : Nat} {S S1 S2 : Ws}
theorem WiC.pre (C : WiC) {B w w' p F S} (h : C.At B w p F S) (ht : Turns [] w w') : C.At B w' p F S := C.turns h ht (by simp)
theorem PairN.turns (h : PairN C Q b X p S1 rv S2) : Turns [] b.w X := by
  obtain ⟨F, G, v, _, _, _, h, _⟩ := h
  exact h
theorem PairN.stays (h : PairN C Q b X p S1 rv S2) : ∀ k ∈ b.K, X.heap[k]? = b.Z.heap[k]? := by
  obtain ⟨F, G, v, _, _, _, _, s, _⟩ := h
  exact fun k hk => s.block hk
theorem PairN.pre (h : PairN C Q b X p S1 rv S2) (ht : Turns [] X Y) : PairN C Q b Y p S1 rv S2 := by
  obtain ⟨F, G, v, a1, a2, d, t, s, hq⟩ := h
  exact ⟨F, G, v, C.pre a1 ht, a2.pre ht, d, t.then ht, s.pre ht, hq⟩
theorem RefW.foot' {B : Nat} {w : World} {rv : Nat} {G : List Nat} {v : Value} {S : Ws} (h : RefW B w rv G v S) : ∀ i ∈ rv :: G, B ≤ i ∧ i < w.heap.size := fun i hi => by
  rcases List.mem_cons.1 hi with rfl | hi
  · exact ⟨h.low, h.lt⟩
  · exact h.foot i hi
/-- The program's has turned. -/
theorem pairN_prog (h : PairN C Q b X p S1 rv S2) {F F' G : List Nat} {v : Value} (a1 : C.At b.w.heap.size X p F S1) (a2 : RefW b.w.heap.size X rv G v S2) (d : ∀ i ∈ F, i ∉ rv :: G) (t : Turns [] b.w X) (s : Stay b X (F ++ [rv])) (hq : ∀ i ∈ Q, i < b.Z.heap.size ∧ i ∉ G) {S' : Ws} (a' : C.At b.w.heap.size Z p F' S') (tz : Turns F X Z) (hf : ∀ i ∈ F', i ∈ F ∨ X.heap.size ≤ i) : PairN C Q b Z p S' rv S2 := by
  refine ⟨F', G, v, a', a2.turns tz (fun hm => d rv hm (by simp)) (fun i hi hm => d i hm (by simp [hi])), fun i hi hm => ?_, t.trans tz fun i hi => .inr (C.foot a1 i hi).1, s.next tz (fun i hi => List.mem_append.2 (.inl hi)) (fun i hi => ?_), hq⟩
  · rcases hf i hi with h1 | h1
    · exact d i h1 hm
    · have := (a2.foot' i hm).2; omega
  · rcases List.mem_append.1 hi with h1 | h1
    · exact (hf i h1).imp (fun h => List.mem_append.2 (.inl h)) id
    · exact .inl (List.mem_append.2 (.inr h1))
/-- The document's has turned. -/
theorem pairN_ref {F G G' : List Nat} {v v' : Value} (a1 : C.At b.w.heap.size X p F S1) (a2 : RefW b.w.heap.size X rv G v S2) (d : ∀ i ∈ F, i ∉ rv :: G) (t : Turns [] b.w X) (s : Stay b X (F ++ [rv])) (hq : ∀ i ∈ Q, i < b.Z.heap.size ∧ i ∉ G) {S' : Ws} (a' : RefW b.w.heap.size Z rv G' v' S') (tz : Turns [rv] X Z) (hf : ∀ i ∈ G', i ∈ G ∨ X.heap.size ≤ i) : PairN C Q b Z p S1 rv S' := by
  refine ⟨F, G', v', C.turns a1 tz (fun i hi hm => d i hi (by rw [List.mem_singleton] at hm; simp [hm])), a', fun i hi hm => ?_, t.trans tz fun i hi => .inr (by rw [List.mem_singleton] at hi; rw [hi]; exact a2.low), s.next tz (fun i hi => by rw [List.mem_singleton] at hi; simp [hi]) (fun i hi => .inl hi), fun i hi => ⟨(hq i hi).1, fun hm => ?_⟩⟩
  · rcases List.mem_cons.1 hm with rfl | hm
    · exact d _ hi (by simp)
    · rcases hf i hm with h1 | h1
      · exact d i hi (by simp [h1])
      · have := (C.foot a1 i hi).2; omega
  · rcases hf i hm with h1 | h1
    · exact (hq i hi).2 h1
    · have := (hq i hi).1
      have := s.1
      omega
theorem pairN_note (h : PairN C Q b X p S1 rv S2) (hok : WsOk S1 N) (t : Int) (ht : I64 t) : Calls Try.prog 15 #[ptrW p, .int .i64 t] X fun e Z => e = .returned (.tuple #[]) ∧ PairN C Q b Z p (noteW S1 t) rv S2 := by
  obtain ⟨F, G, v, a1, a2, d, tt, s, hq⟩ := id h
  refine (C.note a1 tt.size hok t ht).mono ?_
  rintro e Z ⟨rfl, F', a', tz, hf⟩
  exact ⟨rfl, pairN_prog h a1 a2 d tt s hq a' tz hf⟩
theorem pairN_rnote (h : PairN C Q b X p S1 rv S2) (t : Int) : Calls Try.prog 27 #[ptrW rv, .int .i64 t] X fun e Z => e = .returned (.tuple #[]) ∧ PairN C Q b Z p S1 rv (noteW S2 t) := by
  obtain ⟨F, G, v, a1, a2, d, tt, s, hq⟩ := h
  refine (rnoteW_any a2 t).mono ?_
  rintro e Z ⟨rfl, a', tz⟩
  exact ⟨rfl, pairN_ref a1 a2 d tt s hq a' tz fun i hi => .inl hi⟩
theorem pairN_add (h : PairN C Q b X p S1 rv S2) (hok : WsOk S1 N) (hN : N ≤ 1000) (name : ByteArray) (tm inc : Int) (rs : Bool) (hn : name.size ≤ 140737488355328) (ht : I64 tm) (hi : I64 inc) :
    Calls Try.prog 16 #[ptrW p, .agg #[.string name, .int .i64 tm, .int .i64 inc, .bool rs]] X fun e Z => ∃ o H, e = .returned (.tuple #[.bool (addW S1 name tm inc).1, o]) ∧ WnL Z H o (addW S1 name tm inc).2.1 ∧ (∀ i ∈ H, i ∉ [rv]) ∧ PairN C Q b Z p (addW S1 name tm inc).2.2 rv S2 := by
  obtain ⟨F, G, v, a1, a2, d, tt, s, hq⟩ := id h
  refine (C.add a1 tt.size hok hN name tm inc rs hn ht hi).mono ?_
  rintro e Z ⟨o, F', H, rfl, hl, a', tz, hf, hH⟩
  refine ⟨o, H, rfl, hl, fun i hi hm => ?_, pairN_prog h a1 a2 d tt s hq a' tz hf⟩
  rw [List.mem_singleton] at hm
  rcases (hH i hi).1 with h1 | h1
  · exact d i h1 (by simp [hm])
  · have := a2.lt; omega
theorem pairN_radd (h : PairN C Q b X p S1 rv S2) (hok : WsOk S2 N) (hN : N ≤ 1000) (name : ByteArray) (tm inc : Int) (rs : Bool) (ht : I64 tm) (hi : I64 inc) :
    Calls Try.prog 28 #[ptrW rv, .agg #[.string name, .int .i64 tm, .int .i64 inc, .bool rs]] X fun e Z => ∃ o H, e = .returned (.tuple #[.bool (addW S2 name tm inc).1, o]) ∧ WnL Z H o (addW S2 name tm inc).2.1 ∧ Turns [rv] X Z ∧ PairN C Q b Z p S1 rv (addW S2 name tm inc).2.2 := by
  obtain ⟨F, G, v, a1, a2, d, tt, s, hq⟩ := h
  refine (raddW_any a2 tt.size hok (by omega) name tm inc rs hi ht).mono ?_
  rintro e Z ⟨o, v', G', H, rfl, hl, a', tz, hf, hH⟩
  exact ⟨o, H, rfl, hl, tz, pairN_ref a1 a2 d tt s hq a' tz hf⟩
theorem pairN_clock (h : PairN C Q b X p S1 rv S2) (hok : WsOk S1 N) (hN : N ≤ 1000) (now : Int) (hn : I64 now) :
    Calls Try.prog 17 #[ptrW p, .int .i64 now] X fun e Z => ∃ o H, e = .returned o ∧ WnL Z H o (clockW S1 now).1 ∧ (∀ i ∈ H, i ∉ [rv]) ∧ PairN C Q b Z p (clockW S1 now).2 rv S2 := by
  obtain ⟨F, G, v, a1, a2, d, tt, s, hq⟩ := id h
  refine (C.clock a1 tt.size hok hN now hn).mono ?_
  rintro e Z ⟨o, F', H, rfl, hl, a', tz, hf, hH⟩
  refine ⟨o, H, rfl, hl, fun i hi hm => ?_, pairN_prog h a1 a2 d tt s hq a' tz hf⟩
  rw [List.mem_singleton] at hm
  rcases (hH i hi).1 with h1 | h1
  · exact d i h1 (by simp [hm])
  · have := a2.lt; omega
theorem pairN_rclock (h : PairN C Q b X p S1 rv S2) (hok : WsOk S2 N) (now : Int) :
    Calls Try.prog 30 #[ptrW rv, .int .i64 now] X fun e Z => ∃ o H, e = .returned o ∧ WnL Z H o (clockW S2 now).1 ∧ Turns [rv] X Z ∧ PairN C Q b Z p S1 rv (clockW S2 now).2 := by
  obtain ⟨F, G, v, a1, a2, d, tt, s, hq⟩ := h
  refine (rclockW_any a2 tt.size hok now).mono ?_
  rintro e Z ⟨o, v', G', H, rfl, hl, a', tz, hf, hH⟩
  exact ⟨o, H, rfl, hl, tz, pairN_ref a1 a2 d tt s hq a' tz hf⟩
end
/-- An act. -/
structure Ac where
  kind : Int
  n : Int
  name : ByteArray
  tm : Int
  inc : Int
  rs : Bool
def Ac.gain (a : Ac) : Value := .agg #[.string a.name, .int .i64 a.tm, .int .i64 a.inc, .bool a.rs]
def Ac.Ok (a : Ac) : Prop := a.name.size ≤ 140737488355328 ∧ I64 a.n ∧ I64 a.tm ∧ I64 a.inc
def actW (S : Ws) (a : Ac) : Ws :=
  if a.kind = 1 then noteW S a.n else if a.kind = 2 then (addW S a.name a.tm a.inc).2.2 else if a.kind = 3 then (clockW S a.n).2 else S
theorem WsOk.act {S : Ws} {N : Nat} (h : WsOk S N) (a : Ac) (ha : a.Ok) : WsOk (actW S a) (N + 1) := by
  unfold actW
  split
  · exact (h.note _).mono (Nat.le_succ _)
  · split
    · exact h.add _ _ _ ha.2.2.2.2
    · split
      · exact (h.clock _).mono (Nat.le_succ _)
      · exact h.mono (Nat.le_succ _)
end Go.Proofs.Ytjkkpdflijjllaa
