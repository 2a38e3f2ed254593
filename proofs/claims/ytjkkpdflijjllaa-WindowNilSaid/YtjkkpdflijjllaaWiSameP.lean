/- maps.Equal at the program's maps of sums. -/
import Derived.Test.YtjkkpdflijjllaaWiMem
import Derived.Test.YtjkkpdflijjllaaWnSame
import Derived.Test.YtjkkpdflijjllaaWiCred
import Derived.Test.YtjkkpdflijjllaaWnAlike
namespace Go.Proofs.Ytjkkpdflijjllaa
open Go.RowKit

theorem wu_str : Try.prog.underlying 78 = some (.struct (Try.prog.fieldsOf 78)) := by kernel_rfl
theorem wu_stood : Try.prog.stoodInHeld 78 = false := by kernel_rfl
theorem wu_guard : Try.prog.eqGuardType Try.prog.depth 78 = false := by kernel_rfl
theorem wu_named : (Try.prog.fieldsOf 78).toList.map (fun f => (f.name, f.type, f.offset)) = [("increase", 2, 0), ("over", 4, 1)] := by kernel_rfl
theorem wr_str : Try.prog.underlying 61 = some (.struct (Try.prog.fieldsOf 61)) := by kernel_rfl
theorem wr_stood : Try.prog.stoodInHeld 61 = false := by kernel_rfl
theorem wr_guard : Try.prog.eqGuardType Try.prog.depth 61 = false := by kernel_rfl
theorem wr_named : (Try.prog.fieldsOf 61).toList.map (fun f => (f.name, f.type, f.offset)) = [("length", 2, 0), ("lateness", 2, 1), ("most", 3, 2)] := by kernel_rfl
theorem wb_str : Try.prog.underlying 63 = some (.struct (Try.prog.fieldsOf 63)) := by kernel_rfl
theorem wb_stood : Try.prog.stoodInHeld 63 = false := by kernel_rfl
theorem wb_guard : Try.prog.eqGuardType Try.prog.depth 63 = false := by kernel_rfl
theorem wb_named : (Try.prog.fieldsOf 63).toList.map (fun f => (f.name, f.type, f.offset)) = [("floor", 2, 0), ("mark", 2, 1), ("credited", 2, 2), ("late", 2, 3)] := by kernel_rfl
section
variable (a b c d : Int) (o : Bool) (w : World)
theorem wu_part0 : (part 2 #[.int .i64 a, .bool o] 0).run Try.prog w = .ok (.int .i64 a) w := by kernel_rfl
theorem wu_part1 : (part 4 #[.int .i64 a, .bool o] 1).run Try.prog w = .ok (.bool o) w := by kernel_rfl
theorem wr_part0 : (part 2 #[.int .i64 a, .int .i64 b, .int .i64 c] 0).run Try.prog w = .ok (.int .i64 a) w := by kernel_rfl
theorem wr_part1 : (part 2 #[.int .i64 a, .int .i64 b, .int .i64 c] 1).run Try.prog w = .ok (.int .i64 b) w := by kernel_rfl
theorem wr_part2 : (part 3 #[.int .i64 a, .int .i64 b, .int .i64 c] 2).run Try.prog w = .ok (.int .i64 c) w := by kernel_rfl
theorem wb_part0 : (part 2 #[.int .i64 a, .int .i64 b, .int .i64 c, .int .i64 d] 0).run Try.prog w = .ok (.int .i64 a) w := by kernel_rfl
theorem wb_part1 : (part 2 #[.int .i64 a, .int .i64 b, .int .i64 c, .int .i64 d] 1).run Try.prog w = .ok (.int .i64 b) w := by kernel_rfl
theorem wb_part2 : (part 2 #[.int .i64 a, .int .i64 b, .int .i64 c, .int .i64 d] 2).run Try.prog w = .ok (.int .i64 c) w := by kernel_rfl
theorem wb_part3 : (part 2 #[.int .i64 a, .int .i64 b, .int .i64 c, .int .i64 d] 3).run Try.prog w = .ok (.int .i64 d) w := by kernel_rfl
end
set_option maxRecDepth 100000 in
theorem wu_fldE (D : Nat) (a a' : Int) (o o' : Bool) (w : World) : (Op.eqFields (D + 1) #[.int .i64 a, .bool o] #[.int .i64 a', .bool o'] (Try.prog.fieldsOf 78).toList).run Try.prog w = .ok ((a == a') && (o == o')) w := by
  have hf := wu_named
  generalize (Try.prog.fieldsOf 78).toList = fs at hf
  rcases fs with _ | ⟨f0, _ | ⟨f1, _ | ⟨f2, fs⟩⟩⟩
  · cases hf
  · simp at hf
  · simp only [List.map_cons, List.map_nil, List.cons.injEq, Prod.mk.injEq, and_true] at hf
    obtain ⟨⟨n0, t0, o0⟩, n1, t1, o1⟩ := hf
    have ei := fun (x y : Int) (W : World) => run_equalIn_int (P := Try.prog) W D 2 .i64 .i64 x y Try.underlying2
    have eb := fun (x y : Bool) (W : World) => run_equalIn_bool (P := Try.prog) W D 4 x y Try.underlying4
    cases h0 : (a == a') <;> cases h1 : (o == o') <;>
      simp [Op.eqFields, n0, n1, t0, t1, o0, o1, wu_part0, wu_part1, ei, eb, Result.andThen, h0, h1]
  · simp at hf
set_option maxRecDepth 100000 in
theorem wr_fldE (D : Nat) (a a' b b' c c' : Int) (w : World) : (Op.eqFields (D + 1) #[.int .i64 a, .int .i64 b, .int .i64 c] #[.int .i64 a', .int .i64 b', .int .i64 c'] (Try.prog.fieldsOf 61).toList).run Try.prog w = .ok ((a == a') && ((b == b') && (c == c'))) w := by
  have hf := wr_named
  generalize (Try.prog.fieldsOf 61).toList = fs at hf
  rcases fs with _ | ⟨f0, _ | ⟨f1, _ | ⟨f2, _ | ⟨f3, fs⟩⟩⟩⟩
  · cases hf
  · simp at hf
  · simp at hf
  · simp only [List.map_cons, List.map_nil, List.cons.injEq, Prod.mk.injEq, and_true] at hf
    obtain ⟨⟨n0, t0, o0⟩, ⟨n1, t1, o1⟩, n2, t2, o2⟩ := hf
    have ei := fun (x y : Int) (W : World) => run_equalIn_int (P := Try.prog) W D 2 .i64 .i64 x y Try.underlying2
    have en := fun (x y : Int) (W : World) => run_equalIn_int (P := Try.prog) W D 3 .i64 .i64 x y Try.underlying3
    cases h0 : (a == a') <;> cases h1 : (b == b') <;> cases h2 : (c == c') <;>
      simp [Op.eqFields, n0, n1, n2, t0, t1, t2, o0, o1, o2, wr_part0, wr_part1, wr_part2, ei, en, Result.andThen, h0, h1, h2]
  · simp at hf
set_option maxRecDepth 100000 in
theorem wb_fldE (D : Nat) (a a' b b' c c' d d' : Int) (w : World) : (Op.eqFields (D + 1) #[.int .i64 a, .int .i64 b, .int .i64 c, .int .i64 d] #[.int .i64 a', .int .i64 b', .int .i64 c', .int .i64 d'] (Try.prog.fieldsOf 63).toList).run Try.prog w = .ok ((a == a') && ((b == b') && ((c == c') && (d == d')))) w := by
  have hf := wb_named
  generalize (Try.prog.fieldsOf 63).toList = fs at hf
  rcases fs with _ | ⟨f0, _ | ⟨f1, _ | ⟨f2, _ | ⟨f3, _ | ⟨f4, fs⟩⟩⟩⟩⟩
  · cases hf
  · simp at hf
  · simp at hf
  · simp at hf
  · simp only [List.map_cons, List.map_nil, List.cons.injEq, Prod.mk.injEq, and_true] at hf
    obtain ⟨⟨n0, t0, o0⟩, ⟨n1, t1, o1⟩, ⟨n2, t2, o2⟩, n3, t3, o3⟩ := hf
    have ei := fun (x y : Int) (W : World) => run_equalIn_int (P := Try.prog) W D 2 .i64 .i64 x y Try.underlying2
    cases h0 : (a == a') <;> cases h1 : (b == b') <;> cases h2 : (c == c') <;> cases h3 : (d == d') <;>
      simp [Op.eqFields, n0, n1, n2, n3, t0, t1, t2, t3, o0, o1, o2, o3, wb_part0, wb_part1, wb_part2, wb_part3, ei, Result.andThen, h0, h1, h2, h3]
  · simp at hf
theorem wu_neq (a a' : Int) (o o' : Bool) (w : World) : (binOp .neq 78 (.agg #[.int .i64 a, .bool o]) (.agg #[.int .i64 a', .bool o'])).run Try.prog w = .ok (.bool (!((a == a') && (o == o')))) w := by
  have h := wu_fldE 9998 a a' o o' w
  rw [run_neq_struct, run_equalIn_struct (P := Try.prog) w 9999 78 _ _ wu_str wu_stood, h]
  rfl
theorem wr_eql (a a' b b' c c' : Int) (w : World) : (binOp .eql 61 (.agg #[.int .i64 a, .int .i64 b, .int .i64 c]) (.agg #[.int .i64 a', .int .i64 b', .int .i64 c'])).run Try.prog w = .ok (.bool ((a == a') && ((b == b') && (c == c')))) w := by
  have h := wr_fldE 9998 a a' b b' c c' w
  rw [run_eql_struct, run_equalIn_struct (P := Try.prog) w 9999 61 _ _ wr_str wr_stood, h]
  rfl
theorem wb_eql (a a' b b' c c' d d' : Int) (w : World) : (binOp .eql 63 (.agg #[.int .i64 a, .int .i64 b, .int .i64 c, .int .i64 d]) (.agg #[.int .i64 a', .int .i64 b', .int .i64 c', .int .i64 d'])).run Try.prog w = .ok (.bool ((a == a') && ((b == b') && ((c == c') && (d == d'))))) w := by
  have h := wb_fldE 9998 a a' b b' c c' d d' w
  rw [run_eql_struct, run_equalIn_struct (P := Try.prog) w 9999 63 _ _ wb_str wb_stood, h]
  rfl
end Go.Proofs.Ytjkkpdflijjllaa

namespace Go.Proofs.Ytjkkpdflijjllaa
open Go.RowKit Go.Maps Go.Sort Go.Shelf

theorem sub_len {α : Type} {R : α → α → Prop} (irr : ∀ a, ¬ R a a) (tr : ∀ {a b c}, R a b → R b c → R a c) : ∀ {m l : List α}, l.Pairwise R → m.Pairwise R → (∀ x ∈ l, x ∈ m) → l.length ≤ m.length
  | [], [], _, _, _ => Nat.le_refl _
  | [], a :: l, _, _, h => by cases h a (by simp)
  | b :: m, [], _, _, _ => Nat.zero_le _
  | b :: m, a :: l, hl, hm, h => by
    have h1 := List.pairwise_cons.1 hl
    have h2 := List.pairwise_cons.1 hm
    rcases List.mem_cons.1 (h a (by simp)) with e | e
    · subst e
      have := sub_len irr tr h1.2 h2.2 fun x hx => by
        rcases List.mem_cons.1 (h x (by simp [hx])) with e | e
        · subst e
          exact absurd (h1.1 _ hx) (irr _)
        · exact e
      simp
      omega
    · have := sub_len irr tr hl h2.2 fun x hx => by
        rcases List.mem_cons.1 (h x hx) with e2 | e2
        · subst e2
          rcases List.mem_cons.1 hx with e3 | e3
          · subst e3; exact e
          · exact absurd (tr (h1.1 _ e3) (h2.1 _ e)) (irr _)
        · exact e2
      simp at this ⊢
      omega
theorem sub_eq {α : Type} {R : α → α → Prop} (irr : ∀ a, ¬ R a a) (tr : ∀ {a b c}, R a b → R b c → R a c) : ∀ {m l : List α}, l.Pairwise R → m.Pairwise R → (∀ x ∈ l, x ∈ m) → l.length = m.length → l = m
  | [], [], _, _, _, _ => rfl
  | [], a :: l, _, _, h, _ => by cases h a (by simp)
  | b :: m, [], _, _, _, e => by simp at e
  | b :: m, a :: l, hl, hm, h, e => by
    have h1 := List.pairwise_cons.1 hl
    have h2 := List.pairwise_cons.1 hm
    rcases List.mem_cons.1 (h a (by simp)) with e1 | e1
    · subst e1
      rw [sub_eq irr tr h1.2 h2.2 (fun x hx => by
        rcases List.mem_cons.1 (h x (by simp [hx])) with e | e
        · subst e
          exact absurd (h1.1 _ hx) (irr _)
        · exact e) (by simpa using e)]
    · have := sub_len irr tr hl h2.2 fun x hx => by
        rcases List.mem_cons.1 (h x hx) with e2 | e2
        · subst e2
          rcases List.mem_cons.1 hx with e3 | e3
          · subst e3; exact e1
          · exact absurd (tr (h1.1 _ e3) (h2.1 _ e1)) (irr _)
        · exact e2
      simp at this e
      omega
theorem sumV_eq {x y : Cr} (hn : x.name = y.name) (h : sumV x = sumV y) : x = y := by
  obtain ⟨a, b, c⟩ := x
  obtain ⟨a', b', c'⟩ := y
  unfold sumV at h
  simp at h hn
  rw [hn, h.1, h.2]
theorem TelC.sub {f f' : SM} {l m : List Cr} (h : TelC f l) (h' : TelC f' m) (hle : l.length = m.length) (hs : ∀ s v, f s = Option.some v → f' s = Option.some v) : l = m := by
  refine sub_eq (R := fun a b : Cr => kyC a.name < kyC b.name) (fun a => List.lt_irrefl _) (fun h1 h2 => List.lt_trans h1 h2) h.rise h'.rise (fun x hx => ?_) hle
  obtain ⟨y, hy, e1, e2⟩ := h'.some (hs _ _ (h.mem x hx))
  rw [sumV_eq e1.symm e2]
  exact hy
theorem TelC.same {f f' : SM} {l : List Cr} (h : TelC f l) (h' : TelC f' l) (s : ByteArray) : f s = f' s := by
  cases hf : f s with
  | some v =>
    obtain ⟨x, hx, e1, e2⟩ := h.some hf
    have := h'.mem x hx
    rw [e1] at this
    rw [this, e2]
  | none =>
    cases hf' : f' s with
    | none => rfl
    | some v =>
      obtain ⟨x, hx, e1, e2⟩ := h'.some hf'
      exact absurd e1 (h.none hf x hx)
theorem MapS.look_ok {w : World} {g n : Nat} {f : SM} (h : MapS w g f n) {s : ByteArray} (hs : txtKD.ok s) : (Instr.lookup tI (.map (some g)) (.string s) true).run Try.prog w = .ok (.tuple #[(f s).getD (.agg #[.int .i64 0, .bool false]), .bool (f s).isSome]) w :=
  MapG.look_ok txt_keyed undI sumR_inj h (zeroS w) (sumR_mk 0 false) hs
set_option maxRecDepth 100000 in
set_option maxHeartbeats 4000000 in
theorem mapsEqual_any {w : World} {g1 g2 : Nat} {f1 f2 : SM} {l m : List Cr} (h1 : MapS w g1 f1 l.length) (h2 : MapS w g2 f2 m.length) (t1 : TelC f1 l) (t2 : TelC f2 m) :
    Calls Try.prog 41 #[.map (some g1), .map (some g2)] w fun e w' => e = .returned (.bool (decide (l = m))) ∧ Turns [] w w' := by
  have l1 : ∀ ty, (Builtin.len_ #[tI] ty #[.map (some g1)]).run Try.prog w = .ok (.int .i64 l.length) w := fun ty => MapG.len undI h1 ty
  have l2 : ∀ ty, (Builtin.len_ #[tI] ty #[.map (some g2)]).run Try.prog w = .ok (.int .i64 m.length) w := fun ty => MapG.len undI h2 ty
  have HT := Lib.hid (Turns.refl [] w)
  by_cases hne : l.length = m.length
  · have hd : ((l.length : Int) != (m.length : Int)) = false := by simp [hne]
    have H1 := Lib.hid h1
    have H2 := Lib.hid (fun W (hW : Turns [] w W) => h2.turns hW (by simp))
    have T1 := Lib.hid t1
    have T2 := Lib.hid t2
    have HLE := Lib.hid hne
    clear h1 h2 t1 t2 hne
    go_enter Try.func41, Try.ntmps41
    go_wp2_with (at_range; refine wpList_range_g txtKD rfl _ tI rfl 78 txt_keyed undI sumR g1 l.length f1 rfl H1.out ?_; intro w3 hrg3 ht3 hs3)
    go_frame
    have HR3 := Lib.hid hrg3
    have HT3 := Lib.hid ht3
    obtain ⟨r, hr⟩ : ∃ r, r = w.heap.size := ⟨_, rfl⟩
    rw [← hr] at HR3 ⊢
    have HRE := Lib.hid hr
    clear hrg3 ht3 hs3 hr l1 l2
    go_loopw [] (fun wr => ∃ left cnt, RangeG txtKD sumR wr g1 r f1 left cnt ∧ Hid (∀ s v, f1 s = some v → left s = false → f2 s = some v) ∧ Hid (Turns [] w wr)) (fun wr => wr.rangeLeft g1 r)
    case atStart => exact ⟨_, _, HR3.out, Lib.hid (fun s v hs hl => by rw [hs] at hl; cases hl), HT3⟩
    case round =>
      obtain ⟨left, cnt, hrg, HV, HTR⟩ := hrel
      obtain ⟨wo, hwo⟩ : ∃ wo, wo = wr := ⟨_, rfl⟩
      subst hwo
      have HRG := Lib.hid hrg
      clear hrg
      go_wp2_with (at_next; refine wpList_next_g txtKD rfl _ rfl txt_keyed sumR sumR_inj g1 r _ left cnt rfl HRG.out ?_ ?_)
      · intro hl0
        have HE : Hid (decide (l = m) = true) := Lib.hid (decide_eq_true (T1.out.sub T2.out HLE.out fun s v hs => HV.out s v hs (hl0 s)))
        clear hl0
        go_wp2
        go_ret
        exact ⟨by rw [HE.out]; rfl, HTR.out⟩
      · intro s v w4 cnt4 hsx hls hfs hrg4 hlt4 hg4 hs4 hen4
        obtain ⟨c, hc, hcn, hcv⟩ := T1.out.some hfs
        subst hcv
        have hsv : sumV c = .agg #[.int .i64 c.inc, .bool c.over] := rfl
        have htv : txtKD.val s = .string s := rfl
        have HT4 : Hid (Turns [] w w4) := Lib.hid (HTR.out.trans hg4 fun i hi => .inr (by have := HRE.out; simp at hi; omega))
        have hlk : ∀ C, (Instr.lookup tI (.map (some g2)) (.string s) true).run Try.prog (w4.alloc C) = .ok (.tuple #[(f2 s).getD (.agg #[.int .i64 0, .bool false]), .bool (f2 s).isSome]) (w4.alloc C) := fun C => MapS.look_ok (H2.out _ (HT4.out.then (Turns.alloc _ _))) hsx
        have HR4 := Lib.hid hrg4
        have HLT4 := Lib.hid hlt4
        have HLS := Lib.hid hls
        have HFS := Lib.hid hfs
        cases hf2 : f2 s with
        | none =>
          have HE : Hid (decide (l = m) = false) := Lib.hid (decide_eq_false fun e => by
            subst e
            have := T1.out.same T2.out s
            rw [hfs, hf2] at this
            cases this)
          rw [hf2] at hlk
          simp only [Option.getD_none, Option.isSome_none] at hlk
          have HTA := Lib.hid (fun C D => (HT4.out.then (Turns.alloc (F := []) w4 C)).then (Turns.alloc (F := []) (w4.alloc C) D))
          clear hc hcn hs4 hg4 hrg4 hlt4 hls hfs hsx hf2
          go_wp2_with fail
          go_ret
          exact ⟨by rw [HE.out]; rfl, HTA.out _ _⟩
        | some v2 =>
          obtain ⟨d, hd2, hdn, hdv⟩ := T2.out.some hf2
          subst hdv
          rw [hf2] at hlk
          unfold sumV at hlk
          simp only [Option.getD_some, Option.isSome_some] at hlk
          have hnq := wu_neq c.inc d.inc c.over d.over
          have hgd := wu_guard
          have HTA := Lib.hid (fun C D => (HT4.out.then (Turns.alloc (F := []) w4 C)).then (Turns.alloc (F := []) (w4.alloc C) D))
          cases hq : ((c.inc == d.inc) && (c.over == d.over)) with
          | false =>
            have HE : Hid (decide (l = m) = false) := Lib.hid (decide_eq_false fun e => by
              subst e
              have := T1.out.same T2.out s
              rw [hfs, hf2] at this
              have h3 := Option.some.inj this
              unfold sumV at h3
              simp at h3
              simp [h3.1, h3.2] at hq)
            rw [hq] at hnq
            simp only [Bool.not_false] at hnq
            clear hc hcn hs4 hg4 hrg4 hlt4 hls hfs hsx hf2 hd2 hdn hq
            go_wp2_with fail
            go_ret
            exact ⟨by rw [HE.out]; rfl, HTA.out _ _⟩
          | true =>
            have HV2 : Hid (∀ z v, f1 z = some v → (left z && !decide (z = s)) = false → f2 z = some v) := Lib.hid fun z v hz hl => by
              by_cases e : z = s
              · subst e
                rw [hfs] at hz
                cases hz
                rw [hf2]
                simp only [Bool.and_eq_true, beq_iff_eq] at hq
                unfold sumV
                rw [hq.1, hq.2]
              · exact HV.out z v hz (by simpa [e] using hl)
            rw [hq] at hnq
            simp only [Bool.not_true] at hnq
            have HRA := Lib.hid (fun C D => (HR4.out.turns (Turns.alloc (F := []) w4 C) (by simp) (by simp)).turns (Turns.alloc (F := []) (w4.alloc C) D) (by simp) (by simp))
            have HM : Hid (∀ C D, ((w4.alloc C).alloc D).rangeLeft g1 r < wo.rangeLeft g1 r) := Lib.hid fun C D => by rw [(HRA.out C D).left_eq, HRG.out.left_eq]; exact HLT4.out
            clear hc hcn hs4 hg4 hrg4 hlt4 hls hfs hsx hf2 hd2 hdn hq
            go_wp2_with fail
            go_roundw
            case rel => exact ⟨_, _, HRA.out _ _, HV2, Lib.hid (HTA.out _ _)⟩
            case measure => exact HM.out _ _
  · have hd : ((l.length : Int) != (m.length : Int)) = true := by simp; omega
    have HE : Hid (decide (l = m) = false) := Lib.hid (decide_eq_false fun e => hne (by rw [e]))
    clear h1 h2 t1 t2 hne
    go_enter Try.func41, Try.ntmps41
    go_wp2_with fail
    go_ret
    exact ⟨by rw [HE.out]; rfl, HT.out⟩
end Go.Proofs.Ytjkkpdflijjllaa
