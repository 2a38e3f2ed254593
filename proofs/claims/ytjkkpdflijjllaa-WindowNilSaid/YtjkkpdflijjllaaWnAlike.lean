/- The document's Alike. -/
import Derived.Test.YtjkkpdflijjllaaWnRef
import Derived.Deep.RegionHeld3
namespace Go.Proofs.Ytjkkpdflijjllaa
open Go.RowKit

/-- Have both the same? -/
def alikeW (S T : Ws) : Bool := decide (S.len = T.len ∧ S.lat = T.lat ∧ S.most = T.most ∧ S.floor = T.floor ∧ S.mark = T.mark ∧ S.cred = T.cred ∧ S.late = T.late ∧ S.L = T.L)
set_option maxRecDepth 100000 in
set_option maxHeartbeats 4000000 in
theorem ralike_no0 {B1 B2 : Nat} {w : World} {r1 r2 : Nat} {G1 G2 : List Nat} {v1 v2 : Value} {S T : Ws} (h1 : RefW B1 w r1 G1 v1 S) (h2 : RefW B2 w r2 G2 v2 T) (e0 : ¬ S.len = T.len) :
    Calls Try.prog 23 #[.pointer (some ⟨r1, 0, none⟩), .pointer (some ⟨r2, 0, none⟩)] w fun e w' => e = .returned (.bool false) ∧ Turns [] w w' := by
  obtain ⟨c0, c1, c2, c3, c4, c5, c6, c7, -⟩ := h1.cells
  obtain ⟨d0, d1, d2, d3, d4, d5, d6, d7, -⟩ := h2.cells
  obtain ⟨A, c, rfl, _⟩ := h1.form
  obtain ⟨A2, d, rfl, _⟩ := h2.form
  have HS := Lib.hid (rsameW_any w h1.list h2.list)
  have HTN := Lib.hid (fun n : Nat => (Turns.refl [] w).drewN n)
  have HD : Hid (Turns [] w w.drew) := Lib.hid (Turns.refl [] w).drew
  obtain ⟨HH1, HH2⟩ := And.intro (Lib.hid h1) (Lib.hid h2)
  have HS2 := Lib.hid (fun W (ht : Turns [] w W) => rsameW_any W (h1.list.pre ht) (h2.list.pre ht))
  have HC : Hid (∀ W, Turns [] w W → W.cell? ⟨r1, 0, none⟩ = some (.int .i64 S.len) ∧ W.cell? ⟨r1, 1, none⟩ = some (.int .i64 S.lat) ∧ W.cell? ⟨r1, 2, none⟩ = some (.int .i64 S.most) ∧ W.cell? ⟨r1, 3, none⟩ = some (.slice A S.L.length c) ∧ W.cell? ⟨r1, 4, none⟩ = some (.int .i64 S.floor) ∧ W.cell? ⟨r1, 5, none⟩ = some (.int .i64 S.mark) ∧ W.cell? ⟨r1, 6, none⟩ = some (.int .i64 S.cred) ∧ W.cell? ⟨r1, 7, none⟩ = some (.int .i64 S.late) ∧ W.cell? ⟨r2, 0, none⟩ = some (.int .i64 T.len) ∧ W.cell? ⟨r2, 1, none⟩ = some (.int .i64 T.lat) ∧ W.cell? ⟨r2, 2, none⟩ = some (.int .i64 T.most) ∧ W.cell? ⟨r2, 3, none⟩ = some (.slice A2 T.L.length d) ∧ W.cell? ⟨r2, 4, none⟩ = some (.int .i64 T.floor) ∧ W.cell? ⟨r2, 5, none⟩ = some (.int .i64 T.mark) ∧ W.cell? ⟨r2, 6, none⟩ = some (.int .i64 T.cred) ∧ W.cell? ⟨r2, 7, none⟩ = some (.int .i64 T.late)) := Lib.hid (fun W ht => by
    obtain ⟨c0, c1, c2, c3, c4, c5, c6, c7, -⟩ := (h1.pre ht).cells
    obtain ⟨d0, d1, d2, d3, d4, d5, d6, d7, -⟩ := (h2.pre ht).cells
    exact ⟨c0, c1, c2, c3, c4, c5, c6, c7, d0, d1, d2, d3, d4, d5, d6, d7⟩)
  clear h1 h2 HS
  have g0 : (S.len == T.len) = false := by rw [beq_eq_false_iff_ne]; exact e0
  clear e0
  go_enter Try.func23, Try.ntmps23
  simp only [List.append_eq, List.cons_append, List.nil_append]
  go_wp2_with fail
  go_quiet (fail)
  go_wp2
  go_ret
  exact ⟨rfl, HTN.out _⟩
set_option maxRecDepth 100000 in
set_option maxHeartbeats 4000000 in
theorem ralike_no1 {B1 B2 : Nat} {w : World} {r1 r2 : Nat} {G1 G2 : List Nat} {v1 v2 : Value} {S T : Ws} (h1 : RefW B1 w r1 G1 v1 S) (h2 : RefW B2 w r2 G2 v2 T) (e0 : S.len = T.len) (e1 : ¬ S.lat = T.lat) :
    Calls Try.prog 23 #[.pointer (some ⟨r1, 0, none⟩), .pointer (some ⟨r2, 0, none⟩)] w fun e w' => e = .returned (.bool false) ∧ Turns [] w w' := by
  obtain ⟨c0, c1, c2, c3, c4, c5, c6, c7, -⟩ := h1.cells
  obtain ⟨d0, d1, d2, d3, d4, d5, d6, d7, -⟩ := h2.cells
  obtain ⟨A, c, rfl, _⟩ := h1.form
  obtain ⟨A2, d, rfl, _⟩ := h2.form
  have HS := Lib.hid (rsameW_any w h1.list h2.list)
  have HTN := Lib.hid (fun n : Nat => (Turns.refl [] w).drewN n)
  have HD : Hid (Turns [] w w.drew) := Lib.hid (Turns.refl [] w).drew
  obtain ⟨HH1, HH2⟩ := And.intro (Lib.hid h1) (Lib.hid h2)
  have HS2 := Lib.hid (fun W (ht : Turns [] w W) => rsameW_any W (h1.list.pre ht) (h2.list.pre ht))
  have HC : Hid (∀ W, Turns [] w W → W.cell? ⟨r1, 0, none⟩ = some (.int .i64 S.len) ∧ W.cell? ⟨r1, 1, none⟩ = some (.int .i64 S.lat) ∧ W.cell? ⟨r1, 2, none⟩ = some (.int .i64 S.most) ∧ W.cell? ⟨r1, 3, none⟩ = some (.slice A S.L.length c) ∧ W.cell? ⟨r1, 4, none⟩ = some (.int .i64 S.floor) ∧ W.cell? ⟨r1, 5, none⟩ = some (.int .i64 S.mark) ∧ W.cell? ⟨r1, 6, none⟩ = some (.int .i64 S.cred) ∧ W.cell? ⟨r1, 7, none⟩ = some (.int .i64 S.late) ∧ W.cell? ⟨r2, 0, none⟩ = some (.int .i64 T.len) ∧ W.cell? ⟨r2, 1, none⟩ = some (.int .i64 T.lat) ∧ W.cell? ⟨r2, 2, none⟩ = some (.int .i64 T.most) ∧ W.cell? ⟨r2, 3, none⟩ = some (.slice A2 T.L.length d) ∧ W.cell? ⟨r2, 4, none⟩ = some (.int .i64 T.floor) ∧ W.cell? ⟨r2, 5, none⟩ = some (.int .i64 T.mark) ∧ W.cell? ⟨r2, 6, none⟩ = some (.int .i64 T.cred) ∧ W.cell? ⟨r2, 7, none⟩ = some (.int .i64 T.late)) := Lib.hid (fun W ht => by
    obtain ⟨c0, c1, c2, c3, c4, c5, c6, c7, -⟩ := (h1.pre ht).cells
    obtain ⟨d0, d1, d2, d3, d4, d5, d6, d7, -⟩ := (h2.pre ht).cells
    exact ⟨c0, c1, c2, c3, c4, c5, c6, c7, d0, d1, d2, d3, d4, d5, d6, d7⟩)
  clear h1 h2 HS
  have g0 : (S.len == T.len) = true := by rw [beq_iff_eq]; exact e0
  have g1 : (S.lat == T.lat) = false := by rw [beq_eq_false_iff_ne]; exact e1
  clear e0 e1
  go_enter Try.func23, Try.ntmps23
  simp only [List.append_eq, List.cons_append, List.nil_append]
  go_wp2_with fail
  go_quiet (fail)
  go_wp2
  go_ret
  exact ⟨rfl, HTN.out _⟩
set_option maxRecDepth 100000 in
set_option maxHeartbeats 4000000 in
theorem ralike_no2 {B1 B2 : Nat} {w : World} {r1 r2 : Nat} {G1 G2 : List Nat} {v1 v2 : Value} {S T : Ws} (h1 : RefW B1 w r1 G1 v1 S) (h2 : RefW B2 w r2 G2 v2 T) (e0 : S.len = T.len) (e1 : S.lat = T.lat) (e2 : ¬ S.most = T.most) :
    Calls Try.prog 23 #[.pointer (some ⟨r1, 0, none⟩), .pointer (some ⟨r2, 0, none⟩)] w fun e w' => e = .returned (.bool false) ∧ Turns [] w w' := by
  obtain ⟨c0, c1, c2, c3, c4, c5, c6, c7, -⟩ := h1.cells
  obtain ⟨d0, d1, d2, d3, d4, d5, d6, d7, -⟩ := h2.cells
  obtain ⟨A, c, rfl, _⟩ := h1.form
  obtain ⟨A2, d, rfl, _⟩ := h2.form
  have HS := Lib.hid (rsameW_any w h1.list h2.list)
  have HTN := Lib.hid (fun n : Nat => (Turns.refl [] w).drewN n)
  have HD : Hid (Turns [] w w.drew) := Lib.hid (Turns.refl [] w).drew
  obtain ⟨HH1, HH2⟩ := And.intro (Lib.hid h1) (Lib.hid h2)
  have HS2 := Lib.hid (fun W (ht : Turns [] w W) => rsameW_any W (h1.list.pre ht) (h2.list.pre ht))
  have HC : Hid (∀ W, Turns [] w W → W.cell? ⟨r1, 0, none⟩ = some (.int .i64 S.len) ∧ W.cell? ⟨r1, 1, none⟩ = some (.int .i64 S.lat) ∧ W.cell? ⟨r1, 2, none⟩ = some (.int .i64 S.most) ∧ W.cell? ⟨r1, 3, none⟩ = some (.slice A S.L.length c) ∧ W.cell? ⟨r1, 4, none⟩ = some (.int .i64 S.floor) ∧ W.cell? ⟨r1, 5, none⟩ = some (.int .i64 S.mark) ∧ W.cell? ⟨r1, 6, none⟩ = some (.int .i64 S.cred) ∧ W.cell? ⟨r1, 7, none⟩ = some (.int .i64 S.late) ∧ W.cell? ⟨r2, 0, none⟩ = some (.int .i64 T.len) ∧ W.cell? ⟨r2, 1, none⟩ = some (.int .i64 T.lat) ∧ W.cell? ⟨r2, 2, none⟩ = some (.int .i64 T.most) ∧ W.cell? ⟨r2, 3, none⟩ = some (.slice A2 T.L.length d) ∧ W.cell? ⟨r2, 4, none⟩ = some (.int .i64 T.floor) ∧ W.cell? ⟨r2, 5, none⟩ = some (.int .i64 T.mark) ∧ W.cell? ⟨r2, 6, none⟩ = some (.int .i64 T.cred) ∧ W.cell? ⟨r2, 7, none⟩ = some (.int .i64 T.late)) := Lib.hid (fun W ht => by
    obtain ⟨c0, c1, c2, c3, c4, c5, c6, c7, -⟩ := (h1.pre ht).cells
    obtain ⟨d0, d1, d2, d3, d4, d5, d6, d7, -⟩ := (h2.pre ht).cells
    exact ⟨c0, c1, c2, c3, c4, c5, c6, c7, d0, d1, d2, d3, d4, d5, d6, d7⟩)
  clear h1 h2 HS
  have g0 : (S.len == T.len) = true := by rw [beq_iff_eq]; exact e0
  have g1 : (S.lat == T.lat) = true := by rw [beq_iff_eq]; exact e1
  have g2 : (S.most == T.most) = false := by rw [beq_eq_false_iff_ne]; exact e2
  clear e0 e1 e2
  go_enter Try.func23, Try.ntmps23
  simp only [List.append_eq, List.cons_append, List.nil_append]
  go_wp2_with fail
  go_quiet (fail)
  go_wp2
  go_ret
  exact ⟨rfl, HTN.out _⟩
set_option maxRecDepth 100000 in
set_option maxHeartbeats 4000000 in
theorem ralike_no3 {B1 B2 : Nat} {w : World} {r1 r2 : Nat} {G1 G2 : List Nat} {v1 v2 : Value} {S T : Ws} (h1 : RefW B1 w r1 G1 v1 S) (h2 : RefW B2 w r2 G2 v2 T) (e0 : S.len = T.len) (e1 : S.lat = T.lat) (e2 : S.most = T.most) (e3 : ¬ S.floor = T.floor) :
    Calls Try.prog 23 #[.pointer (some ⟨r1, 0, none⟩), .pointer (some ⟨r2, 0, none⟩)] w fun e w' => e = .returned (.bool false) ∧ Turns [] w w' := by
  obtain ⟨c0, c1, c2, c3, c4, c5, c6, c7, -⟩ := h1.cells
  obtain ⟨d0, d1, d2, d3, d4, d5, d6, d7, -⟩ := h2.cells
  obtain ⟨A, c, rfl, _⟩ := h1.form
  obtain ⟨A2, d, rfl, _⟩ := h2.form
  have HS := Lib.hid (rsameW_any w h1.list h2.list)
  have HTN := Lib.hid (fun n : Nat => (Turns.refl [] w).drewN n)
  have HD : Hid (Turns [] w w.drew) := Lib.hid (Turns.refl [] w).drew
  obtain ⟨HH1, HH2⟩ := And.intro (Lib.hid h1) (Lib.hid h2)
  have HS2 := Lib.hid (fun W (ht : Turns [] w W) => rsameW_any W (h1.list.pre ht) (h2.list.pre ht))
  have HC : Hid (∀ W, Turns [] w W → W.cell? ⟨r1, 0, none⟩ = some (.int .i64 S.len) ∧ W.cell? ⟨r1, 1, none⟩ = some (.int .i64 S.lat) ∧ W.cell? ⟨r1, 2, none⟩ = some (.int .i64 S.most) ∧ W.cell? ⟨r1, 3, none⟩ = some (.slice A S.L.length c) ∧ W.cell? ⟨r1, 4, none⟩ = some (.int .i64 S.floor) ∧ W.cell? ⟨r1, 5, none⟩ = some (.int .i64 S.mark) ∧ W.cell? ⟨r1, 6, none⟩ = some (.int .i64 S.cred) ∧ W.cell? ⟨r1, 7, none⟩ = some (.int .i64 S.late) ∧ W.cell? ⟨r2, 0, none⟩ = some (.int .i64 T.len) ∧ W.cell? ⟨r2, 1, none⟩ = some (.int .i64 T.lat) ∧ W.cell? ⟨r2, 2, none⟩ = some (.int .i64 T.most) ∧ W.cell? ⟨r2, 3, none⟩ = some (.slice A2 T.L.length d) ∧ W.cell? ⟨r2, 4, none⟩ = some (.int .i64 T.floor) ∧ W.cell? ⟨r2, 5, none⟩ = some (.int .i64 T.mark) ∧ W.cell? ⟨r2, 6, none⟩ = some (.int .i64 T.cred) ∧ W.cell? ⟨r2, 7, none⟩ = some (.int .i64 T.late)) := Lib.hid (fun W ht => by
    obtain ⟨c0, c1, c2, c3, c4, c5, c6, c7, -⟩ := (h1.pre ht).cells
    obtain ⟨d0, d1, d2, d3, d4, d5, d6, d7, -⟩ := (h2.pre ht).cells
    exact ⟨c0, c1, c2, c3, c4, c5, c6, c7, d0, d1, d2, d3, d4, d5, d6, d7⟩)
  clear h1 h2 HS
  have g0 : (S.len == T.len) = true := by rw [beq_iff_eq]; exact e0
  have g1 : (S.lat == T.lat) = true := by rw [beq_iff_eq]; exact e1
  have g2 : (S.most == T.most) = true := by rw [beq_iff_eq]; exact e2
  have g3 : (S.floor == T.floor) = false := by rw [beq_eq_false_iff_ne]; exact e3
  clear e0 e1 e2 e3
  go_enter Try.func23, Try.ntmps23
  simp only [List.append_eq, List.cons_append, List.nil_append]
  go_wp2_with fail
  go_quiet (fail)
  go_wp2
  go_ret
  exact ⟨rfl, HTN.out _⟩
set_option maxRecDepth 100000 in
set_option maxHeartbeats 4000000 in
theorem ralike_no4 {B1 B2 : Nat} {w : World} {r1 r2 : Nat} {G1 G2 : List Nat} {v1 v2 : Value} {S T : Ws} (h1 : RefW B1 w r1 G1 v1 S) (h2 : RefW B2 w r2 G2 v2 T) (e0 : S.len = T.len) (e1 : S.lat = T.lat) (e2 : S.most = T.most) (e3 : S.floor = T.floor) (e4 : ¬ S.mark = T.mark) :
    Calls Try.prog 23 #[.pointer (some ⟨r1, 0, none⟩), .pointer (some ⟨r2, 0, none⟩)] w fun e w' => e = .returned (.bool false) ∧ Turns [] w w' := by
  obtain ⟨c0, c1, c2, c3, c4, c5, c6, c7, -⟩ := h1.cells
  obtain ⟨d0, d1, d2, d3, d4, d5, d6, d7, -⟩ := h2.cells
  obtain ⟨A, c, rfl, _⟩ := h1.form
  obtain ⟨A2, d, rfl, _⟩ := h2.form
  have HS := Lib.hid (rsameW_any w h1.list h2.list)
  have HTN := Lib.hid (fun n : Nat => (Turns.refl [] w).drewN n)
  have HD : Hid (Turns [] w w.drew) := Lib.hid (Turns.refl [] w).drew
  obtain ⟨HH1, HH2⟩ := And.intro (Lib.hid h1) (Lib.hid h2)
  have HS2 := Lib.hid (fun W (ht : Turns [] w W) => rsameW_any W (h1.list.pre ht) (h2.list.pre ht))
  have HC : Hid (∀ W, Turns [] w W → W.cell? ⟨r1, 0, none⟩ = some (.int .i64 S.len) ∧ W.cell? ⟨r1, 1, none⟩ = some (.int .i64 S.lat) ∧ W.cell? ⟨r1, 2, none⟩ = some (.int .i64 S.most) ∧ W.cell? ⟨r1, 3, none⟩ = some (.slice A S.L.length c) ∧ W.cell? ⟨r1, 4, none⟩ = some (.int .i64 S.floor) ∧ W.cell? ⟨r1, 5, none⟩ = some (.int .i64 S.mark) ∧ W.cell? ⟨r1, 6, none⟩ = some (.int .i64 S.cred) ∧ W.cell? ⟨r1, 7, none⟩ = some (.int .i64 S.late) ∧ W.cell? ⟨r2, 0, none⟩ = some (.int .i64 T.len) ∧ W.cell? ⟨r2, 1, none⟩ = some (.int .i64 T.lat) ∧ W.cell? ⟨r2, 2, none⟩ = some (.int .i64 T.most) ∧ W.cell? ⟨r2, 3, none⟩ = some (.slice A2 T.L.length d) ∧ W.cell? ⟨r2, 4, none⟩ = some (.int .i64 T.floor) ∧ W.cell? ⟨r2, 5, none⟩ = some (.int .i64 T.mark) ∧ W.cell? ⟨r2, 6, none⟩ = some (.int .i64 T.cred) ∧ W.cell? ⟨r2, 7, none⟩ = some (.int .i64 T.late)) := Lib.hid (fun W ht => by
    obtain ⟨c0, c1, c2, c3, c4, c5, c6, c7, -⟩ := (h1.pre ht).cells
    obtain ⟨d0, d1, d2, d3, d4, d5, d6, d7, -⟩ := (h2.pre ht).cells
    exact ⟨c0, c1, c2, c3, c4, c5, c6, c7, d0, d1, d2, d3, d4, d5, d6, d7⟩)
  clear h1 h2 HS
  have g0 : (S.len == T.len) = true := by rw [beq_iff_eq]; exact e0
  have g1 : (S.lat == T.lat) = true := by rw [beq_iff_eq]; exact e1
  have g2 : (S.most == T.most) = true := by rw [beq_iff_eq]; exact e2
  have g3 : (S.floor == T.floor) = true := by rw [beq_iff_eq]; exact e3
  have g4 : (S.mark == T.mark) = false := by rw [beq_eq_false_iff_ne]; exact e4
  clear e0 e1 e2 e3 e4
  go_enter Try.func23, Try.ntmps23
  simp only [List.append_eq, List.cons_append, List.nil_append]
  go_wp2_with fail
  go_quiet (fail)
  go_wp2
  go_ret
  exact ⟨rfl, HTN.out _⟩
set_option maxRecDepth 100000 in
set_option maxHeartbeats 4000000 in
theorem ralike_no5 {B1 B2 : Nat} {w : World} {r1 r2 : Nat} {G1 G2 : List Nat} {v1 v2 : Value} {S T : Ws} (h1 : RefW B1 w r1 G1 v1 S) (h2 : RefW B2 w r2 G2 v2 T) (e0 : S.len = T.len) (e1 : S.lat = T.lat) (e2 : S.most = T.most) (e3 : S.floor = T.floor) (e4 : S.mark = T.mark) (e5 : ¬ S.cred = T.cred) :
    Calls Try.prog 23 #[.pointer (some ⟨r1, 0, none⟩), .pointer (some ⟨r2, 0, none⟩)] w fun e w' => e = .returned (.bool false) ∧ Turns [] w w' := by
  obtain ⟨c0, c1, c2, c3, c4, c5, c6, c7, -⟩ := h1.cells
  obtain ⟨d0, d1, d2, d3, d4, d5, d6, d7, -⟩ := h2.cells
  obtain ⟨A, c, rfl, _⟩ := h1.form
  obtain ⟨A2, d, rfl, _⟩ := h2.form
  have HS := Lib.hid (rsameW_any w h1.list h2.list)
  have HTN := Lib.hid (fun n : Nat => (Turns.refl [] w).drewN n)
  have HD : Hid (Turns [] w w.drew) := Lib.hid (Turns.refl [] w).drew
  obtain ⟨HH1, HH2⟩ := And.intro (Lib.hid h1) (Lib.hid h2)
  have HS2 := Lib.hid (fun W (ht : Turns [] w W) => rsameW_any W (h1.list.pre ht) (h2.list.pre ht))
  have HC : Hid (∀ W, Turns [] w W → W.cell? ⟨r1, 0, none⟩ = some (.int .i64 S.len) ∧ W.cell? ⟨r1, 1, none⟩ = some (.int .i64 S.lat) ∧ W.cell? ⟨r1, 2, none⟩ = some (.int .i64 S.most) ∧ W.cell? ⟨r1, 3, none⟩ = some (.slice A S.L.length c) ∧ W.cell? ⟨r1, 4, none⟩ = some (.int .i64 S.floor) ∧ W.cell? ⟨r1, 5, none⟩ = some (.int .i64 S.mark) ∧ W.cell? ⟨r1, 6, none⟩ = some (.int .i64 S.cred) ∧ W.cell? ⟨r1, 7, none⟩ = some (.int .i64 S.late) ∧ W.cell? ⟨r2, 0, none⟩ = some (.int .i64 T.len) ∧ W.cell? ⟨r2, 1, none⟩ = some (.int .i64 T.lat) ∧ W.cell? ⟨r2, 2, none⟩ = some (.int .i64 T.most) ∧ W.cell? ⟨r2, 3, none⟩ = some (.slice A2 T.L.length d) ∧ W.cell? ⟨r2, 4, none⟩ = some (.int .i64 T.floor) ∧ W.cell? ⟨r2, 5, none⟩ = some (.int .i64 T.mark) ∧ W.cell? ⟨r2, 6, none⟩ = some (.int .i64 T.cred) ∧ W.cell? ⟨r2, 7, none⟩ = some (.int .i64 T.late)) := Lib.hid (fun W ht => by
    obtain ⟨c0, c1, c2, c3, c4, c5, c6, c7, -⟩ := (h1.pre ht).cells
    obtain ⟨d0, d1, d2, d3, d4, d5, d6, d7, -⟩ := (h2.pre ht).cells
    exact ⟨c0, c1, c2, c3, c4, c5, c6, c7, d0, d1, d2, d3, d4, d5, d6, d7⟩)
  clear h1 h2 HS
  have g0 : (S.len == T.len) = true := by rw [beq_iff_eq]; exact e0
  have g1 : (S.lat == T.lat) = true := by rw [beq_iff_eq]; exact e1
  have g2 : (S.most == T.most) = true := by rw [beq_iff_eq]; exact e2
  have g3 : (S.floor == T.floor) = true := by rw [beq_iff_eq]; exact e3
  have g4 : (S.mark == T.mark) = true := by rw [beq_iff_eq]; exact e4
  have g5 : (S.cred == T.cred) = false := by rw [beq_eq_false_iff_ne]; exact e5
  clear e0 e1 e2 e3 e4 e5
  go_enter Try.func23, Try.ntmps23
  simp only [List.append_eq, List.cons_append, List.nil_append]
  go_wp2_with fail
  go_quiet (fail)
  go_wp2
  go_ret
  exact ⟨rfl, HTN.out _⟩
set_option maxRecDepth 100000 in
set_option maxHeartbeats 4000000 in
theorem ralike_no6 {B1 B2 : Nat} {w : World} {r1 r2 : Nat} {G1 G2 : List Nat} {v1 v2 : Value} {S T : Ws} (h1 : RefW B1 w r1 G1 v1 S) (h2 : RefW B2 w r2 G2 v2 T) (e0 : S.len = T.len) (e1 : S.lat = T.lat) (e2 : S.most = T.most) (e3 : S.floor = T.floor) (e4 : S.mark = T.mark) (e5 : S.cred = T.cred) (e6 : ¬ S.late = T.late) :
    Calls Try.prog 23 #[.pointer (some ⟨r1, 0, none⟩), .pointer (some ⟨r2, 0, none⟩)] w fun e w' => e = .returned (.bool false) ∧ Turns [] w w' := by
  obtain ⟨c0, c1, c2, c3, c4, c5, c6, c7, -⟩ := h1.cells
  obtain ⟨d0, d1, d2, d3, d4, d5, d6, d7, -⟩ := h2.cells
  obtain ⟨A, c, rfl, _⟩ := h1.form
  obtain ⟨A2, d, rfl, _⟩ := h2.form
  have HS := Lib.hid (rsameW_any w h1.list h2.list)
  have HTN := Lib.hid (fun n : Nat => (Turns.refl [] w).drewN n)
  have HD : Hid (Turns [] w w.drew) := Lib.hid (Turns.refl [] w).drew
  obtain ⟨HH1, HH2⟩ := And.intro (Lib.hid h1) (Lib.hid h2)
  have HS2 := Lib.hid (fun W (ht : Turns [] w W) => rsameW_any W (h1.list.pre ht) (h2.list.pre ht))
  have HC : Hid (∀ W, Turns [] w W → W.cell? ⟨r1, 0, none⟩ = some (.int .i64 S.len) ∧ W.cell? ⟨r1, 1, none⟩ = some (.int .i64 S.lat) ∧ W.cell? ⟨r1, 2, none⟩ = some (.int .i64 S.most) ∧ W.cell? ⟨r1, 3, none⟩ = some (.slice A S.L.length c) ∧ W.cell? ⟨r1, 4, none⟩ = some (.int .i64 S.floor) ∧ W.cell? ⟨r1, 5, none⟩ = some (.int .i64 S.mark) ∧ W.cell? ⟨r1, 6, none⟩ = some (.int .i64 S.cred) ∧ W.cell? ⟨r1, 7, none⟩ = some (.int .i64 S.late) ∧ W.cell? ⟨r2, 0, none⟩ = some (.int .i64 T.len) ∧ W.cell? ⟨r2, 1, none⟩ = some (.int .i64 T.lat) ∧ W.cell? ⟨r2, 2, none⟩ = some (.int .i64 T.most) ∧ W.cell? ⟨r2, 3, none⟩ = some (.slice A2 T.L.length d) ∧ W.cell? ⟨r2, 4, none⟩ = some (.int .i64 T.floor) ∧ W.cell? ⟨r2, 5, none⟩ = some (.int .i64 T.mark) ∧ W.cell? ⟨r2, 6, none⟩ = some (.int .i64 T.cred) ∧ W.cell? ⟨r2, 7, none⟩ = some (.int .i64 T.late)) := Lib.hid (fun W ht => by
    obtain ⟨c0, c1, c2, c3, c4, c5, c6, c7, -⟩ := (h1.pre ht).cells
    obtain ⟨d0, d1, d2, d3, d4, d5, d6, d7, -⟩ := (h2.pre ht).cells
    exact ⟨c0, c1, c2, c3, c4, c5, c6, c7, d0, d1, d2, d3, d4, d5, d6, d7⟩)
  clear h1 h2 HS
  have g0 : (S.len == T.len) = true := by rw [beq_iff_eq]; exact e0
  have g1 : (S.lat == T.lat) = true := by rw [beq_iff_eq]; exact e1
  have g2 : (S.most == T.most) = true := by rw [beq_iff_eq]; exact e2
  have g3 : (S.floor == T.floor) = true := by rw [beq_iff_eq]; exact e3
  have g4 : (S.mark == T.mark) = true := by rw [beq_iff_eq]; exact e4
  have g5 : (S.cred == T.cred) = true := by rw [beq_iff_eq]; exact e5
  have g6 : (S.late == T.late) = false := by rw [beq_eq_false_iff_ne]; exact e6
  clear e0 e1 e2 e3 e4 e5 e6
  go_enter Try.func23, Try.ntmps23
  simp only [List.append_eq, List.cons_append, List.nil_append]
  go_wp2_with fail
  go_quiet (fail)
  go_wp2
  go_ret
  exact ⟨rfl, HTN.out _⟩
set_option maxRecDepth 100000 in
set_option maxHeartbeats 4000000 in
theorem ralikeW_any {B1 B2 : Nat} {w : World} {r1 r2 : Nat} {G1 G2 : List Nat} {v1 v2 : Value} {S T : Ws} (h1 : RefW B1 w r1 G1 v1 S) (h2 : RefW B2 w r2 G2 v2 T) :
    Calls Try.prog 23 #[.pointer (some ⟨r1, 0, none⟩), .pointer (some ⟨r2, 0, none⟩)] w fun e w' => e = .returned (.bool (alikeW S T)) ∧ Turns [] w w' := by
  by_cases e0 : S.len = T.len
  case neg =>
    have hA : alikeW S T = false := by unfold alikeW; exact decide_eq_false fun h => e0 (by simp only [h])
    rw [hA]
    exact ralike_no0 h1 h2 e0
  by_cases e1 : S.lat = T.lat
  case neg =>
    have hA : alikeW S T = false := by unfold alikeW; exact decide_eq_false fun h => e1 (by simp only [h])
    rw [hA]
    exact ralike_no1 h1 h2 e0 e1
  by_cases e2 : S.most = T.most
  case neg =>
    have hA : alikeW S T = false := by unfold alikeW; exact decide_eq_false fun h => e2 (by simp only [h])
    rw [hA]
    exact ralike_no2 h1 h2 e0 e1 e2
  by_cases e3 : S.floor = T.floor
  case neg =>
    have hA : alikeW S T = false := by unfold alikeW; exact decide_eq_false fun h => e3 (by simp only [h])
    rw [hA]
    exact ralike_no3 h1 h2 e0 e1 e2 e3
  by_cases e4 : S.mark = T.mark
  case neg =>
    have hA : alikeW S T = false := by unfold alikeW; exact decide_eq_false fun h => e4 (by simp only [h])
    rw [hA]
    exact ralike_no4 h1 h2 e0 e1 e2 e3 e4
  by_cases e5 : S.cred = T.cred
  case neg =>
    have hA : alikeW S T = false := by unfold alikeW; exact decide_eq_false fun h => e5 (by simp only [h])
    rw [hA]
    exact ralike_no5 h1 h2 e0 e1 e2 e3 e4 e5
  by_cases e6 : S.late = T.late
  case neg =>
    have hA : alikeW S T = false := by unfold alikeW; exact decide_eq_false fun h => e6 (by simp only [h])
    rw [hA]
    exact ralike_no6 h1 h2 e0 e1 e2 e3 e4 e5 e6
  obtain ⟨c0, c1, c2, c3, c4, c5, c6, c7, -⟩ := h1.cells
  obtain ⟨d0, d1, d2, d3, d4, d5, d6, d7, -⟩ := h2.cells
  obtain ⟨A, c, rfl, _⟩ := h1.form
  obtain ⟨A2, d, rfl, _⟩ := h2.form
  have HS := Lib.hid (rsameW_any w h1.list h2.list)
  have HTN := Lib.hid (fun n : Nat => (Turns.refl [] w).drewN n)
  have HD : Hid (Turns [] w w.drew) := Lib.hid (Turns.refl [] w).drew
  obtain ⟨HH1, HH2⟩ := And.intro (Lib.hid h1) (Lib.hid h2)
  have HS2 := Lib.hid (fun W (ht : Turns [] w W) => rsameW_any W (h1.list.pre ht) (h2.list.pre ht))
  have HC : Hid (∀ W, Turns [] w W → W.cell? ⟨r1, 0, none⟩ = some (.int .i64 S.len) ∧ W.cell? ⟨r1, 1, none⟩ = some (.int .i64 S.lat) ∧ W.cell? ⟨r1, 2, none⟩ = some (.int .i64 S.most) ∧ W.cell? ⟨r1, 3, none⟩ = some (.slice A S.L.length c) ∧ W.cell? ⟨r1, 4, none⟩ = some (.int .i64 S.floor) ∧ W.cell? ⟨r1, 5, none⟩ = some (.int .i64 S.mark) ∧ W.cell? ⟨r1, 6, none⟩ = some (.int .i64 S.cred) ∧ W.cell? ⟨r1, 7, none⟩ = some (.int .i64 S.late) ∧ W.cell? ⟨r2, 0, none⟩ = some (.int .i64 T.len) ∧ W.cell? ⟨r2, 1, none⟩ = some (.int .i64 T.lat) ∧ W.cell? ⟨r2, 2, none⟩ = some (.int .i64 T.most) ∧ W.cell? ⟨r2, 3, none⟩ = some (.slice A2 T.L.length d) ∧ W.cell? ⟨r2, 4, none⟩ = some (.int .i64 T.floor) ∧ W.cell? ⟨r2, 5, none⟩ = some (.int .i64 T.mark) ∧ W.cell? ⟨r2, 6, none⟩ = some (.int .i64 T.cred) ∧ W.cell? ⟨r2, 7, none⟩ = some (.int .i64 T.late)) := Lib.hid (fun W ht => by
    obtain ⟨c0, c1, c2, c3, c4, c5, c6, c7, -⟩ := (h1.pre ht).cells
    obtain ⟨d0, d1, d2, d3, d4, d5, d6, d7, -⟩ := (h2.pre ht).cells
    exact ⟨c0, c1, c2, c3, c4, c5, c6, c7, d0, d1, d2, d3, d4, d5, d6, d7⟩)
  clear h1 h2 HS
  have g0 : (S.len == T.len) = true := by rw [beq_iff_eq]; exact e0
  have g1 : (S.lat == T.lat) = true := by rw [beq_iff_eq]; exact e1
  have g2 : (S.most == T.most) = true := by rw [beq_iff_eq]; exact e2
  have g3 : (S.floor == T.floor) = true := by rw [beq_iff_eq]; exact e3
  have g4 : (S.mark == T.mark) = true := by rw [beq_iff_eq]; exact e4
  have g5 : (S.cred == T.cred) = true := by rw [beq_iff_eq]; exact e5
  have g6 : (S.late == T.late) = true := by rw [beq_iff_eq]; exact e6
  have HA : Hid (alikeW S T = decide (S.L = T.L)) := Lib.hid (by unfold alikeW; simp [e0, e1, e2, e3, e4, e5, e6])
  clear e0 e1 e2 e3 e4 e5 e6
  go_enter Try.func23, Try.ntmps23
  have hd0 := HC.out w (Turns.refl _ _)
  simp only [List.append_eq, List.cons_append, List.nil_append]
  go_wp2_with fail
  refine wp_region_noPanic ?_
  go_region_held (fun w' => w'.cell? ⟨r1, 0, none⟩ = some (.int .i64 S.len) ∧ w'.cell? ⟨r1, 1, none⟩ = some (.int .i64 S.lat) ∧ w'.cell? ⟨r1, 2, none⟩ = some (.int .i64 S.most) ∧ w'.cell? ⟨r1, 3, none⟩ = some (.slice A S.L.length c) ∧ w'.cell? ⟨r1, 4, none⟩ = some (.int .i64 S.floor) ∧ w'.cell? ⟨r1, 5, none⟩ = some (.int .i64 S.mark) ∧ w'.cell? ⟨r1, 6, none⟩ = some (.int .i64 S.cred) ∧ w'.cell? ⟨r1, 7, none⟩ = some (.int .i64 S.late) ∧ w'.cell? ⟨r2, 0, none⟩ = some (.int .i64 T.len) ∧ w'.cell? ⟨r2, 1, none⟩ = some (.int .i64 T.lat) ∧ w'.cell? ⟨r2, 2, none⟩ = some (.int .i64 T.most) ∧ w'.cell? ⟨r2, 3, none⟩ = some (.slice A2 T.L.length d) ∧ w'.cell? ⟨r2, 4, none⟩ = some (.int .i64 T.floor) ∧ w'.cell? ⟨r2, 5, none⟩ = some (.int .i64 T.mark) ∧ w'.cell? ⟨r2, 6, none⟩ = some (.int .i64 T.cred) ∧ w'.cell? ⟨r2, 7, none⟩ = some (.int .i64 T.late)) (first | exact hd0 | exact hd1 | assumption) ((go_at_call 29; refine (HS2.out _ (by first | exact Turns.refl _ _ | exact (Turns.refl _ _).drew)).mono ?_; rintro e w1 ⟨rfl, ht2⟩; have HT1 := Lib.hid ht2; have hd1 := HC.out w1 (HD.out.then ht2); clear ht2))
  all_goals
    refine NoPanic.normal ?_
    go_wp2
    go_ret
    exact ⟨by rw [HA.out]; rfl, HD.out.then HT1.out⟩
end Go.Proofs.Ytjkkpdflijjllaa
