/- Package sched: what a nil reference answers; the parameters of the reference; State of a nil scheduler. -/
import Derived.Test.YtjaaljcdaamcjaaGreatDu
namespace Go.Proofs.YtjaaljcdaamcjaaGreat
open Go.RowKit Go.Proofs.YtjaaljcdaamcjaaGreat.Pa
set_option linter.unusedVariables false

set_option maxRecDepth 100000 in
theorem rremove_nil (t : Int) (w : World) : Calls Tryz.prog 82 #[.pointer none, .int .i64 t] w fun e w' => e = .returned (.int .i64 35) ∧ Fr Non w w' := by
  go_enter Tryz.func82, Tryz.ntmps82
  go_wp2
  go_ret
  exact ⟨rfl, by first | exact Fr.refl _ _ | exact frA (Fr.refl _ _)⟩
set_option maxRecDepth 100000 in
theorem rready_nil (t : Int) (w : World) : Calls Tryz.prog 42 #[.pointer none, .int .i64 t] w fun e w' => e = .returned (.int .i64 35) ∧ Fr Non w w' := by
  go_enter Tryz.func42, Tryz.ntmps42
  go_wp2
  go_ret
  exact ⟨rfl, by first | exact Fr.refl _ _ | exact frA (Fr.refl _ _)⟩
set_option maxRecDepth 100000 in
theorem rblock_nil (t : Int) (w : World) : Calls Tryz.prog 84 #[.pointer none, .int .i64 t] w fun e w' => e = .returned (.int .i64 35) ∧ Fr Non w w' := by
  go_enter Tryz.func84, Tryz.ntmps84
  go_wp2
  go_ret
  exact ⟨rfl, by first | exact Fr.refl _ _ | exact frA (Fr.refl _ _)⟩
set_option maxRecDepth 100000 in
theorem ryield_nil (t : Int) (w : World) : Calls Tryz.prog 86 #[.pointer none, .int .i64 t] w fun e w' => e = .returned (.int .i64 35) ∧ Fr Non w w' := by
  go_enter Tryz.func86, Tryz.ntmps86
  go_wp2
  go_ret
  exact ⟨rfl, by first | exact Fr.refl _ _ | exact frA (Fr.refl _ _)⟩
set_option maxRecDepth 100000 in
theorem radd_nil (t p : Int) (v : Array Value) (w : World) : Calls Tryz.prog 41 #[.pointer none, .int .i64 t, .int .i64 p, .agg v] w fun e w' => e = .returned (.int .i64 35) ∧ Fr Non w w' := by
  go_enter Tryz.func41, Tryz.ntmps41
  go_wp2
  go_ret
  exact ⟨rfl, by first | exact Fr.refl _ _ | exact frA (Fr.refl _ _)⟩
set_option maxRecDepth 100000 in
theorem rsetpriority_nil (t p : Int) (w : World) : Calls Tryz.prog 88 #[.pointer none, .int .i64 t, .int .i64 p] w fun e w' => e = .returned (.int .i64 35) ∧ Fr Non w w' := by
  go_enter Tryz.func88, Tryz.ntmps88
  go_wp2
  go_ret
  exact ⟨rfl, by first | exact Fr.refl _ _ | exact frA (Fr.refl _ _)⟩
set_option maxRecDepth 100000 in
theorem rsetparams_nil (t : Int) (v : Array Value) (w : World) : Calls Tryz.prog 90 #[.pointer none, .int .i64 t, .agg v] w fun e w' => e = .returned (.int .i64 35) ∧ Fr Non w w' := by
  go_enter Tryz.func90, Tryz.ntmps90
  go_wp2
  go_ret
  exact ⟨rfl, by first | exact Fr.refl _ _ | exact frA (Fr.refl _ _)⟩
set_option maxRecDepth 100000 in
theorem rpick_nil (t : Int) (v : Value) (w : World) : Calls Tryz.prog 20 #[.pointer none, .int .i64 t, v] w fun e w' => e = .returned (.tuple #[.slice none 0 0, .int .i64 35]) ∧ Fr Non w w' := by
  go_enter Tryz.func20, Tryz.ntmps20
  go_wp2
  go_ret2
  exact ⟨rfl, by first | exact Fr.refl _ _ | exact frA (Fr.refl _ _)⟩
set_option maxRecDepth 100000 in
theorem rcharge_nil (t : Int) (v : Value) (w : World) : Calls Tryz.prog 23 #[.pointer none, .int .i64 t, v] w fun e w' => e = .returned (.int .i64 35) ∧ Fr Non w w' := by
  go_enter Tryz.func23, Tryz.ntmps23
  go_wp2
  go_ret
  exact ⟨rfl, by first | exact Fr.refl _ _ | exact frA (Fr.refl _ _)⟩
set_option maxRecDepth 100000 in
theorem rranking_nil (t : Int) (w : World) : Calls Tryz.prog 38 #[.pointer none, .int .i64 t] w fun e w' => e = .returned (.tuple #[.slice none 0 0, .int .i64 35]) ∧ Fr Non w w' := by
  go_enter Tryz.func38, Tryz.ntmps38
  go_wp2
  go_ret2
  exact ⟨rfl, by first | exact Fr.refl _ _ | exact frA (Fr.refl _ _)⟩
set_option maxRecDepth 100000 in
theorem state_nil (w : World) : Calls Tryz.prog 15 #[.pointer none] w fun e w' => e = .returned (.slice none 0 0) ∧ w = w' := by
  go_enter Tryz.func15, Tryz.ntmps15
  go_wp2
  go_ret
  exact ⟨rfl, rfl⟩
theorem eqnil (w : World) : Calls Tryz.prog 21 #[.slice none 0 0, .slice none 0 0] w fun e w' => e = .returned (.bool true) ∧ Fr Non w w' := by
  refine (Rd.equal_any [] [] w _ _ ⟨none, 0, rfl, .inl rfl⟩ ⟨none, 0, rfl, .inl rfl⟩ (by decide)).mono ?_
  rintro e w' ⟨rfl, hg⟩
  exact ⟨rfl, fr_grown hg (fun _ e => (nomatch e))⟩
set_option maxRecDepth 100000 in
set_option maxHeartbeats 2000000 in
theorem from3_any (p5 p6 p7 p8 : Int) (w : World) : Calls Tryz.prog 91 #[.agg #[.int .i64 p5, .int .i64 p6, .int .i64 p7, .int .i64 p8]] w fun e w' => e = .returned (.agg #[.int .i64 p5, .int .i64 p6, .int .i64 p7, .int .i64 p8]) ∧ Fr Non w w' := by
  go_enter Tryz.func91, Tryz.ntmps91
  go_wp2
  have HR : Hid (RowAt ((w.alloc (.cells #[.int .i64 p5, .int .i64 p6, .int .i64 p7, .int .i64 p8] 39)).alloc (.cells #[.int .i64 p5, .int .i64 p6, .int .i64 p7, .int .i64 p8] 102)) (w.heap.size + 1) 102 #[.int .i64 p5, .int .i64 p6, .int .i64 p7, .int .i64 p8]) := by
    have := RowAt.new (w.alloc (.cells #[.int .i64 p5, .int .i64 p6, .int .i64 p7, .int .i64 p8] 39)) 102 #[.int .i64 p5, .int .i64 p6, .int .i64 p7, .int .i64 p8]
    rw [show (w.alloc (.cells #[.int .i64 p5, .int .i64 p6, .int .i64 p7, .int .i64 p8] 39)).heap.size = w.heap.size + 1 from by simp] at this
    exact this
  have HSZ : Hid ((Tryz.prog.info? 102).map (·.size) = some 4) := by show _ = _; kernel_rfl
  exact bodyPost_ret (v := .agg #[.int .i64 p5, .int .i64 p6, .int .i64 p7, .int .i64 p8]) (results_cell_row rfl _ _ (w.heap.size + 1) 102 _ (0, 0) _ rfl HR.out Tryz.underlying102 rfl HSZ.out) rfl ⟨rfl, frA (frA (Fr.refl _ _))⟩
set_option maxRecDepth 100000 in
set_option maxHeartbeats 4000000 in
theorem from_any (p : PS) (w : World) : Calls Tryz.prog 40 #[.agg p.cells] w fun e w' => (∃ v, e = .returned (.agg v)) ∧ Fr Non w w' := by
  obtain ⟨p0, p1, p2, p3, p4, p5, p6, p7, p8⟩ := p
  have H3 := Lib.hid (from3_any p5 p6 p7 p8)
  unfold PS.cells
  go_enter Tryz.func40, Tryz.ntmps40
  go_upto_region 1 with (fail)
  have HF1 : Hid (Fr Non w ((w.alloc (.cells #[.int .i64 p0, .int .i64 p1, .int .i64 p2, .int .i64 p3, .bool p4, .int .i64 p5, .int .i64 p6, .int .i64 p7, .int .i64 p8] 41)).alloc (.cells #[.int .i64 0, .int .i64 0, .int .i64 0, .int .i64 0, .bool false, .int .i64 0, .int .i64 0, .int .i64 0, .int .i64 0] 104))) := frA (frA (Fr.refl _ _))
  have HX1 : Hid (RowAt ((w.alloc (.cells #[.int .i64 p0, .int .i64 p1, .int .i64 p2, .int .i64 p3, .bool p4, .int .i64 p5, .int .i64 p6, .int .i64 p7, .int .i64 p8] 41)).alloc (.cells #[.int .i64 0, .int .i64 0, .int .i64 0, .int .i64 0, .bool false, .int .i64 0, .int .i64 0, .int .i64 0, .int .i64 0] 104)) w.heap.size 41 #[.int .i64 p0, .int .i64 p1, .int .i64 p2, .int .i64 p3, .bool p4, .int .i64 p5, .int .i64 p6, .int .i64 p7, .int .i64 p8]) := (RowAt.new w _ _).fr (Fr.alloc Non _ _) id
  have HY1 : Hid (RowAt ((w.alloc (.cells #[.int .i64 p0, .int .i64 p1, .int .i64 p2, .int .i64 p3, .bool p4, .int .i64 p5, .int .i64 p6, .int .i64 p7, .int .i64 p8] 41)).alloc (.cells #[.int .i64 0, .int .i64 0, .int .i64 0, .int .i64 0, .bool false, .int .i64 0, .int .i64 0, .int .i64 0, .int .i64 0] 104)) (w.heap.size + 1) 104 #[.int .i64 0, .int .i64 0, .int .i64 0, .int .i64 0, .bool false, .int .i64 0, .int .i64 0, .int .i64 0, .int .i64 0]) := by
    have := RowAt.new (w.alloc (.cells #[.int .i64 p0, .int .i64 p1, .int .i64 p2, .int .i64 p3, .bool p4, .int .i64 p5, .int .i64 p6, .int .i64 p7, .int .i64 p8] 41)) 104 #[.int .i64 0, .int .i64 0, .int .i64 0, .int .i64 0, .bool false, .int .i64 0, .int .i64 0, .int .i64 0, .int .i64 0]
    rw [show (w.alloc (.cells #[.int .i64 p0, .int .i64 p1, .int .i64 p2, .int .i64 p3, .bool p4, .int .i64 p5, .int .i64 p6, .int .i64 p7, .int .i64 p8] 41)).heap.size = w.heap.size + 1 from by simp] at this
    exact this
  generalize World.alloc (World.alloc w _) _ = w1 at HF1 HX1 HY1 ⊢
  obtain ⟨x, hx⟩ : ∃ x, w.heap.size = x := ⟨_, rfl⟩
  have HXX := Lib.hid hx
  rw [hx] at HX1 HY1 ⊢
  clear hx
  generalize hy : x + 1 = y at HY1 ⊢
  have HYY := Lib.hid hy
  clear hy
  have HK : Hid (∀ w2, Fr (fun k => k = y) w1 w2 → w2.cell? ⟨x, 0, none⟩ = some (.int .i64 p0) ∧ w2.cell? ⟨x, 1, none⟩ = some (.int .i64 p1) ∧ w2.cell? ⟨x, 2, none⟩ = some (.int .i64 p2) ∧ w2.cell? ⟨x, 3, none⟩ = some (.int .i64 p3) ∧ w2.cell? ⟨x, 4, none⟩ = some (.bool p4) ∧ w2.cell? ⟨x, 5, none⟩ = some (.int .i64 p5) ∧ w2.cell? ⟨x, 6, none⟩ = some (.int .i64 p6) ∧ w2.cell? ⟨x, 7, none⟩ = some (.int .i64 p7) ∧ w2.cell? ⟨x, 8, none⟩ = some (.int .i64 p8)) := fun w2 f => by
    have q := HX1.out.fr f (by show ¬ (x = y); have := HYY.out; omega)
    exact ⟨q.cell 0, q.cell 1, q.cell 2, q.cell 3, q.cell 4, q.cell 5, q.cell 6, q.cell 7, q.cell 8⟩
  have HKY : Hid (∀ w2, Fr Non w1 w2 → RowAt w2 y 104 #[.int .i64 0, .int .i64 0, .int .i64 0, .int .i64 0, .bool false, .int .i64 0, .int .i64 0, .int .i64 0, .int .i64 0]) := fun w2 f => HY1.out.fr f id
  go_region_held3 (fun w' => w'.cell? ⟨x, 0, none⟩ = some (.int .i64 p0) ∧ w'.cell? ⟨x, 1, none⟩ = some (.int .i64 p1) ∧ w'.cell? ⟨x, 2, none⟩ = some (.int .i64 p2) ∧ w'.cell? ⟨x, 3, none⟩ = some (.int .i64 p3) ∧ w'.cell? ⟨x, 4, none⟩ = some (.bool p4) ∧ w'.cell? ⟨x, 5, none⟩ = some (.int .i64 p5) ∧ w'.cell? ⟨x, 6, none⟩ = some (.int .i64 p6) ∧ w'.cell? ⟨x, 7, none⟩ = some (.int .i64 p7) ∧ w'.cell? ⟨x, 8, none⟩ = some (.int .i64 p8))
    (first | (with_reducible refine HK.out _ ?_; (repeat (first | exact F2.out.mono (fun _ _ e => (nomatch e)) | exact Fr.refl _ _ | (with_reducible refine frD ?_) | (with_reducible refine frY ?_))); (first | done | fail)) | go_keep)
    (first | (go_at_call 91; refine (H3.out _).mono ?_; rintro e w2 ⟨rfl, f2⟩; have F2 : Hid (Fr Non w1 w2) := (frD (Fr.refl _ _)).trans f2; clear f2; have y0 := (HKY.out _ F2.out).cell 0; have y1 := (HKY.out _ F2.out).cell 1; have y2 := (HKY.out _ F2.out).cell 2; have y3 := (HKY.out _ F2.out).cell 3; have y4 := (HKY.out _ F2.out).cell 4; have y5 := (HKY.out _ F2.out).cell 5; have y6 := (HKY.out _ F2.out).cell 6; have y7 := (HKY.out _ F2.out).cell 7; have y8 := (HKY.out _ F2.out).cell 8; have z0 := (HKY.out _ F2.out).frozen 0; have z1 := (HKY.out _ F2.out).frozen 1; have z2 := (HKY.out _ F2.out).frozen 2; have z3 := (HKY.out _ F2.out).frozen 3; have z4 := (HKY.out _ F2.out).frozen 4; have z5 := (HKY.out _ F2.out).frozen 5; have z6 := (HKY.out _ F2.out).frozen 6; have z7 := (HKY.out _ F2.out).frozen 7; have z8 := (HKY.out _ F2.out).frozen 8))
  have HR : Hid (RowAt (((((((((w2.setCell ⟨y, 0, none⟩ (.int .i64 p0)).setCell ⟨y, 1, none⟩ (.int .i64 p1)).setCell ⟨y, 2, none⟩ (.int .i64 p2)).setCell ⟨y, 3, none⟩ (.int .i64 p3)).setCell ⟨y, 4, none⟩ (.bool p4)).setCell ⟨y, 5, none⟩ (.int .i64 p5)).setCell ⟨y, 6, none⟩ (.int .i64 p6)).setCell ⟨y, 7, none⟩ (.int .i64 p7)).setCell ⟨y, 8, none⟩ (.int .i64 p8)) y 104 #[.int .i64 p0, .int .i64 p1, .int .i64 p2, .int .i64 p3, .bool p4, .int .i64 p5, .int .i64 p6, .int .i64 p7, .int .i64 p8]) := by
    have := (RowAt.set (RowAt.set (RowAt.set (RowAt.set (RowAt.set (RowAt.set (RowAt.set (RowAt.set (RowAt.set (HKY.out _ F2.out) 0 (.int .i64 p0)) 1 (.int .i64 p1)) 2 (.int .i64 p2)) 3 (.int .i64 p3)) 4 (.bool p4)) 5 (.int .i64 p5)) 6 (.int .i64 p6)) 7 (.int .i64 p7)) 8 (.int .i64 p8))
    simp only [List.setIfInBounds_toArray, List.set_cons_zero, List.set_cons_succ] at this
    exact this
  have HFY : Hid (Fr (fun k => k = y) w2 (((((((((w2.setCell ⟨y, 0, none⟩ (.int .i64 p0)).setCell ⟨y, 1, none⟩ (.int .i64 p1)).setCell ⟨y, 2, none⟩ (.int .i64 p2)).setCell ⟨y, 3, none⟩ (.int .i64 p3)).setCell ⟨y, 4, none⟩ (.bool p4)).setCell ⟨y, 5, none⟩ (.int .i64 p5)).setCell ⟨y, 6, none⟩ (.int .i64 p6)).setCell ⟨y, 7, none⟩ (.int .i64 p7)).setCell ⟨y, 8, none⟩ (.int .i64 p8))) := frY (frY (frY (frY (frY (frY (frY (frY (frY (Fr.refl _ _)))))))))
  have HSZ : Hid ((Tryz.prog.info? 104).map (·.size) = some 9) := by show _ = _; kernel_rfl
  clear y0 y1 y2 y3 y4 y5 y6 y7 y8 z0 z1 z2 z3 z4 z5 z6 z7 z8
  generalize (((((((((w2.setCell ⟨y, 0, none⟩ (.int .i64 p0)).setCell ⟨y, 1, none⟩ (.int .i64 p1)).setCell ⟨y, 2, none⟩ (.int .i64 p2)).setCell ⟨y, 3, none⟩ (.int .i64 p3)).setCell ⟨y, 4, none⟩ (.bool p4)).setCell ⟨y, 5, none⟩ (.int .i64 p5)).setCell ⟨y, 6, none⟩ (.int .i64 p6)).setCell ⟨y, 7, none⟩ (.int .i64 p7)).setCell ⟨y, 8, none⟩ (.int .i64 p8)) = w9 at HR HFY ⊢
  go_wp2
  exact bodyPost_ret (v := .agg #[.int .i64 p0, .int .i64 p1, .int .i64 p2, .int .i64 p3, .bool p4, .int .i64 p5, .int .i64 p6, .int .i64 p7, .int .i64 p8]) (results_cell_row rfl _ _ y 104 _ (0, 0) _ rfl HR.out Tryz.underlying104 rfl HSZ.out) rfl ⟨⟨_, rfl⟩, Fr.over (HF1.out.trans F2.out) HFY.out (fun k e => .inr (by have e2 : k = y := e; have := HXX.out; have := HYY.out; omega))⟩
end Go.Proofs.YtjaaljcdaamcjaaGreat
