/- Package sched: a call of a nil scheduler and of a nil reference. -/
import Derived.Test.YtjaaljcdaamcjaaGreatDv
namespace Go.Proofs.YtjaaljcdaamcjaaGreat
open Go.RowKit Go.Proofs.YtjaaljcdaamcjaaGreat.Pa
set_option linter.unusedVariables false

theorem size_act : (Tryz.prog.info? 44).map (·.size) = some 15 := by kernel_rfl
set_option maxRecDepth 100000 in
set_option maxHeartbeats 4000000 in
theorem change_nil (d gp rw th pi p0 p1 p2 p3 : Int) (p4 : Bool) (p5 p6 p7 p8 : Int) (le : Option Addr) (lm lc : Nat) (hd0 : 0 ≤ d) (hd1 : d < 256) (W : World) : Calls Tryz.prog 39 #[.pointer none, .pointer none, .agg #[.int .u8 d, .int .u8 gp, .int .i64 rw, .int .i64 th, .int .i64 pi, .int .i64 p0, .int .i64 p1, .int .i64 p2, .int .i64 p3, .bool p4, .int .i64 p5, .int .i64 p6, .int .i64 p7, .int .i64 p8, .slice le lm lc]] W fun e w' => e = .returned (.bool true) ∧ Fr Non W w' := by
  have HFR : Hid (∀ w, Calls Tryz.prog 40 #[.agg #[.int .i64 p0, .int .i64 p1, .int .i64 p2, .int .i64 p3, .bool p4, .int .i64 p5, .int .i64 p6, .int .i64 p7, .int .i64 p8]] w fun e w' => (∃ v, e = .returned (.agg v)) ∧ Fr Non w w') := fun w => from_any ⟨p0, p1, p2, p3, p4, p5, p6, p7, p8⟩ w
  go_enter Tryz.func39, Tryz.ntmps39
  go_upto_region 1 with (fail)
  have HF1 : Hid (Fr Non W (W.alloc (.cells #[.int .u8 d, .int .u8 gp, .int .i64 rw, .int .i64 th, .int .i64 pi, .int .i64 p0, .int .i64 p1, .int .i64 p2, .int .i64 p3, .bool p4, .int .i64 p5, .int .i64 p6, .int .i64 p7, .int .i64 p8, .slice le lm lc] 44))) := frA (Fr.refl _ _)
  have HX1 : Hid (RowAt (W.alloc (.cells #[.int .u8 d, .int .u8 gp, .int .i64 rw, .int .i64 th, .int .i64 pi, .int .i64 p0, .int .i64 p1, .int .i64 p2, .int .i64 p3, .bool p4, .int .i64 p5, .int .i64 p6, .int .i64 p7, .int .i64 p8, .slice le lm lc] 44)) W.heap.size 44 #[.int .u8 d, .int .u8 gp, .int .i64 rw, .int .i64 th, .int .i64 pi, .int .i64 p0, .int .i64 p1, .int .i64 p2, .int .i64 p3, .bool p4, .int .i64 p5, .int .i64 p6, .int .i64 p7, .int .i64 p8, .slice le lm lc]) := RowAt.new _ _ _
  generalize W.alloc _ = w1 at HF1 HX1 ⊢
  generalize W.heap.size = x at HX1 ⊢
  have c0 : w1.cell? ⟨x, 0, none⟩ = some (.int .u8 d) := HX1.out.cell 0
  have HK : Hid (∀ w2, Fr Non w1 w2 → w2.cell? ⟨x, 3, none⟩ = some (.int .i64 th) ∧ w2.cell? ⟨x, 4, none⟩ = some (.int .i64 pi) ∧ w2.cell? ⟨x, 5, none⟩ = some (.int .i64 p0) ∧ w2.cell? ⟨x, 6, none⟩ = some (.int .i64 p1) ∧ w2.cell? ⟨x, 7, none⟩ = some (.int .i64 p2) ∧ w2.cell? ⟨x, 8, none⟩ = some (.int .i64 p3) ∧ w2.cell? ⟨x, 9, none⟩ = some (.bool p4) ∧ w2.cell? ⟨x, 10, none⟩ = some (.int .i64 p5) ∧ w2.cell? ⟨x, 11, none⟩ = some (.int .i64 p6) ∧ w2.cell? ⟨x, 12, none⟩ = some (.int .i64 p7) ∧ w2.cell? ⟨x, 13, none⟩ = some (.int .i64 p8)) := fun w2 f => by
    have q := HX1.out.fr f id
    exact ⟨q.cell 3, q.cell 4, q.cell 5, q.cell 6, q.cell 7, q.cell 8, q.cell 9, q.cell 10, q.cell 11, q.cell 12, q.cell 13⟩
  by_cases h0 : d % 12 = 0
  · go_wp2
    go_region_held3 (fun w' => w'.cell? ⟨x, 3, none⟩ = some (.int .i64 th) ∧ w'.cell? ⟨x, 4, none⟩ = some (.int .i64 pi) ∧ w'.cell? ⟨x, 5, none⟩ = some (.int .i64 p0) ∧ w'.cell? ⟨x, 6, none⟩ = some (.int .i64 p1) ∧ w'.cell? ⟨x, 7, none⟩ = some (.int .i64 p2) ∧ w'.cell? ⟨x, 8, none⟩ = some (.int .i64 p3) ∧ w'.cell? ⟨x, 9, none⟩ = some (.bool p4) ∧ w'.cell? ⟨x, 10, none⟩ = some (.int .i64 p5) ∧ w'.cell? ⟨x, 11, none⟩ = some (.int .i64 p6) ∧ w'.cell? ⟨x, 12, none⟩ = some (.int .i64 p7) ∧ w'.cell? ⟨x, 13, none⟩ = some (.int .i64 p8))
    (first | (with_reducible refine HK.out _ ?_; (repeat (first | exact F4.out | exact F5.out | exact F3.out | exact Fr.refl _ _ | (with_reducible refine frD ?_))); (first | done | fail)) | go_keep)
    (first
      | (go_at_call 27; refine (add_nil _ _ _ _).mono ?_; rintro e w3 ⟨rfl, f3⟩; have F3 : Hid (Fr Non w1 w3) := (frD (Fr.refl _ _)).trans f3; clear f3)
      | (go_at_call 40; refine (HFR.out _).mono ?_; rintro e w5 ⟨⟨v, rfl⟩, f5⟩; have F5 : Hid (Fr Non w1 w5) := F3.out.trans f5; clear f5)
      | (go_at_call 41; refine (radd_nil _ _ _ _).mono ?_; rintro e w4 ⟨rfl, f4⟩; have F4 : Hid (Fr Non w1 w4) := F5.out.trans f4; clear f4))
    go_wp2
    go_ret
    exact ⟨rfl, HF1.out.trans F4.out⟩
  have n0 : (d % 12 == 0) = false := by simpa using h0
  by_cases h1 : d % 12 = 1
  · clear h0
    go_wp2
    go_region_held3 (fun w' => w'.cell? ⟨x, 3, none⟩ = some (.int .i64 th) ∧ w'.cell? ⟨x, 4, none⟩ = some (.int .i64 pi) ∧ w'.cell? ⟨x, 5, none⟩ = some (.int .i64 p0) ∧ w'.cell? ⟨x, 6, none⟩ = some (.int .i64 p1) ∧ w'.cell? ⟨x, 7, none⟩ = some (.int .i64 p2) ∧ w'.cell? ⟨x, 8, none⟩ = some (.int .i64 p3) ∧ w'.cell? ⟨x, 9, none⟩ = some (.bool p4) ∧ w'.cell? ⟨x, 10, none⟩ = some (.int .i64 p5) ∧ w'.cell? ⟨x, 11, none⟩ = some (.int .i64 p6) ∧ w'.cell? ⟨x, 12, none⟩ = some (.int .i64 p7) ∧ w'.cell? ⟨x, 13, none⟩ = some (.int .i64 p8))
    (first | (with_reducible refine HK.out _ ?_; (repeat (first | exact F4.out | exact F5.out | exact F3.out | exact Fr.refl _ _ | (with_reducible refine frD ?_))); (first | done | fail)) | go_keep)
    (first
      | (go_at_call 81; refine (remove_nil _ _).mono ?_; rintro e w3 ⟨rfl, f3⟩; have F3 : Hid (Fr Non w1 w3) := (frD (Fr.refl _ _)).trans f3; clear f3)
      | (go_at_call 82; refine (rremove_nil _ _).mono ?_; rintro e w4 ⟨rfl, f4⟩; have F4 : Hid (Fr Non w1 w4) := F3.out.trans f4; clear f4))
    go_wp2
    go_ret
    exact ⟨rfl, HF1.out.trans F4.out⟩
  have n1 : (d % 12 == 1) = false := by simpa using h1
  by_cases h2 : d % 12 = 2
  · clear h0 h1
    go_wp2
    go_region_held3 (fun w' => w'.cell? ⟨x, 3, none⟩ = some (.int .i64 th) ∧ w'.cell? ⟨x, 4, none⟩ = some (.int .i64 pi) ∧ w'.cell? ⟨x, 5, none⟩ = some (.int .i64 p0) ∧ w'.cell? ⟨x, 6, none⟩ = some (.int .i64 p1) ∧ w'.cell? ⟨x, 7, none⟩ = some (.int .i64 p2) ∧ w'.cell? ⟨x, 8, none⟩ = some (.int .i64 p3) ∧ w'.cell? ⟨x, 9, none⟩ = some (.bool p4) ∧ w'.cell? ⟨x, 10, none⟩ = some (.int .i64 p5) ∧ w'.cell? ⟨x, 11, none⟩ = some (.int .i64 p6) ∧ w'.cell? ⟨x, 12, none⟩ = some (.int .i64 p7) ∧ w'.cell? ⟨x, 13, none⟩ = some (.int .i64 p8))
    (first | (with_reducible refine HK.out _ ?_; (repeat (first | exact F4.out | exact F5.out | exact F3.out | exact Fr.refl _ _ | (with_reducible refine frD ?_))); (first | done | fail)) | go_keep)
    (first
      | (go_at_call 28; refine (ready_nil _ _).mono ?_; rintro e w3 ⟨rfl, f3⟩; have F3 : Hid (Fr Non w1 w3) := (frD (Fr.refl _ _)).trans f3; clear f3)
      | (go_at_call 42; refine (rready_nil _ _).mono ?_; rintro e w4 ⟨rfl, f4⟩; have F4 : Hid (Fr Non w1 w4) := F3.out.trans f4; clear f4))
    go_wp2
    go_ret
    exact ⟨rfl, HF1.out.trans F4.out⟩
  have n2 : (d % 12 == 2) = false := by simpa using h2
  by_cases h3 : d % 12 = 3
  · clear h0 h1 h2
    go_wp2
    go_region_held3 (fun w' => w'.cell? ⟨x, 3, none⟩ = some (.int .i64 th) ∧ w'.cell? ⟨x, 4, none⟩ = some (.int .i64 pi) ∧ w'.cell? ⟨x, 5, none⟩ = some (.int .i64 p0) ∧ w'.cell? ⟨x, 6, none⟩ = some (.int .i64 p1) ∧ w'.cell? ⟨x, 7, none⟩ = some (.int .i64 p2) ∧ w'.cell? ⟨x, 8, none⟩ = some (.int .i64 p3) ∧ w'.cell? ⟨x, 9, none⟩ = some (.bool p4) ∧ w'.cell? ⟨x, 10, none⟩ = some (.int .i64 p5) ∧ w'.cell? ⟨x, 11, none⟩ = some (.int .i64 p6) ∧ w'.cell? ⟨x, 12, none⟩ = some (.int .i64 p7) ∧ w'.cell? ⟨x, 13, none⟩ = some (.int .i64 p8))
    (first | (with_reducible refine HK.out _ ?_; (repeat (first | exact F4.out | exact F5.out | exact F3.out | exact Fr.refl _ _ | (with_reducible refine frD ?_))); (first | done | fail)) | go_keep)
    (first
      | (go_at_call 28; refine (ready_nil _ _).mono ?_; rintro e w3 ⟨rfl, f3⟩; have F3 : Hid (Fr Non w1 w3) := (frD (Fr.refl _ _)).trans f3; clear f3)
      | (go_at_call 42; refine (rready_nil _ _).mono ?_; rintro e w4 ⟨rfl, f4⟩; have F4 : Hid (Fr Non w1 w4) := F3.out.trans f4; clear f4))
    go_wp2
    go_ret
    exact ⟨rfl, HF1.out.trans F4.out⟩
  have n3 : (d % 12 == 3) = false := by simpa using h3
  by_cases h4 : d % 12 = 4
  · clear h0 h1 h2 h3
    go_wp2
    go_region_held3 (fun w' => w'.cell? ⟨x, 3, none⟩ = some (.int .i64 th) ∧ w'.cell? ⟨x, 4, none⟩ = some (.int .i64 pi) ∧ w'.cell? ⟨x, 5, none⟩ = some (.int .i64 p0) ∧ w'.cell? ⟨x, 6, none⟩ = some (.int .i64 p1) ∧ w'.cell? ⟨x, 7, none⟩ = some (.int .i64 p2) ∧ w'.cell? ⟨x, 8, none⟩ = some (.int .i64 p3) ∧ w'.cell? ⟨x, 9, none⟩ = some (.bool p4) ∧ w'.cell? ⟨x, 10, none⟩ = some (.int .i64 p5) ∧ w'.cell? ⟨x, 11, none⟩ = some (.int .i64 p6) ∧ w'.cell? ⟨x, 12, none⟩ = some (.int .i64 p7) ∧ w'.cell? ⟨x, 13, none⟩ = some (.int .i64 p8))
    (first | (with_reducible refine HK.out _ ?_; (repeat (first | exact F4.out | exact F5.out | exact F3.out | exact Fr.refl _ _ | (with_reducible refine frD ?_))); (first | done | fail)) | go_keep)
    (first
      | (go_at_call 83; refine (block_nil _ _).mono ?_; rintro e w3 ⟨rfl, f3⟩; have F3 : Hid (Fr Non w1 w3) := (frD (Fr.refl _ _)).trans f3; clear f3)
      | (go_at_call 84; refine (rblock_nil _ _).mono ?_; rintro e w4 ⟨rfl, f4⟩; have F4 : Hid (Fr Non w1 w4) := F3.out.trans f4; clear f4))
    go_wp2
    go_ret
    exact ⟨rfl, HF1.out.trans F4.out⟩
  have n4 : (d % 12 == 4) = false := by simpa using h4
  by_cases h5 : d % 12 = 5
  · clear h0 h1 h2 h3 h4
    go_wp2
    go_region_held3 (fun w' => w'.cell? ⟨x, 3, none⟩ = some (.int .i64 th) ∧ w'.cell? ⟨x, 4, none⟩ = some (.int .i64 pi) ∧ w'.cell? ⟨x, 5, none⟩ = some (.int .i64 p0) ∧ w'.cell? ⟨x, 6, none⟩ = some (.int .i64 p1) ∧ w'.cell? ⟨x, 7, none⟩ = some (.int .i64 p2) ∧ w'.cell? ⟨x, 8, none⟩ = some (.int .i64 p3) ∧ w'.cell? ⟨x, 9, none⟩ = some (.bool p4) ∧ w'.cell? ⟨x, 10, none⟩ = some (.int .i64 p5) ∧ w'.cell? ⟨x, 11, none⟩ = some (.int .i64 p6) ∧ w'.cell? ⟨x, 12, none⟩ = some (.int .i64 p7) ∧ w'.cell? ⟨x, 13, none⟩ = some (.int .i64 p8))
    (first | (with_reducible refine HK.out _ ?_; (repeat (first | exact F4.out | exact F5.out | exact F3.out | exact Fr.refl _ _ | (with_reducible refine frD ?_))); (first | done | fail)) | go_keep)
    (first
      | (go_at_call 85; refine (yield_nil _ _).mono ?_; rintro e w3 ⟨rfl, f3⟩; have F3 : Hid (Fr Non w1 w3) := (frD (Fr.refl _ _)).trans f3; clear f3)
      | (go_at_call 86; refine (ryield_nil _ _).mono ?_; rintro e w4 ⟨rfl, f4⟩; have F4 : Hid (Fr Non w1 w4) := F3.out.trans f4; clear f4))
    go_wp2
    go_ret
    exact ⟨rfl, HF1.out.trans F4.out⟩
  have n5 : (d % 12 == 5) = false := by simpa using h5
  by_cases h6 : d % 12 = 6
  · clear h0 h1 h2 h3 h4 h5
    go_wp2
    go_region_held3 (fun w' => w'.cell? ⟨x, 3, none⟩ = some (.int .i64 th) ∧ w'.cell? ⟨x, 4, none⟩ = some (.int .i64 pi) ∧ w'.cell? ⟨x, 5, none⟩ = some (.int .i64 p0) ∧ w'.cell? ⟨x, 6, none⟩ = some (.int .i64 p1) ∧ w'.cell? ⟨x, 7, none⟩ = some (.int .i64 p2) ∧ w'.cell? ⟨x, 8, none⟩ = some (.int .i64 p3) ∧ w'.cell? ⟨x, 9, none⟩ = some (.bool p4) ∧ w'.cell? ⟨x, 10, none⟩ = some (.int .i64 p5) ∧ w'.cell? ⟨x, 11, none⟩ = some (.int .i64 p6) ∧ w'.cell? ⟨x, 12, none⟩ = some (.int .i64 p7) ∧ w'.cell? ⟨x, 13, none⟩ = some (.int .i64 p8))
    (first | (with_reducible refine HK.out _ ?_; (repeat (first | exact F4.out | exact F5.out | exact F3.out | exact Fr.refl _ _ | (with_reducible refine frD ?_))); (first | done | fail)) | go_keep)
    (first
      | (go_at_call 87; refine (setpriority_nil _ _ _).mono ?_; rintro e w3 ⟨rfl, f3⟩; have F3 : Hid (Fr Non w1 w3) := (frD (Fr.refl _ _)).trans f3; clear f3)
      | (go_at_call 88; refine (rsetpriority_nil _ _ _).mono ?_; rintro e w4 ⟨rfl, f4⟩; have F4 : Hid (Fr Non w1 w4) := F3.out.trans f4; clear f4))
    go_wp2
    go_ret
    exact ⟨rfl, HF1.out.trans F4.out⟩
  have n6 : (d % 12 == 6) = false := by simpa using h6
  clear h0 h1 h2 h3 h4 h5 h6
  go_wp2
  go_region_held3 (fun w' => w'.cell? ⟨x, 3, none⟩ = some (.int .i64 th) ∧ w'.cell? ⟨x, 4, none⟩ = some (.int .i64 pi) ∧ w'.cell? ⟨x, 5, none⟩ = some (.int .i64 p0) ∧ w'.cell? ⟨x, 6, none⟩ = some (.int .i64 p1) ∧ w'.cell? ⟨x, 7, none⟩ = some (.int .i64 p2) ∧ w'.cell? ⟨x, 8, none⟩ = some (.int .i64 p3) ∧ w'.cell? ⟨x, 9, none⟩ = some (.bool p4) ∧ w'.cell? ⟨x, 10, none⟩ = some (.int .i64 p5) ∧ w'.cell? ⟨x, 11, none⟩ = some (.int .i64 p6) ∧ w'.cell? ⟨x, 12, none⟩ = some (.int .i64 p7) ∧ w'.cell? ⟨x, 13, none⟩ = some (.int .i64 p8))
    (first | (with_reducible refine HK.out _ ?_; (repeat (first | exact F4.out | exact F5.out | exact F3.out | exact Fr.refl _ _ | (with_reducible refine frD ?_))); (first | done | fail)) | go_keep)
    (first
      | (go_at_call 89; refine (setparams_nil _ _ _).mono ?_; rintro e w3 ⟨rfl, f3⟩; have F3 : Hid (Fr Non w1 w3) := (frD (Fr.refl _ _)).trans f3; clear f3)
      | (go_at_call 40; refine (HFR.out _).mono ?_; rintro e w5 ⟨⟨v, rfl⟩, f5⟩; have F5 : Hid (Fr Non w1 w5) := F3.out.trans f5; clear f5)
      | (go_at_call 90; refine (rsetparams_nil _ _ _).mono ?_; rintro e w4 ⟨rfl, f4⟩; have F4 : Hid (Fr Non w1 w4) := F5.out.trans f4; clear f4))
  go_wp2
  go_ret
  exact ⟨rfl, HF1.out.trans F4.out⟩
end Go.Proofs.YtjaaljcdaamcjaaGreat
