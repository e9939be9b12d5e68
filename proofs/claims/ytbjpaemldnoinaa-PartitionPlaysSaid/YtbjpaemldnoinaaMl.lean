/- PartitionNil: the methods on nil; step; the walk. -/
import Derived.Test.YtbjpaemldnoinaaMk
namespace Go.Proofs.Ytbjpaemldnoinaa
open Go.RowKit
set_option linter.unusedVariables false

theorem rask_nil (now : Int) (ps : Value) (W : World) : Calls Try.prog 88 #[.pointer none, .int .i64 now, ps] W fun e w' => e = .returned (.int .i64 35) ∧ W = w' := by
  go_enter Try.func88, Try.ntmps88
  go_wp2
  go_ret
  exact ⟨rfl, rfl⟩
theorem rused_nil (now p : Int) (W : World) : Calls Try.prog 52 #[.pointer none, .int .i64 now, .int .i64 p] W fun e w' => e = .returned (.tuple #[.int .i64 0, .int .i64 35]) ∧ Fr (fun _ => False) W w' := by
  go_enter Try.func52, Try.ntmps52
  go_wp2_with (go_at_call 88; refine (rask_nil _ _ _).mono ?_; rintro e w' ⟨rfl, rfl⟩)
  go_ret2
  exact ⟨rfl, Fr.alloc _ _ _⟩
theorem rucrit_nil (now p : Int) (W : World) : Calls Try.prog 53 #[.pointer none, .int .i64 now, .int .i64 p] W fun e w' => e = .returned (.tuple #[.int .i64 0, .int .i64 35]) ∧ Fr (fun _ => False) W w' := by
  go_enter Try.func53, Try.ntmps53
  go_wp2_with (go_at_call 88; refine (rask_nil _ _ _).mono ?_; rintro e w' ⟨rfl, rfl⟩)
  go_ret2
  exact ⟨rfl, Fr.alloc _ _ _⟩
theorem rhasb_nil (now p : Int) (W : World) : Calls Try.prog 54 #[.pointer none, .int .i64 now, .int .i64 p] W fun e w' => e = .returned (.tuple #[.bool false, .int .i64 35]) ∧ Fr (fun _ => False) W w' := by
  go_enter Try.func54, Try.ntmps54
  go_wp2_with (go_at_call 88; refine (rask_nil _ _ _).mono ?_; rintro e w' ⟨rfl, rfl⟩)
  go_ret2
  exact ⟨rfl, Fr.alloc _ _ _⟩
theorem rbank_nil (now p : Int) (W : World) : Calls Try.prog 56 #[.pointer none, .int .i64 now, .int .i64 p] W fun e w' => e = .returned (.tuple #[.bool false, .int .i64 35]) ∧ Fr (fun _ => False) W w' := by
  go_enter Try.func56, Try.ntmps56
  go_wp2_with (go_at_call 88; refine (rask_nil _ _ _).mono ?_; rintro e w' ⟨rfl, rfl⟩)
  go_ret2
  exact ⟨rfl, Fr.alloc _ _ _⟩
theorem rcomp_nil (now a b : Int) (W : World) : Calls Try.prog 57 #[.pointer none, .int .i64 now, .int .i64 a, .int .i64 b] W fun e w' => e = .returned (.tuple #[.int .i64 0, .int .i64 35]) ∧ Fr (fun _ => False) W w' := by
  go_enter Try.func57, Try.ntmps57
  go_wp2_with (go_at_call 88; refine (rask_nil _ _ _).mono ?_; rintro e w' ⟨rfl, rfl⟩)
  go_ret2
  exact ⟨rfl, Fr.alloc _ _ _⟩
theorem rcharge_nil (now p : Int) (c : Bool) (W : World) : Calls Try.prog 58 #[.pointer none, .int .i64 now, .int .i64 p, .bool c] W fun e w' => e = .returned (.int .i64 35) ∧ Fr (fun _ => False) W w' := by
  go_enter Try.func58, Try.ntmps58
  go_wp2_with (go_at_call 88; refine (rask_nil _ _ _).mono ?_; rintro e w' ⟨rfl, rfl⟩)
  go_ret
  exact ⟨rfl, Fr.alloc _ _ _⟩

def actM (d gp raw a b : Int) (c : Bool) : Array Value := #[.int .u8 d, .int .u8 gp, .int .i64 raw, .int .i64 a, .int .i64 b, .bool c]
set_option maxRecDepth 100000 in
set_option maxHeartbeats 4000000 in
theorem step_nil (d gp raw a b : Int) (c : Bool) (now : Int) (hd0 : 0 ≤ d) (hd1 : d < 256) (W : World) : Calls Try.prog 24 #[.pointer none, .pointer none, .agg (actM d gp raw a b c), .int .i64 now] W fun e w' => e = .returned (.bool true) ∧ Fr (fun _ => False) W w' := by
  have HR := Lib.hid (RowAt.new W 56 (actM d gp raw a b c))
  have HF : Hid (Fr (fun _ => False) W (W.alloc (.cells (actM d gp raw a b c) 56))) := Fr.alloc _ _ _
  unfold actM at HR HF ⊢
  go_enter Try.func24, Try.ntmps24
  go_upto_region 1 with (fail)
  generalize World.alloc W _ = W1 at HR HF ⊢
  generalize W.heap.size = x at HR ⊢
  have c0 : W1.cell? ⟨x, 0, none⟩ = some (.int .u8 d) := HR.out.cell 0
  have c3 : W1.cell? ⟨x, 3, none⟩ = some (.int .i64 a) := HR.out.cell 3
  have c4 : W1.cell? ⟨x, 4, none⟩ = some (.int .i64 b) := HR.out.cell 4
  have c5 : W1.cell? ⟨x, 5, none⟩ = some (.bool c) := HR.out.cell 5
  have HK : Hid (∀ W2, Fr (fun _ => False) W1 W2 → W2.cell? ⟨x, 3, none⟩ = some (.int .i64 a) ∧ W2.cell? ⟨x, 4, none⟩ = some (.int .i64 b)) := fun W2 f => ⟨(HR.out.fr f id).cell 3, (HR.out.fr f id).cell 4⟩
  have HKd : Hid (∀ W2, Fr (fun _ => False) W1.drew W2 → W2.cell? ⟨x, 3, none⟩ = some (.int .i64 a) ∧ W2.cell? ⟨x, 5, none⟩ = some (.bool c)) := fun W2 f => ⟨((show RowAt W1.drew x _ _ from HR.out).fr f id).cell 3, ((show RowAt W1.drew x _ _ from HR.out).fr f id).cell 5⟩
  have hxd : d % 7 = 2 ∨ d % 7 = 3 ∨ d % 7 = 4 ∨ d % 7 = 5 ∨ d % 7 = 6 ∨ (d % 7 ≠ 2 ∧ d % 7 ≠ 3 ∧ d % 7 ≠ 4 ∧ d % 7 ≠ 5 ∧ d % 7 ≠ 6) := by omega
  rcases hxd with hx | hx | hx | hx | hx | ⟨n2, n3, n4, n5, n6⟩
  · go_wp2_with (first
      | (go_at_call 29; refine (used_nil _ _ _).mono ?_; rintro e W2 ⟨rfl, f2⟩; obtain ⟨d3, d4⟩ := HK.out W2 f2; have F2 := Lib.hid (HF.out.trans f2); clear f2 c3 c4)
      | (go_at_call 52; refine (rused_nil _ _ _).mono ?_; rintro e W3 ⟨rfl, f3⟩; have F3 := Lib.hid (F2.out.trans f3); clear f3))
    go_ret
    exact ⟨rfl, F3.out⟩
  · go_wp2_with (first
      | (go_at_call 30; refine (ucrit_nil _ _ _).mono ?_; rintro e W2 ⟨rfl, f2⟩; obtain ⟨d3, d4⟩ := HK.out W2 f2; have F2 := Lib.hid (HF.out.trans f2); clear f2 c3 c4)
      | (go_at_call 53; refine (rucrit_nil _ _ _).mono ?_; rintro e W3 ⟨rfl, f3⟩; have F3 := Lib.hid (F2.out.trans f3); clear f3))
    go_ret
    exact ⟨rfl, F3.out⟩
  · go_wp2_with (first
      | (go_at_call 27; refine (hasb_nil _ _ _).mono ?_; rintro e W2 ⟨rfl, f2⟩; obtain ⟨d3, d4⟩ := HK.out W2 f2; have F2 := Lib.hid (HF.out.trans f2); clear f2 c3 c4)
      | (go_at_call 54; refine (rhasb_nil _ _ _).mono ?_; rintro e W3 ⟨rfl, f3⟩; have F3 := Lib.hid (F2.out.trans f3); clear f3))
    go_ret
    exact ⟨rfl, F3.out⟩
  · go_wp2_with (first
      | (go_at_call 55; refine (bank_nil _ _ _).mono ?_; rintro e W2 ⟨rfl, f2⟩; obtain ⟨d3, d4⟩ := HK.out W2 f2; have F2 := Lib.hid (HF.out.trans f2); clear f2 c3 c4)
      | (go_at_call 56; refine (rbank_nil _ _ _).mono ?_; rintro e W3 ⟨rfl, f3⟩; have F3 := Lib.hid (F2.out.trans f3); clear f3))
    go_ret
    exact ⟨rfl, F3.out⟩
  · go_wp2_with (first
      | (go_at_call 31; refine (comp_nil _ _ _ _).mono ?_; rintro e W2 ⟨rfl, f2⟩; obtain ⟨d3, d4⟩ := HK.out W2 f2; have F2 := Lib.hid (HF.out.trans f2); clear f2 c3 c4)
      | (go_at_call 57; refine (rcomp_nil _ _ _ _).mono ?_; rintro e W3 ⟨rfl, f3⟩; have F3 := Lib.hid (F2.out.trans f3); clear f3))
    go_ret
    exact ⟨rfl, F3.out⟩
  · have n2' : (d % 7 == 2) = false := by simpa using n2
    have n3' : (d % 7 == 3) = false := by simpa using n3
    have n4' : (d % 7 == 4) = false := by simpa using n4
    have n5' : (d % 7 == 5) = false := by simpa using n5
    have n6' : (d % 7 == 6) = false := by simpa using n6
    clear n2 n3 n4 n5 n6
    go_upto_region 22 with (fail)
    clear n2' n3' n4' n5' n6' c0 c4
    go_region_held3 (fun w' => w'.cell? ⟨x, 3, none⟩ = some (.int .i64 a) ∧ w'.cell? ⟨x, 5, none⟩ = some (.bool c))
      (first | (with_reducible exact HKd.out _ F3.out) | (with_reducible exact HKd.out _ F2.out) | exact ⟨c3, c5⟩ | go_keep)
      (first
        | (go_at_call 28; refine (charge_nil _ _ _ _).mono ?_; rintro e W2 ⟨rfl, f2⟩; have F2 := Lib.hid f2; clear f2)
        | (go_at_call 58; refine (rcharge_nil _ _ _ _).mono ?_; rintro e W3 ⟨rfl, f3⟩; have F3 := Lib.hid (F2.out.trans f3); clear f3))
    go_wp2
    go_ret
    exact ⟨rfl, HF.out.trans ((Fr.drew _ _).trans F3.out)⟩

set_option maxRecDepth 100000 in
set_option maxHeartbeats 2000000 in
theorem nil_walk (d gp raw a b : Int) (c : Bool) (hd0 : 0 ≤ d) (hd1 : d < 256) (W : World) : Calls Try.prog 8 #[.agg (actM d gp raw a b c)] W fun e w' => e = .returned (.bool true) ∧ Fr (fun _ => False) W w' := by
  have HR := Lib.hid (RowAt.new W 56 (actM d gp raw a b c))
  have HF : Hid (Fr (fun _ => False) W (W.alloc (.cells (actM d gp raw a b c) 56))) := Fr.alloc _ _ _
  have HS : Hid (∀ W, Calls Try.prog 24 #[.pointer none, .pointer none, .agg (actM d gp raw a b c), .int .i64 raw] W fun e w' => e = .returned (.bool true) ∧ Fr (fun _ => False) W w') := fun W => step_nil d gp raw a b c raw hd0 hd1 W
  unfold actM at HR HF HS ⊢
  go_enter Try.func8, Try.ntmps8
  go_upto_region 1 with (fail)
  generalize World.alloc W _ = W1 at HR HF ⊢
  generalize W.heap.size = x at HR ⊢
  have c0 : W1.cell? ⟨x, 0, none⟩ = some (.int .u8 d) := HR.out.cell 0
  have c1 : W1.cell? ⟨x, 1, none⟩ = some (.int .u8 gp) := HR.out.cell 1
  have c2 : W1.cell? ⟨x, 2, none⟩ = some (.int .i64 raw) := HR.out.cell 2
  have c3 : W1.cell? ⟨x, 3, none⟩ = some (.int .i64 a) := HR.out.cell 3
  have c4 : W1.cell? ⟨x, 4, none⟩ = some (.int .i64 b) := HR.out.cell 4
  have c5 : W1.cell? ⟨x, 5, none⟩ = some (.bool c) := HR.out.cell 5
  go_wp2_with (first
    | (go_at_call 25; refine (budget_nil _ _).mono ?_; rintro e w' ⟨rfl, rfl⟩)
    | (go_at_call 24; refine (HS.out _).mono ?_; rintro e W2 ⟨rfl, f2⟩; have F2 := Lib.hid f2; clear f2)
    | (go_at_call 18; refine (awake_any _).mono ?_; rintro e W3 ⟨rfl, f3⟩; have F3 := Lib.hid (F2.out.trans f3); clear f3))
  go_ret
  exact ⟨rfl, HF.out.trans F3.out⟩
end Go.Proofs.Ytbjpaemldnoinaa
