/- Package sched: what a nil scheduler answers. -/
import Derived.Test.YtjaaljcdaamcjaaGreatDb
import Derived.Test.YtjaaljcdaamcjaaGreatMa
namespace Go.Proofs.YtjaaljcdaamcjaaGreat
open Go.RowKit Go.Proofs.YtjaaljcdaamcjaaGreat.Pa
set_option linter.unusedVariables false

abbrev Non : Nat → Prop := fun _ => False
theorem hmf_any : ∀ (fn : Fn) (first cap : Array Value) (w : World), (Instr.makeFunc fn first cap).run Tryz.prog w = .ok (.func fn first cap) w := fun _ _ _ _ => rfl
set_option maxRecDepth 100000 in
theorem made_nil (w : World) : Calls Tryz.prog 44 #[.pointer none] w fun e w' => e = .panicked [failE 35] ∧ w = w' := by
  go_enter Tryz.func44, Tryz.ntmps44
  go_wp2_with (go_at_call 58; refine (require_fail _ _).mono ?_; rintro e w2 ⟨rfl, f2⟩; subst f2)
  exact ⟨rfl, rfl, rfl⟩
set_option maxRecDepth 100000 in
theorem find_nil (t : Int) (w : World) : Calls Tryz.prog 118 #[.pointer none, .int .i64 t] w fun e w' => e = .panicked [failE 35] ∧ w = w' := by
  go_enter Tryz.func118, Tryz.ntmps118
  go_wp2_with (go_at_call 44; refine (made_nil _).mono ?_; rintro e w2 ⟨rfl, f2⟩; subst f2)
  exact ⟨rfl, rfl, rfl⟩
set_option maxRecDepth 100000 in
theorem findin_nil (t : Int) (b : Bool) (w : World) : Calls Tryz.prog 73 #[.pointer none, .int .i64 t, .bool b] w fun e w' => e = .panicked [failE 35] ∧ w = w' := by
  go_enter Tryz.func73, Tryz.ntmps73
  go_wp2_with (go_at_call 118; refine (find_nil _ _).mono ?_; rintro e w2 ⟨rfl, f2⟩; subst f2)
  exact ⟨rfl, rfl, rfl⟩
set_option maxRecDepth 100000 in
theorem remove_nil (t : Int) (w : World) : Calls Tryz.prog 81 #[.pointer none, .int .i64 t] w fun e w' => e = .returned (.int .i64 35) ∧ Fr Non w w' := by
  have hmf := hmf_any
  go_enter_defers Tryz.func81, Tryz.ntmps81
  go_wp2_with (go_at_call 118; refine (find_nil _ _).mono ?_; rintro e w2 ⟨rfl, f2⟩; subst f2)
  refine leaves_cons (f := 121) (args := #[.pointer (some ⟨w.heap.size, 0, none⟩)]) (by simp) (by simp [go_sem]) ?_
  refine (finRemove ⟨w.heap.size, 0, none⟩ 0 35 [] _ (by simp [go_sem]) (by simp [go_sem])).mono ?_
  rintro e u' w'' ⟨rfl, rfl, rfl⟩
  simp [Leaves, settle, results, Tryz.results81, go_sem]
  exact Fr.alloc _ _ _
set_option maxRecDepth 100000 in
theorem ready_nil (t : Int) (w : World) : Calls Tryz.prog 28 #[.pointer none, .int .i64 t] w fun e w' => e = .returned (.int .i64 35) ∧ Fr Non w w' := by
  have hmf := hmf_any
  go_enter_defers Tryz.func28, Tryz.ntmps28
  go_wp2_with (go_at_call 73; refine (findin_nil _ _ _).mono ?_; rintro e w2 ⟨rfl, f2⟩; subst f2)
  refine leaves_cons (f := 72) (args := #[.pointer (some ⟨w.heap.size, 0, none⟩)]) (by simp) (by simp [go_sem]) ?_
  refine (finReady ⟨w.heap.size, 0, none⟩ 0 35 [] _ (by simp [go_sem]) (by simp [go_sem])).mono ?_
  rintro e u' w'' ⟨rfl, rfl, rfl⟩
  simp [Leaves, settle, results, Tryz.results28, go_sem]
  exact Fr.alloc _ _ _
set_option maxRecDepth 100000 in
theorem block_nil (t : Int) (w : World) : Calls Tryz.prog 83 #[.pointer none, .int .i64 t] w fun e w' => e = .returned (.int .i64 35) ∧ Fr Non w w' := by
  have hmf := hmf_any
  go_enter_defers Tryz.func83, Tryz.ntmps83
  go_wp2_with (go_at_call 73; refine (findin_nil _ _ _).mono ?_; rintro e w2 ⟨rfl, f2⟩; subst f2)
  refine leaves_cons (f := 123) (args := #[.pointer (some ⟨w.heap.size, 0, none⟩)]) (by simp) (by simp [go_sem]) ?_
  refine (finBlock ⟨w.heap.size, 0, none⟩ 0 35 [] _ (by simp [go_sem]) (by simp [go_sem])).mono ?_
  rintro e u' w'' ⟨rfl, rfl, rfl⟩
  simp [Leaves, settle, results, Tryz.results83, go_sem]
  exact Fr.alloc _ _ _
set_option maxRecDepth 100000 in
theorem yield_nil (t : Int) (w : World) : Calls Tryz.prog 85 #[.pointer none, .int .i64 t] w fun e w' => e = .returned (.int .i64 35) ∧ Fr Non w w' := by
  have hmf := hmf_any
  go_enter_defers Tryz.func85, Tryz.ntmps85
  go_wp2_with (go_at_call 73; refine (findin_nil _ _ _).mono ?_; rintro e w2 ⟨rfl, f2⟩; subst f2)
  refine leaves_cons (f := 124) (args := #[.pointer (some ⟨w.heap.size, 0, none⟩)]) (by simp) (by simp [go_sem]) ?_
  refine (finYield ⟨w.heap.size, 0, none⟩ 0 35 [] _ (by simp [go_sem]) (by simp [go_sem])).mono ?_
  rintro e u' w'' ⟨rfl, rfl, rfl⟩
  simp [Leaves, settle, results, Tryz.results85, go_sem]
  exact Fr.alloc _ _ _
set_option maxRecDepth 100000 in
theorem add_nil (t p : Int) (v : Array Value) (w : World) : Calls Tryz.prog 27 #[.pointer none, .int .i64 t, .int .i64 p, .agg v] w fun e w' => e = .returned (.int .i64 35) ∧ Fr Non w w' := by
  have hmf := hmf_any
  go_enter_defers Tryz.func27, Tryz.ntmps27
  go_wp2_with (go_at_call 44; refine (made_nil _).mono ?_; rintro e w2 ⟨rfl, f2⟩; subst f2)
  refine leaves_cons (f := 67) (args := #[.pointer (some ⟨w.heap.size + 1, 0, none⟩)]) (by simp) (by simp [go_sem]) ?_
  refine (finAdd ⟨w.heap.size + 1, 0, none⟩ 0 35 [] _ (by simp [go_sem]) (by simp [go_sem])).mono ?_
  rintro e u' w'' ⟨rfl, rfl, rfl⟩
  simp [Leaves, settle, results, Tryz.results27, go_sem]
  exact (Fr.alloc _ _ _).trans (Fr.alloc _ _ _)
set_option maxRecDepth 100000 in
theorem setpriority_nil (t p : Int) (w : World) : Calls Tryz.prog 87 #[.pointer none, .int .i64 t, .int .i64 p] w fun e w' => e = .returned (.int .i64 35) ∧ Fr Non w w' := by
  have hmf := hmf_any
  go_enter_defers Tryz.func87, Tryz.ntmps87
  go_wp2_with (go_at_call 44; refine (made_nil _).mono ?_; rintro e w2 ⟨rfl, f2⟩; subst f2)
  refine leaves_cons (f := 126) (args := #[.pointer (some ⟨w.heap.size, 0, none⟩)]) (by simp) (by simp [go_sem]) ?_
  refine (finSetPriority ⟨w.heap.size, 0, none⟩ 0 35 [] _ (by simp [go_sem]) (by simp [go_sem])).mono ?_
  rintro e u' w'' ⟨rfl, rfl, rfl⟩
  simp [Leaves, settle, results, Tryz.results87, go_sem]
  exact Fr.alloc _ _ _
set_option maxRecDepth 100000 in
theorem setparams_nil (t : Int) (v : Array Value) (w : World) : Calls Tryz.prog 89 #[.pointer none, .int .i64 t, .agg v] w fun e w' => e = .returned (.int .i64 35) ∧ Fr Non w w' := by
  have hmf := hmf_any
  go_enter_defers Tryz.func89, Tryz.ntmps89
  go_wp2_with (go_at_call 118; refine (find_nil _ _).mono ?_; rintro e w2 ⟨rfl, f2⟩; subst f2)
  refine leaves_cons (f := 128) (args := #[.pointer (some ⟨w.heap.size + 1, 0, none⟩)]) (by simp) (by simp [go_sem]) ?_
  refine (finSetParams ⟨w.heap.size + 1, 0, none⟩ 0 35 [] _ (by simp [go_sem]) (by simp [go_sem])).mono ?_
  rintro e u' w'' ⟨rfl, rfl, rfl⟩
  simp [Leaves, settle, results, Tryz.results89, go_sem]
  exact (Fr.alloc _ _ _).trans (Fr.alloc _ _ _)
set_option maxRecDepth 100000 in
theorem pick_nil (t : Int) (v : Value) (w : World) : Calls Tryz.prog 18 #[.pointer none, .int .i64 t, v] w fun e w' => e = .returned (.tuple #[.slice none 0 0, .int .i64 35]) ∧ Fr Non w w' := by
  have hmf := hmf_any
  go_enter_defers Tryz.func18, Tryz.ntmps18
  go_wp2_with (go_at_call 44; refine (made_nil _).mono ?_; rintro e w2 ⟨rfl, f2⟩; subst f2)
  refine leaves_cons (f := 43) (args := #[.pointer (some ⟨w.heap.size + 1, 0, none⟩)]) (by simp) (by simp [go_sem]) ?_
  refine (finPick ⟨w.heap.size + 1, 0, none⟩ 0 35 [] _ (by simp [go_sem]) (by simp [go_sem])).mono ?_
  rintro e u' w'' ⟨rfl, rfl, rfl⟩
  simp [Leaves, settle, results, Tryz.results18, go_sem]
  exact (Fr.alloc _ _ _).trans (Fr.alloc _ _ _)
set_option maxRecDepth 100000 in
theorem charge_nil (t : Int) (v : Value) (w : World) : Calls Tryz.prog 22 #[.pointer none, .int .i64 t, v] w fun e w' => e = .returned (.int .i64 35) ∧ Fr Non w w' := by
  have hmf := hmf_any
  go_enter_defers Tryz.func22, Tryz.ntmps22
  go_wp2_with (go_at_call 44; refine (made_nil _).mono ?_; rintro e w2 ⟨rfl, f2⟩; subst f2)
  refine leaves_cons (f := 56) (args := #[.pointer (some ⟨w.heap.size + 1, 0, none⟩)]) (by simp) (by simp [go_sem]) ?_
  refine (finCharge ⟨w.heap.size + 1, 0, none⟩ 0 35 [] _ (by simp [go_sem]) (by simp [go_sem])).mono ?_
  rintro e u' w'' ⟨rfl, rfl, rfl⟩
  simp [Leaves, settle, results, Tryz.results22, go_sem]
  exact (Fr.alloc _ _ _).trans (Fr.alloc _ _ _)
set_option maxRecDepth 100000 in
theorem ranking_nil (t : Int) (w : World) : Calls Tryz.prog 24 #[.pointer none, .int .i64 t] w fun e w' => e = .returned (.tuple #[.slice none 0 0, .int .i64 35]) ∧ Fr Non w w' := by
  have hmf := hmf_any
  go_enter_defers Tryz.func24, Tryz.ntmps24
  go_wp2_with (go_at_call 44; refine (made_nil _).mono ?_; rintro e w2 ⟨rfl, f2⟩; subst f2)
  refine leaves_cons (f := 66) (args := #[.pointer (some ⟨w.heap.size, 0, none⟩)]) (by simp) (by simp [go_sem]) ?_
  refine (finRanking ⟨w.heap.size, 0, none⟩ 0 35 [] _ (by simp [go_sem]) (by simp [go_sem])).mono ?_
  rintro e u' w'' ⟨rfl, rfl, rfl⟩
  simp [Leaves, settle, results, Tryz.results24, go_sem]
  exact Fr.alloc _ _ _
end Go.Proofs.YtjaaljcdaamcjaaGreat
