/- Package sched: errors that leave by a panic: require, must, caught, value. -/
import Derived.Test.YtjaaljcdaamcjaaGreatProg
import Derived.Recover
import Derived.WalkKit
import Derived.Deep.Cut
import Derived.Deep.RegionWith
import Derived.Deep.DeepMust
import Derived.OwnWalk
import Derived.Lib.Hide
namespace Go.Proofs.YtjaaljcdaamcjaaGreat
open Go.RowKit
set_option linter.unusedVariables false

/-- What a failure is on its way: not yet recovered. -/
def failE (z : Int) : PanicEntry := { v := .iface 153 (.int .i64 z), recovered := false }
theorem require_ok (z : Int) (w : World) : Calls Tryz.prog 58 #[.bool true, .int .i64 z] w fun e w' => e = .returned (.tuple #[]) ∧ w = w' := by
  go_enter Tryz.func58, Tryz.ntmps58
  go_wp2
  go_end0
  exact ⟨rfl, rfl⟩
theorem require_fail (z : Int) (w : World) : Calls Tryz.prog 58 #[.bool false, .int .i64 z] w fun e w' => e = .panicked [failE z] ∧ w = w' := by
  go_enter Tryz.func58, Tryz.ntmps58
  go_wp2
  exact ⟨rfl, rfl, rfl⟩
theorem must_ok (w : World) : Calls Tryz.prog 79 #[.int .i64 0] w fun e w' => e = .returned (.tuple #[]) ∧ w = w' := by
  go_enter Tryz.func79, Tryz.ntmps79
  go_wp2_with (go_at_call 58; refine (require_ok _ _).mono ?_; rintro e w2 ⟨rfl, f2⟩; subst f2)
  go_end0
  exact ⟨rfl, rfl⟩
theorem caught_nil (w : World) : Calls Tryz.prog 34 #[.nilIface] w fun e w' => e = .returned (.int .i64 0) ∧ w = w' := by
  go_enter Tryz.func34, Tryz.ntmps34
  go_wp2
  go_ret
  exact ⟨rfl, rfl⟩
set_option maxRecDepth 100000 in
theorem must_fail (z : Int) (h : z ≠ 0) (w : World) : Calls Tryz.prog 79 #[.int .i64 z] w fun e w' => e = .panicked [failE z] ∧ w = w' := by
  have g : (z == 0) = false := by simpa using h
  go_enter Tryz.func79, Tryz.ntmps79
  go_wp2_with (go_at_call 58; refine (require_fail _ _).mono ?_; rintro e w2 ⟨rfl, f2⟩; subst f2)
  exact ⟨rfl, rfl, rfl⟩
set_option maxRecDepth 100000 in
theorem caught_fail (z : Int) (w : World) : Calls Tryz.prog 34 #[.iface 153 (.int .i64 z)] w fun e w' => e = .returned (.int .i64 z) ∧ w = w' := by
  have hta : ∀ (w : World), (Instr.typeAssert (.iface 153 (.int .i64 z)) 20 153 false).run Tryz.prog w = .ok (.int .i64 z) w := fun _ => by kernel_rfl
  go_enter Tryz.func34, Tryz.ntmps34
  go_wp2
  go_ret
  exact ⟨rfl, rfl⟩
end Go.Proofs.YtjaaljcdaamcjaaGreat
