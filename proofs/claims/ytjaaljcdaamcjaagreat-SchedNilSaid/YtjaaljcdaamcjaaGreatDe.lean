/- Package sched: value, and New. -/
import Derived.Test.YtjaaljcdaamcjaaGreatDd
import Derived.Test.YtjaaljcdaamcjaaGreatYk
import Derived.Deep.RegionHeld3
namespace Go.Proofs.YtjaaljcdaamcjaaGreat
open Go.RowKit Go.Proofs.YtjaaljcdaamcjaaGreat.Pa
set_option linter.unusedVariables false

theorem valM_ok (v : Option Addr) (w : World) : Calls Tryz.prog 35 #[.pointer v, .int .i64 0] w fun e w' => e = .returned (.pointer v) ∧ w = w' := by
  go_enter Tryz.func35, Tryz.ntmps35
  go_wp2_with (go_at_call 79; refine (must_ok _).mono ?_; rintro e w2 ⟨rfl, f2⟩; subst f2)
  go_ret
  exact ⟨rfl, rfl⟩
theorem valM_err (v : Option Addr) (z : Int) (h : z ≠ 0) (w : World) : Calls Tryz.prog 35 #[.pointer v, .int .i64 z] w fun e w' => e = .panicked [failE z] ∧ w = w' := by
  go_enter Tryz.func35, Tryz.ntmps35
  go_wp2_with (go_at_call 79; refine (must_fail _ h _).mono ?_; rintro e w2 ⟨rfl, f2⟩; subst f2)
  exact ⟨rfl, rfl, rfl⟩
theorem valB_ok (v : Bool) (w : World) : Calls Tryz.prog 107 #[.bool v, .int .i64 0] w fun e w' => e = .returned (.bool v) ∧ w = w' := by
  go_enter Tryz.func107, Tryz.ntmps107
  go_wp2_with (go_at_call 79; refine (must_ok _).mono ?_; rintro e w2 ⟨rfl, f2⟩; subst f2)
  go_ret
  exact ⟨rfl, rfl⟩
theorem valB_err (v : Bool) (z : Int) (h : z ≠ 0) (w : World) : Calls Tryz.prog 107 #[.bool v, .int .i64 z] w fun e w' => e = .panicked [failE z] ∧ w = w' := by
  go_enter Tryz.func107, Tryz.ntmps107
  go_wp2_with (go_at_call 79; refine (must_fail _ h _).mono ?_; rintro e w2 ⟨rfl, f2⟩; subst f2)
  exact ⟨rfl, rfl, rfl⟩
theorem valI_ok (v : Int) (w : World) : Calls Tryz.prog 139 #[.int .i64 v, .int .i64 0] w fun e w' => e = .returned (.int .i64 v) ∧ w = w' := by
  go_enter Tryz.func139, Tryz.ntmps139
  go_wp2_with (go_at_call 79; refine (must_ok _).mono ?_; rintro e w2 ⟨rfl, f2⟩; subst f2)
  go_ret
  exact ⟨rfl, rfl⟩
theorem valI_err (v : Int) (z : Int) (h : z ≠ 0) (w : World) : Calls Tryz.prog 139 #[.int .i64 v, .int .i64 z] w fun e w' => e = .panicked [failE z] ∧ w = w' := by
  go_enter Tryz.func139, Tryz.ntmps139
  go_wp2_with (go_at_call 79; refine (must_fail _ h _).mono ?_; rintro e w2 ⟨rfl, f2⟩; subst f2)
  exact ⟨rfl, rfl, rfl⟩
theorem valS_ok (v : Option Addr) (w : World) : Calls Tryz.prog 154 #[.pointer v, .int .i64 0] w fun e w' => e = .returned (.pointer v) ∧ w = w' := by
  go_enter Tryz.func154, Tryz.ntmps154
  go_wp2_with (go_at_call 79; refine (must_ok _).mono ?_; rintro e w2 ⟨rfl, f2⟩; subst f2)
  go_ret
  exact ⟨rfl, rfl⟩
theorem valS_err (v : Option Addr) (z : Int) (h : z ≠ 0) (w : World) : Calls Tryz.prog 154 #[.pointer v, .int .i64 z] w fun e w' => e = .panicked [failE z] ∧ w = w' := by
  go_enter Tryz.func154, Tryz.ntmps154
  go_wp2_with (go_at_call 79; refine (must_fail _ h _).mono ?_; rintro e w2 ⟨rfl, f2⟩; subst f2)
  exact ⟨rfl, rfl, rfl⟩
theorem valL_ok (v : Int) (w : World) : Calls Tryz.prog 174 #[.int .i64 v, .int .i64 0] w fun e w' => e = .returned (.int .i64 v) ∧ w = w' := by
  go_enter Tryz.func174, Tryz.ntmps174
  go_wp2_with (go_at_call 79; refine (must_ok _).mono ?_; rintro e w2 ⟨rfl, f2⟩; subst f2)
  go_ret
  exact ⟨rfl, rfl⟩
theorem valL_err (v : Int) (z : Int) (h : z ≠ 0) (w : World) : Calls Tryz.prog 174 #[.int .i64 v, .int .i64 z] w fun e w' => e = .panicked [failE z] ∧ w = w' := by
  go_enter Tryz.func174, Tryz.ntmps174
  go_wp2_with (go_at_call 79; refine (must_fail _ h _).mono ?_; rintro e w2 ⟨rfl, f2⟩; subst f2)
  exact ⟨rfl, rfl, rfl⟩

theorem qp_fr {B : Nat} {ls : Nat → List Nat} {mk : Nat → Nat} {W W' : World} {S : Nat → Prop} (h : Rd.QP B ls mk W) (hf : Fr S W W') (hne : ¬ S B) : Rd.QP B ls mk W' := by
  obtain ⟨q, h1, h2, h3⟩ := h
  exact ⟨q, (show RowAt W B _ _ from h1).fr hf hne, h2, h3⟩
theorem fr_grown {B : Option Nat} {A W : World} {S : Nat → Prop} (h : A.grownBy W B) (hS : ∀ k, B = some k → S k) : Fr S A W := Fr.grown h hS
set_option maxRecDepth 100000 in
theorem built_new (pr np : Nat) (mb qb : Nat) : Tryz.prog.built 89 [(0, .int .i64 (pr : Int)), (1, .int .i64 (np : Int)), (2, .pointer (some ⟨mb, 0, none⟩)), (4, .pointer (some ⟨qb, 0, none⟩)), (6, .int .i64 (-1))] = some (sA ⟨pr, np, mb, fun _ => none, qb, 0, -1⟩) := by
  rw [← new_cells]
  kernel_rfl
end Go.Proofs.YtjaaljcdaamcjaaGreat
