/- The contracts of the specification's methods on nil; of change on two nil queues. -/
import Derived.Test.YtnnmmkimdknbgabYr
import Derived.Deep.QuietTactic
import Derived.BigQuiet
namespace Go.Proofs.Ytnnmmkimdknbgab
open Go.RowKit Go.Shelf
set_option linter.unusedVariables false

theorem radd_nil (t p m : Int) (front : Bool) (w : World) : Calls Try.prog 10 #[.pointer none, .int .i64 t, .int .i64 p, .int .i64 m, .bool front] w fun e w' => e = .returned (.int .i64 35) ∧ w = w' := by
  go_enter Try.func10, Try.ntmps10
  go_wp2
  go_ret
  exact ⟨rfl, rfl⟩
theorem rremove_nil (t : Int) (w : World) : Calls Try.prog 12 #[.pointer none, .int .i64 t] w fun e w' => e = .returned (.int .i64 35) ∧ w = w' := by
  go_enter Try.func12, Try.ntmps12
  go_wp2
  go_ret
  exact ⟨rfl, rfl⟩
theorem rsetprio_nil (t p : Int) (front : Bool) (w : World) : Calls Try.prog 14 #[.pointer none, .int .i64 t, .int .i64 p, .bool front] w fun e w' => e = .returned (.int .i64 35) ∧ w = w' := by
  go_enter Try.func14, Try.ntmps14
  go_wp2
  go_ret
  exact ⟨rfl, rfl⟩
theorem rsetmask_nil (t m : Int) (w : World) : Calls Try.prog 16 #[.pointer none, .int .i64 t, .int .i64 m] w fun e w' => e = .returned (.int .i64 35) ∧ w = w' := by
  go_enter Try.func16, Try.ntmps16
  go_wp2
  go_ret
  exact ⟨rfl, rfl⟩
theorem rrotate_nil (p : Int) (w : World) : Calls Try.prog 18 #[.pointer none, .int .i64 p] w fun e w' => e = .returned (.int .i64 35) ∧ w = w' := by
  go_enter Try.func18, Try.ntmps18
  go_wp2
  go_ret
  exact ⟨rfl, rfl⟩
theorem rbest0_nil (c : Int) (w : World) : Calls Try.prog 45 #[.pointer none, .int .i64 c] w fun e w' => e = .returned (.tuple #[.int .i64 0, .int .i64 35]) ∧ w = w' := by
  go_enter Try.func45, Try.ntmps45
  go_wp2
  go_ret2
  exact ⟨rfl, rfl⟩
theorem rtake_nil (c : Int) (w : World) : Calls Try.prog 20 #[.pointer none, .int .i64 c] w fun e w' => e = .returned (.tuple #[.int .i64 0, .int .i64 35]) ∧ w = w' := by
  go_enter Try.func20, Try.ntmps20
  go_wp2_with (go_at_call 45; refine (rbest0_nil c _).mono ?_; rintro e w' ⟨rfl, rfl⟩)
  go_ret2
  exact ⟨rfl, rfl⟩
theorem rbest_nil (c : Int) (w : World) : Calls Try.prog 22 #[.pointer none, .int .i64 c] w fun e w' => e = .returned (.tuple #[.int .i64 0, .int .i64 35]) ∧ w = w' := by
  go_enter Try.func22, Try.ntmps22
  go_wp2_with (go_at_call 45; refine (rbest0_nil c _).mono ?_; rintro e w' ⟨rfl, rfl⟩)
  go_ret2
  exact ⟨rfl, rfl⟩
theorem rprio_nil (t : Int) (w : World) : Calls Try.prog 24 #[.pointer none, .int .i64 t] w fun e w' => e = .returned (.tuple #[.int .i64 0, .int .i64 35]) ∧ w = w' := by
  go_enter Try.func24, Try.ntmps24
  go_wp2
  go_ret2
  exact ⟨rfl, rfl⟩

def actA (d : Nat) (t p m n : Int) (f : Bool) : Array Value := #[.int .u8 d, .int .i64 t, .int .i64 p, .int .i64 m, .int .i64 n, .bool f]

set_option maxRecDepth 100000 in
set_option maxHeartbeats 2000000 in
theorem change_nil (d : Nat) (t p m n : Int) (f : Bool) (w : World) : Calls Try.prog 4 #[.pointer none, .pointer none, .agg (actA d t p m n f)] w fun e w' => e = .returned (.bool true) ∧ w.grownBy w' none := by
  have HR := Lib.hid (RowAt.new w 23 (actA d t p m n f))
  have HG := Lib.hid (grown_alloc w (.cells (actA d t p m n f) 23) none)
  have hmx : Try.prog.follows .mixedOrders = true := by kernel_rfl
  unfold actA at HR HG ⊢
  go_enter Try.func4, Try.ntmps4
  go_upto_region 1 with (fail)
  generalize World.alloc w _ = W at HR HG ⊢
  have c0 : W.cell? ⟨w.heap.size, 0, none⟩ = some (.int .u8 d) := HR.out.cell 0
  have c1 : W.cell? ⟨w.heap.size, 1, none⟩ = some (.int .i64 t) := HR.out.cell 1
  have c2 : W.cell? ⟨w.heap.size, 2, none⟩ = some (.int .i64 p) := HR.out.cell 2
  have c3 : W.cell? ⟨w.heap.size, 3, none⟩ = some (.int .i64 m) := HR.out.cell 3
  have c4 : W.cell? ⟨w.heap.size, 4, none⟩ = some (.int .i64 n) := HR.out.cell 4
  have c5 : W.cell? ⟨w.heap.size, 5, none⟩ = some (.bool f) := HR.out.cell 5
  generalize w.heap.size = b at HR c0 c1 c2 c3 c4 c5 ⊢
  have HK : Hid (∀ W2, W.grownBy W2 none → ∀ (i : Nat) (v : Value), W.cell? ⟨b, i, none⟩ = some v → W2.cell? ⟨b, i, none⟩ = some v) := fun W2 g i v h => cell_kept h g (fun r hr => by cases hr)
  go_wp2_with (first
    | (go_at_call 19; refine (take_nil n _).mono ?_; rintro e W2 ⟨rfl, g2⟩; have d4 := HK.out W2 g2 4 _ c4; have G2 := Lib.hid (grown_trans HG.out g2))
    | (go_at_call 21; refine (best_nil n _).mono ?_; rintro e W2 ⟨rfl, g2⟩; have d4 := HK.out W2 g2 4 _ c4; have G2 := Lib.hid (grown_trans HG.out g2))
    | (go_at_call 23; refine (prio_nil t _).mono ?_; rintro e w' ⟨rfl, rfl⟩; have G2 := Lib.hid (grown_trans HG.out (grown_refl W none)))
    | (go_at_call 20; refine (rtake_nil n _).mono ?_; rintro e w' ⟨rfl, rfl⟩)
    | (go_at_call 22; refine (rbest_nil n _).mono ?_; rintro e w' ⟨rfl, rfl⟩)
    | (go_at_call 24; refine (rprio_nil t _).mono ?_; rintro e w' ⟨rfl, rfl⟩))
  all_goals first
    | (go_ret; exact ⟨rfl, by first | assumption | exact G2.out⟩)
    | (go_quiet (first
        | (go_at_call 9; exact Calls.quiet_of_same ((add_nil _ _ _ _ _).mono fun _ _ k => ⟨k.1, k.2.symm⟩))
        | (go_at_call 10; exact Calls.quiet_of_same ((radd_nil _ _ _ _ _).mono fun _ _ k => ⟨k.1, k.2.symm⟩))
        | (go_at_call 11; exact Calls.quiet_of_same ((remove_nil _ _).mono fun _ _ k => ⟨k.1, k.2.symm⟩))
        | (go_at_call 12; exact Calls.quiet_of_same ((rremove_nil _ _).mono fun _ _ k => ⟨k.1, k.2.symm⟩))
        | (go_at_call 13; exact Calls.quiet_of_same ((setprio_nil _ _ _ _).mono fun _ _ k => ⟨k.1, k.2.symm⟩))
        | (go_at_call 14; exact Calls.quiet_of_same ((rsetprio_nil _ _ _ _).mono fun _ _ k => ⟨k.1, k.2.symm⟩))
        | (go_at_call 15; exact Calls.quiet_of_same ((setmask_nil _ _ _).mono fun _ _ k => ⟨k.1, k.2.symm⟩))
        | (go_at_call 16; exact Calls.quiet_of_same ((rsetmask_nil _ _ _).mono fun _ _ k => ⟨k.1, k.2.symm⟩))
        | (go_at_call 17; exact Calls.quiet_of_same ((rotate_nil _ _).mono fun _ _ k => ⟨k.1, k.2.symm⟩))
        | (go_at_call 18; exact Calls.quiet_of_same ((rrotate_nil _ _).mono fun _ _ k => ⟨k.1, k.2.symm⟩)))
       go_wp2
       go_ret
       exact ⟨rfl, grown_trans HG.out (grown_drewN _ _ _)⟩)
    | skip
end Go.Proofs.Ytnnmmkimdknbgab
