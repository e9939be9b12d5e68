/- Interrupts: what methods of a nil pointer answer; InterruptsNil's walk. -/
import Derived.Test.YtbnchmhhhildnaaXv
namespace Go.Proofs.Ytbnchmhhhildnaa
open Go.RowKit Go.Maps
set_option linter.unusedVariables false

theorem attach_nilp (n th k c p d v : Int) (fi : Bool) (W : World) : Calls Try.prog 24 #[.pointer none, .int .i64 n, .int .i64 th, evV k c p d v, .bool fi] W fun e w' => e = .returned (.tuple #[.int .i64 0, .int .i64 35]) ∧ Fr No W w' :=
  attach_bad (by decide) fun W2 _ => check_nil n W2
theorem mask_nilp (n x : Int) (W : World) : Calls Try.prog 21 #[.pointer none, .int .i64 n, .int .i64 x] W fun e w' => e = .returned (.tuple #[.int .i64 0, .int .i64 35]) ∧ Fr No W w' := mask_err (by decide) (find_nil n x W)
theorem wait_nilp (x : Int) (W : World) : Calls Try.prog 25 #[.pointer none, .int .i64 x] W fun e w' => e = .returned (.tuple #[.bool false, .int .i64 35]) ∧ W = w' := by
  go_enter Try.func25, Try.ntmps25
  go_wp2_with (go_at_call 50; refine (ismade_nil _).mono ?_; rintro e w2 ⟨rfl, f2⟩; subst f2)
  go_ret2
  exact ⟨rfl, rfl⟩
theorem detach_nilp (x : Int) (W : World) : Calls Try.prog 26 #[.pointer none, .int .i64 x] W fun e w' => e = .returned (.int .i64 35) ∧ W = w' := by
  go_enter Try.func26, Try.ntmps26
  go_wp2_with (go_at_call 50; refine (ismade_nil _).mono ?_; rintro e w2 ⟨rfl, f2⟩; subst f2)
  go_ret
  exact ⟨rfl, rfl⟩
theorem drop_nilp (x : Int) (W : World) : Calls Try.prog 28 #[.pointer none, .int .i64 x] W fun e w' => e = .returned (.int .i64 0) ∧ W = w' := by
  go_enter Try.func28, Try.ntmps28
  go_wp2
  go_ret
  exact ⟨rfl, rfl⟩
theorem number_nilp (x : Option Nat) (W : World) : Calls Try.prog 18 #[.pointer none, .chan x] W fun e w' => e = .returned (.int .i64 (-1)) ∧ Fr No W w' := by
  have HF : Hid (Fr No W (W.alloc (.cells #[.chan x] 39))) := Fr.alloc _ _ _
  go_enter Try.func18, Try.ntmps18
  go_wp2
  go_ret
  exact ⟨rfl, HF.out⟩
theorem eq_chan (a b : Option Nat) (w : World) : Sem.run Try.prog (binOp BinOp.eql 39 (Value.chan a) (Value.chan b)) w = Result.ok (Value.bool (a == b)) w := by
  first | kernel_rfl | rfl | simp [go_sem]
/-- A call as it lies. -/
def opC (kd ln ix k c p d v : Int) (fi : Bool) : Array Value := #[.int .i64 kd, .int .i64 ln, .int .i64 ix, .int .i64 k, .int .i64 c, .int .i64 p, .int .i64 d, .int .i64 v, .bool fi]
set_option maxRecDepth 100000 in
set_option maxHeartbeats 8000000 in
theorem nil_walk (kd ln ix k c p d v : Int) (fi : Bool) (W : World) : Calls Try.prog 8 #[.agg (opC kd ln ix k c p d v fi)] W fun e w' => e = .returned (.bool true) ∧ Fr No W w' := by
  have HF1 : Hid (Fr No W (W.alloc (.cells (opC kd ln ix k c p d v fi) 34))) := Fr.alloc _ _ _
  have HX1 := Lib.hid (RowAt.new W 34 (opC kd ln ix k c p d v fi))
  unfold opC at HF1 HX1 ⊢
  go_enter Try.func8, Try.ntmps8
  go_upto_region 1 with (fail)
  generalize W.alloc _ = w1 at HF1 HX1 ⊢
  generalize W.heap.size = X at HX1 ⊢
  have HK : Hid (∀ w, Fr No w1 w → w.cell? ⟨X, 1, none⟩ = some (.int .i64 ln) ∧ w.cell? ⟨X, 2, none⟩ = some (.int .i64 ix) ∧ w.cell? ⟨X, 8, none⟩ = some (.bool fi) ∧ w.rangeAt X 3 [.int .i64 k, .int .i64 c, .int .i64 p, .int .i64 d, .int .i64 v]) := fun w g => ⟨(HX1.out.fr g id).cell 1, (HX1.out.fr g id).cell 2, (HX1.out.fr g id).cell 8, fun j v hv => by
    rw [(HX1.out.fr g id).cell]
    match j, hv with
    | 0, hv => cases hv; rfl
    | 1, hv => cases hv; rfl
    | 2, hv => cases hv; rfl
    | 3, hv => cases hv; rfl
    | 4, hv => cases hv; rfl⟩
  have c1 : w1.cell? ⟨X, 1, none⟩ = some (.int .i64 ln) := (HK.out _ (Fr.refl _ _)).1
  have c2 : w1.cell? ⟨X, 2, none⟩ = some (.int .i64 ix) := (HK.out _ (Fr.refl _ _)).2.1
  have c8 : w1.cell? ⟨X, 8, none⟩ = some (.bool fi) := (HK.out _ (Fr.refl _ _)).2.2.1
  have HA := Lib.hid (attach_nilp ln ix k c p d v fi)
  unfold evV at HA
  go_upto_region 3 with (first
    | ((with_reducible refine ld_gate ?_); refine wpList_load_mid rfl 32 (Operand.tmp 18) rfl X 3 rfl [_, _, _, _, _] _ (HK.out _ (Fr.refl _ _)).2.2.2 Try.underlying32 rfl size_event ?_; go_frame)
    | (go_at_call 24; refine (HA.out _).mono ?_; rintro e w3 ⟨rfl, f3⟩; have F3 := Lib.hid f3; clear f3 c1 c2 c8; have c1 : w3.cell? ⟨X, 1, none⟩ = some (.int .i64 ln) := (HK.out _ F3.out).1; have c2 : w3.cell? ⟨X, 2, none⟩ = some (.int .i64 ix) := (HK.out _ F3.out).2.1))
  go_upto_region 4 with (go_at_call 21; refine (mask_nilp _ _ _).mono ?_; rintro e w4 ⟨rfl, f4⟩; have F4 : Hid (Fr No w1 w4) := F3.out.trans f4; clear f4 c1 c2; have c1 : w4.cell? ⟨X, 1, none⟩ = some (.int .i64 ln) := (HK.out _ F4.out).1; have c2 : w4.cell? ⟨X, 2, none⟩ = some (.int .i64 ix) := (HK.out _ F4.out).2.1)
  have hch := eq_chan none none
  go_upto_region 6 with (first
    | (go_at_call 22; refine (raise_nil _ _).mono ?_; rintro e w5 ⟨rfl, f5⟩; subst f5)
    | (go_at_call 25; refine (wait_nilp _ _).mono ?_; rintro e w5 ⟨rfl, f5⟩; subst f5))
  go_wp2_with (first
    | (go_at_call 26; refine (detach_nilp _ _).mono ?_; rintro e w5 ⟨rfl, f5⟩; subst f5)
    | (go_at_call 20; refine (deliver_nil _).mono ?_; rintro e w5 ⟨rfl, f5⟩; subst f5)
    | (go_at_call 27; refine (cancel_nil _ _).mono ?_; rintro e w5 ⟨rfl, f5⟩; subst f5)
    | (go_at_call 28; refine (drop_nilp _ _).mono ?_; rintro e w5 ⟨rfl, f5⟩; subst f5)
    | (go_at_call 17; refine (line_nil _ _).mono ?_; rintro e w5 ⟨rfl, f5⟩; subst f5)
    | (go_at_call 18; refine (number_nilp _ _).mono ?_; rintro e w6 ⟨rfl, f6⟩; have F6 : Hid (Fr No w1 w6) := F4.out.trans f6; clear f6)
    | (go_at_call 9; refine (awake_any _).mono ?_; rintro e w13 ⟨rfl, f13⟩; have F13 : Hid (Fr No w1 w13) := F6.out.trans f13; clear f13))
  go_ret
  exact ⟨rfl, HF1.out.trans F13.out⟩
end Go.Proofs.Ytbnchmhhhildnaa
