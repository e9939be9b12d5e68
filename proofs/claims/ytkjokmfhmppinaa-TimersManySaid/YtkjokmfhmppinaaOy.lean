/- Timers: what methods of a nil pointer answer; TimersNil's walk. -/
import Derived.Test.YtkjokmfhmppinaaOx
namespace Go.Proofs.Ytkjokmfhmppinaa
open Go.RowKit Go.Maps
set_option linter.unusedVariables false

theorem drop_nilp (o : Int) (W : World) : Calls Try.prog 20 #[.pointer none, .int .i64 o] W fun e w' => e = .returned (.int .i64 0) ∧ Fr No W w' := by
  have HF : Hid (Fr No W (W.alloc (.cells #[.int .i64 o] 3))) := Fr.alloc _ _ _
  go_enter Try.func20, Try.ntmps20
  go_wp2_with (go_at_call 34; refine (ismade_nil _).mono ?_; rintro e w2 ⟨rfl, f2⟩; subst f2)
  go_ret
  exact ⟨rfl, HF.out⟩
theorem list_nilp (W : World) : Calls Try.prog 16 #[.pointer none] W fun e w' => e = .returned (.slice none 0 0) ∧ Fr No W w' := by
  go_enter Try.func16, Try.ntmps16
  go_wp2_with (go_at_call 34; refine (ismade_nil _).mono ?_; rintro e w2 ⟨rfl, f2⟩; subst f2)
  go_ret
  exact ⟨rfl, Fr.refl _ _⟩
theorem delete_nilp (x : Int) (W : World) : Calls Try.prog 19 #[.pointer none, .int .i64 x] W fun e w' => e = .returned (.int .i64 35) ∧ Fr No W w' := delete_err (by decide) (find_nil x W)
theorem set_nilp (x f i t : Int) (W : World) : Calls Try.prog 24 #[.pointer none, .int .i64 x, spV f i t] W fun e w' => e = .returned (.tuple #[spOf tz, .int .i64 35]) ∧ Fr No W w' := set_err f i t (by decide) fun W2 _ => find_nil x W2

theorem spOf_tz : spOf tz = .agg #[.int .i64 0, .int .i64 0, .int .i64 0] := rfl
set_option maxRecDepth 100000 in
set_option maxHeartbeats 4000000 in
theorem nil_walk (kd ix k c p d v f i t now : Int) (W : World) : Calls Try.prog 8 #[.agg #[.int .i64 kd, .int .i64 ix, .int .i64 k, .int .i64 c, .int .i64 p, .int .i64 d, .int .i64 v, .int .i64 f, .int .i64 i, .int .i64 t, .int .i64 now]] W fun e w' => e = .returned (.bool true) ∧ Fr No W w' := by
  go_enter Try.func8, Try.ntmps8
  go_upto_region 1 with (fail)
  have HF1 : Hid (Fr No W (W.alloc (.cells #[.int .i64 kd, .int .i64 ix, .int .i64 k, .int .i64 c, .int .i64 p, .int .i64 d, .int .i64 v, .int .i64 f, .int .i64 i, .int .i64 t, .int .i64 now] 33))) := Fr.alloc _ _ _
  have HX1 : Hid (RowAt (W.alloc (.cells #[.int .i64 kd, .int .i64 ix, .int .i64 k, .int .i64 c, .int .i64 p, .int .i64 d, .int .i64 v, .int .i64 f, .int .i64 i, .int .i64 t, .int .i64 now] 33)) W.heap.size 33 #[.int .i64 kd, .int .i64 ix, .int .i64 k, .int .i64 c, .int .i64 p, .int .i64 d, .int .i64 v, .int .i64 f, .int .i64 i, .int .i64 t, .int .i64 now]) := RowAt.new _ _ _
  have HS1 : Hid (W.heap.size < (W.alloc (.cells #[.int .i64 kd, .int .i64 ix, .int .i64 k, .int .i64 c, .int .i64 p, .int .i64 d, .int .i64 v, .int .i64 f, .int .i64 i, .int .i64 t, .int .i64 now] 33)).heap.size) := by show _ < _; simp
  generalize W.alloc _ = w1 at HF1 HX1 HS1 ⊢
  generalize hX : W.heap.size = X at HX1 HS1 ⊢
  have HX := Lib.hid hX
  clear hX
  have HK : Hid (∀ w, Fr No w1 w → w.cell? ⟨X, 1, none⟩ = some (.int .i64 ix) ∧ w.cell? ⟨X, 10, none⟩ = some (.int .i64 now) ∧ w.rangeAt X 2 [.int .i64 k, .int .i64 c, .int .i64 p, .int .i64 d, .int .i64 v] ∧ w.rangeAt X 7 [.int .i64 f, .int .i64 i, .int .i64 t]) := fun w g => ⟨(HX1.out.fr g id).cell 1, (HX1.out.fr g id).cell 10, fun j v hv => by
    rw [(HX1.out.fr g id).cell]
    match j, hv with
    | 0, hv => cases hv; rfl
    | 1, hv => cases hv; rfl
    | 2, hv => cases hv; rfl
    | 3, hv => cases hv; rfl
    | 4, hv => cases hv; rfl, fun j v hv => by
    rw [(HX1.out.fr g id).cell]
    match j, hv with
    | 0, hv => cases hv; rfl
    | 1, hv => cases hv; rfl
    | 2, hv => cases hv; rfl⟩
  have c1 : w1.cell? ⟨X, 1, none⟩ = some (.int .i64 ix) := (HK.out _ (Fr.refl _ _)).1
  have HC := Lib.hid (create_nilp ix k c p d v)
  have HS := Lib.hid (set_nilp ix f i t)
  have HG := Lib.hid (get_nilp ix)
  unfold evV at HC
  unfold spV at HS
  rw [spOf_tz] at HS HG
  go_upto_region 3 with (first
    | ((with_reducible refine ld_gate ?_); refine wpList_load_mid rfl 29 (Operand.tmp 18) rfl X 2 rfl [_, _, _, _, _] _ (HK.out _ (Fr.refl _ _)).2.2.1 Try.underlying29 rfl size_event ?_; go_frame)
    | (go_at_call 18; refine (HC.out _).mono ?_; rintro e w3 ⟨rfl, f3⟩; have F3 := Lib.hid f3; clear f3 c1; have c1 : w3.cell? ⟨X, 1, none⟩ = some (.int .i64 ix) := (HK.out _ F3.out).1))
  go_upto_region 4 with (first
    | ((with_reducible refine ld_gate ?_); refine wpList_load_mid rfl 31 (Operand.tmp 27) rfl X 7 rfl [_, _, _] _ (HK.out _ F3.out).2.2.2 Try.underlying31 rfl size_spec ?_; go_frame)
    | ((with_reducible refine st_gate ?_); refine wpList_store_row rfl 31 (Operand.tmp 6) (Operand.tmp 30) rfl w4.heap.size sz rfl rfl _ sz (RowAt.new w4 _ _) size_spec rfl (by simp [Value.oneCell']) ?_; rw [World.setRow_alloc_new])
    | (go_at_call 24; refine (HS.out _).mono ?_; rintro e w4 ⟨rfl, f4⟩; have F4 : Hid (Fr No w1 w4) := F3.out.trans f4; clear f4 c1))
  have F5 : Hid (Fr No w1 (w4.alloc (.cells sz 31))) := F4.out.trans (Fr.alloc _ _ _)
  generalize w4.alloc _ = w5 at F5 ⊢
  have c1 : w5.cell? ⟨X, 1, none⟩ = some (.int .i64 ix) := (HK.out _ F5.out).1
  go_upto_region 5 with (first
    | ((with_reducible refine st_gate ?_); refine wpList_store_row rfl 31 (Operand.tmp 8) (Operand.tmp 37) rfl w6.heap.size sz rfl rfl _ sz (RowAt.new w6 _ _) size_spec rfl (by simp [Value.oneCell']) ?_; rw [World.setRow_alloc_new])
    | (go_at_call 22; refine (HG.out _).mono ?_; rintro e w6 ⟨rfl, f6⟩; have F6 : Hid (Fr No w1 w6) := F5.out.trans f6; clear f6 c1))
  have F7 : Hid (Fr No w1 (w6.alloc (.cells sz 31))) := F6.out.trans (Fr.alloc _ _ _)
  generalize w6.alloc _ = w7 at F7 ⊢
  have c10 : w7.cell? ⟨X, 10, none⟩ = some (.int .i64 now) := (HK.out _ F7.out).2.1
  go_upto_region 7 with (first
    | (go_at_call 23; refine (expire_nilp _ _).mono ?_; rintro e w8 ⟨rfl, f8⟩; have F8 : Hid (Fr No w1 w8) := F7.out.trans f8; clear f8 c10)
    | (go_at_call 13; refine (next_nilp _).mono ?_; rintro e w9 ⟨rfl, f9⟩; have F9 : Hid (Fr No w1 w9) := F8.out.trans f9; clear f9))
  have c1 : w9.cell? ⟨X, 1, none⟩ = some (.int .i64 ix) := (HK.out _ F9.out).1
  go_wp2_with (first
    | (go_at_call 19; refine (delete_nilp _ _).mono ?_; rintro e w10 ⟨rfl, f10⟩; have F10 : Hid (Fr No w1 w10) := F9.out.trans f10; clear f10 c1; have c1 : w10.cell? ⟨X, 1, none⟩ = some (.int .i64 ix) := (HK.out _ F10.out).1)
    | (go_at_call 20; refine (drop_nilp _ _).mono ?_; rintro e w11 ⟨rfl, f11⟩; have F11 : Hid (Fr No w1 w11) := F10.out.trans f11; clear f11 c1)
    | (go_at_call 16; refine (list_nilp _).mono ?_; rintro e w12 ⟨rfl, f12⟩; have F12 : Hid (Fr No w1 w12) := F11.out.trans f12; clear f12)
    | (go_at_call 9; refine (awake_any _).mono ?_; rintro e w13 ⟨rfl, f13⟩; have F13 : Hid (Fr No w1 w13) := F12.out.trans f13; clear f13))
  go_ret
  exact ⟨rfl, HF1.out.trans F13.out⟩
end Go.Proofs.Ytkjokmfhmppinaa
