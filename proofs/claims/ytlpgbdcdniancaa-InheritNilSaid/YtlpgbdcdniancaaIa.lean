/- A nil tracker, a nil tracker of the reference: what their methods return. -/
import Derived.Test.YtlpgbdcdniancaaGx
namespace Go.Proofs.Ytlpgbdcdniancaa
open Go.RowKit
set_option linter.unusedVariables false

def edgeA (x y : Int) : Array Value := #[.int .i64 x, .int .i64 y]
def nilV (e : Ending) : Prop := e = .returned (.tuple #[.slice none 0 0, .int .i64 35])
theorem find_nil (x y : Int) (W : World) : Calls Try.prog 53 #[.pointer none, .agg #[.int .i64 x, .int .i64 y]] W fun e w' => e = .returned (.tuple #[.int .i64 0, .bool false, .int .i64 35]) ∧ Fr No W w' := by
  have HF : Hid (Fr No W (W.alloc (.cells #[.int .i64 x, .int .i64 y] 39))) := Fr.alloc _ _ _
  go_enter Try.func53, Try.ntmps53
  go_wp2
  go_ret3
  exact ⟨rfl, HF.out⟩
theorem add_nil (x y : Int) (W : World) : Calls Try.prog 28 #[.pointer none, .agg #[.int .i64 x, .int .i64 y]] W fun e w' => e = .returned (.tuple #[.slice none 0 0, .int .i64 35]) ∧ Fr No W w' := by
  have HF : Hid (Fr No W (W.alloc (.cells #[.int .i64 x, .int .i64 y] 39))) := Fr.alloc _ _ _
  have HR := Lib.hid (RowAt.new W 39 #[.int .i64 x, .int .i64 y])
  go_enter Try.func28, Try.ntmps28
  go_upto_region 1 with (fail)
  generalize World.alloc W _ = W1 at HF HR ⊢
  generalize W.heap.size = b at HR ⊢
  go_wp2_with (first
    | (refine wpList_load_mid rfl 39 (Operand.tmp 3) rfl b 0 rfl [_, _] _ HR.out.range Try.underlying39 rfl size_edge ?_)
    | (go_at_call 53; refine (find_nil x y _).mono ?_; rintro e w2 ⟨rfl, h2⟩))
  go_ret2
  exact ⟨rfl, HF.out.trans h2⟩
theorem remove_nil (x y : Int) (W : World) : Calls Try.prog 25 #[.pointer none, .agg #[.int .i64 x, .int .i64 y]] W fun e w' => e = .returned (.tuple #[.slice none 0 0, .int .i64 35]) ∧ Fr No W w' := by
  have HF : Hid (Fr No W (W.alloc (.cells #[.int .i64 x, .int .i64 y] 39))) := Fr.alloc _ _ _
  have HR := Lib.hid (RowAt.new W 39 #[.int .i64 x, .int .i64 y])
  go_enter Try.func25, Try.ntmps25
  go_upto_region 1 with (fail)
  generalize World.alloc W _ = W1 at HF HR ⊢
  generalize W.heap.size = b at HR ⊢
  go_wp2_with (first
    | (refine wpList_load_mid rfl 39 (Operand.tmp 3) rfl b 0 rfl [_, _] _ HR.out.range Try.underlying39 rfl size_edge ?_)
    | (go_at_call 53; refine (find_nil x y _).mono ?_; rintro e w2 ⟨rfl, h2⟩))
  go_ret2
  exact ⟨rfl, HF.out.trans h2⟩
theorem setbase_nil (x y : Int) (W : World) : Calls Try.prog 26 #[.pointer none, .int .i64 x, .int .i64 y] W fun e w' => e = .returned (.tuple #[.slice none 0 0, .int .i64 35]) ∧ Fr No W w' := by
  go_enter Try.func26, Try.ntmps26
  go_wp2
  go_ret2
  exact ⟨rfl, Fr.refl _ _⟩
theorem replace_nil (v : Value) (W : World) : Calls Try.prog 27 #[.pointer none, v] W fun e w' => e = .returned (.tuple #[.slice none 0 0, .int .i64 35]) ∧ Fr No W w' := by
  go_enter Try.func27, Try.ntmps27
  go_wp2
  go_ret2
  exact ⟨rfl, Fr.refl _ _⟩
theorem teff_nil (x : Int) (W : World) : Calls Try.prog 29 #[.pointer none, .int .i64 x] W fun e w' => e = .returned (.tuple #[.int .i64 0, .int .i64 35]) ∧ Fr No W w' := by
  go_enter Try.func29, Try.ntmps29
  go_wp2
  go_ret2
  exact ⟨rfl, Fr.refl _ _⟩
theorem radd_nil (x y : Int) (W : World) : Calls Try.prog 51 #[.pointer none, .agg #[.int .i64 x, .int .i64 y]] W fun e w' => e = .returned (.tuple #[.slice none 0 0, .int .i64 35]) ∧ Fr No W w' := by
  have HF : Hid (Fr No W (W.alloc (.cells #[.int .i64 x, .int .i64 y] 39))) := Fr.alloc _ _ _
  go_enter Try.func51, Try.ntmps51
  go_wp2
  go_ret2
  exact ⟨rfl, HF.out⟩
theorem rremove_nil (x y : Int) (W : World) : Calls Try.prog 46 #[.pointer none, .agg #[.int .i64 x, .int .i64 y]] W fun e w' => e = .returned (.tuple #[.slice none 0 0, .int .i64 35]) ∧ Fr No W w' := by
  have HF : Hid (Fr No W (W.alloc (.cells #[.int .i64 x, .int .i64 y] 39))) := Fr.alloc _ _ _
  go_enter Try.func46, Try.ntmps46
  go_wp2
  go_ret2
  exact ⟨rfl, HF.out⟩
theorem rsetbase_nil (x y : Int) (W : World) : Calls Try.prog 48 #[.pointer none, .int .i64 x, .int .i64 y] W fun e w' => e = .returned (.tuple #[.slice none 0 0, .int .i64 35]) ∧ Fr No W w' := by
  go_enter Try.func48, Try.ntmps48
  go_wp2
  go_ret2
  exact ⟨rfl, Fr.refl _ _⟩
theorem rreplace_nil (v : Value) (W : World) : Calls Try.prog 49 #[.pointer none, v] W fun e w' => e = .returned (.tuple #[.slice none 0 0, .int .i64 35]) ∧ Fr No W w' := by
  go_enter Try.func49, Try.ntmps49
  go_wp2
  go_ret2
  exact ⟨rfl, Fr.refl _ _⟩
theorem reff_nil (x : Int) (W : World) : Calls Try.prog 50 #[.pointer none, .int .i64 x] W fun e w' => e = .returned (.tuple #[.int .i64 0, .int .i64 35]) ∧ Fr No W w' := by
  go_enter Try.func50, Try.ntmps50
  go_wp2
  go_ret2
  exact ⟨rfl, Fr.refl _ _⟩
theorem changes_nil (W : World) : Calls Try.prog 47 #[.slice none 0 0, .slice none 0 0] W fun e w' => e = .returned (.bool true) ∧ Fr No W w' := by
  go_enter Try.func47, Try.ntmps47
  go_wp2
  refine wp_loop_rounds 1 ?_
  rw [rounds_succ]
  go_wp2
  go_ret
  exact ⟨rfl, Fr.refl _ _⟩
theorem graph_nil (W : World) : Calls Try.prog 23 #[.pointer none] W fun e w' => e = .returned (.agg #[.slice none 0 0, .slice none 0 0]) ∧ Fr No W w' := by
  have HF : Hid (Fr No W (W.alloc (.cells #[.slice none 0 0, .slice none 0 0] 25))) := Fr.alloc _ _ _
  have HR := Lib.hid (RowAt.new W 25 #[.slice none 0 0, .slice none 0 0])
  go_enter Try.func23, Try.ntmps23
  go_wp2
  exact bodyPost_ret (v := .agg #[.slice none 0 0, .slice none 0 0]) (results_cell_row rfl _ _ W.heap.size 25 _ (0, 0) _ rfl HR.out Try.underlying25 rfl size_graph) rfl ⟨rfl, HF.out⟩
end Go.Proofs.Ytlpgbdcdniancaa
