/- Timers: Set. -/
import Derived.Test.YtkjokmfhmppinaaOf
namespace Go.Proofs.Ytkjokmfhmppinaa
open Go.RowKit Go.Maps
set_option linter.unusedVariables false

set_option maxRecDepth 100000 in
set_option maxHeartbeats 1000000 in
theorem set_err {W : World} {a : Option Addr} {x : Int} {z : Int} (f i t : Int) (hz : z ≠ 0) (hf : ∀ W2, Fr No W W2 → Calls Try.prog 42 #[.pointer a, .int .i64 x] W2 fun e w' => e = .returned (.tuple #[tmE tz, .int .i64 z]) ∧ Fr No W2 w') :
    Calls Try.prog 24 #[.pointer a, .int .i64 x, spV f i t] W fun e w' => e = .returned (.tuple #[spOf tz, .int .i64 z]) ∧ Fr No W w' := by
  have HZ := Lib.hid (RowAt.new (W.alloc (.cells #[.int .i64 f, .int .i64 i, .int .i64 t] 31)) 31 sz)
  rw [show (W.alloc (.cells #[.int .i64 f, .int .i64 i, .int .i64 t] 31)).heap.size = W.heap.size + 1 from by simp] at HZ
  have HF : Hid (Fr No W ((W.alloc (.cells #[.int .i64 f, .int .i64 i, .int .i64 t] 31)).alloc (.cells sz 31))) := (Fr.alloc _ _ _).trans (Fr.alloc _ _ _)
  have HC := Lib.hid (hf _ HF.out)
  have hz' : (z != 0) = true := by simpa using hz
  clear hf hz
  unfold sz at HZ HF HC
  unfold spV
  go_enter Try.func24, Try.ntmps24
  go_upto_region 1 with (fail)
  generalize World.alloc (World.alloc W _) _ = W1 at HZ HF HC ⊢
  have HW : Hid (W.heap.size ≤ W.heap.size + 1) := by show _ ≤ _; omega
  generalize W.heap.size + 1 = Z at HZ HW ⊢
  have HZ2 : Hid (∀ w2 cs, Fr No W1 w2 → RowAt (w2.alloc (.cells cs 81)) Z 31 sz) := fun w2 cs f2 => HZ.out.fr (f2.trans (Fr.alloc No _ _)) id
  go_wp2_with (first
    | (go_at_call 42; refine HC.out.mono ?_; unfold tmE; rintro e w2 ⟨rfl, f2⟩; have F2 := Lib.hid f2; clear f2)
    | ((with_reducible refine st_gate ?_); refine wpList_store_row rfl 81 (Operand.tmp 8) (Operand.tmp 15) rfl w2.heap.size (tcs tz) rfl rfl _ (tcs tz) (RowAt.new w2 _ _) (tcs_size tz) rfl (tcs_one tz) ?_; rw [World.setRow_alloc_new])
    | ((with_reducible refine st_gate ?_); refine wpList_store_row rfl 31 (Operand.tmp 6) (Operand.tmp 19) rfl Z sz rfl rfl _ _ (HZ2.out _ _ F2.out) size_spec rfl (by simp [Value.oneCell']) ?_))
  refine bodyPost_ret (v := .tuple #[.agg sz, .int .i64 z]) (results_row_tmp rfl _ _ Z 31 _ _ _ rfl (setRow_heap _ _ _ _ _ _ (HZ2.out _ _ F2.out)) Try.underlying31 rfl size_spec rfl) rfl ⟨rfl, (HF.out.trans (F2.out.trans (Fr.alloc _ _ _))).setNew HW.out⟩
/-- A specification within the limits of times. -/
def spOk (f i t : Int) : Bool := isT f && isT i && isT t
set_option maxRecDepth 100000 in
set_option maxHeartbeats 2000000 in
theorem set_range {W : World} {B b : Nat} {l : TS} {c : Int} (h : TQ W B b l c) {x : Int} (hx : isW x) {u : Tm} (hg : get l x = some u) (f i t : Int) (hr : spOk f i t = false) :
    Calls Try.prog 24 #[.pointer (some ⟨B, 0, none⟩), .int .i64 x, spV f i t] W fun e w' => e = .returned (.tuple #[spOf tz, .int .i64 34]) ∧ Fr No W w' := by
  have HY := Lib.hid ((RowAt.new W 31 #[.int .i64 f, .int .i64 i, .int .i64 t]).fr (Fr.alloc No _ (.cells sz 31)) id)
  have HZ := Lib.hid (RowAt.new (W.alloc (.cells #[.int .i64 f, .int .i64 i, .int .i64 t] 31)) 31 sz)
  rw [show (W.alloc (.cells #[.int .i64 f, .int .i64 i, .int .i64 t] 31)).heap.size = W.heap.size + 1 from by simp] at HZ
  have HF : Hid (Fr No W ((W.alloc (.cells #[.int .i64 f, .int .i64 i, .int .i64 t] 31)).alloc (.cells sz 31))) := (Fr.alloc _ _ _).trans (Fr.alloc _ _ _)
  have HC := Lib.hid (find_some (h.no HF.out) hx hg)
  have HR := Lib.hid hr
  clear h hx hg hr
  unfold sz at HZ HF HC HY
  unfold spV
  go_enter Try.func24, Try.ntmps24
  go_upto_region 1 with (fail)
  generalize World.alloc (World.alloc W _) _ = W1 at HY HZ HF HC ⊢
  have HW : Hid (W.heap.size ≤ W.heap.size + 1) := by show _ ≤ _; omega
  generalize W.heap.size + 1 = Z at HZ HW ⊢
  generalize hY : W.heap.size = Y at HY HW ⊢
  have HY' := Lib.hid hY
  clear hY
  go_upto_region 4 with (first
    | (go_at_call 42; refine HC.out.mono ?_; unfold tmE; rintro e w2 ⟨rfl, f2⟩; have F2 := Lib.hid f2; clear f2)
    | ((with_reducible refine st_gate ?_); refine wpList_store_row rfl 81 (Operand.tmp 8) (Operand.tmp 15) rfl w2.heap.size (tcs u) rfl rfl _ (tcs tz) (RowAt.new w2 _ _) (tcs_size u) rfl (tcs_one u) ?_; rw [World.setRow_alloc_new]))
  have HF3 : Hid (Fr No W1 (w2.alloc (.cells (tcs u) 81))) := F2.out.trans (Fr.alloc _ _ _)
  generalize World.alloc w2 _ = W3 at HF3 ⊢
  generalize w2.heap.size = X
  have HZ3 := Lib.hid (HZ.out.fr HF3.out id)
  have HY3 := HY.out.fr HF3.out id
  have c0 : W3.cell? ⟨Y, 0, none⟩ = some (.int .i64 f) := HY3.cell 0
  have c1 : W3.cell? ⟨Y, 1, none⟩ = some (.int .i64 i) := HY3.cell 1
  have c2 : W3.cell? ⟨Y, 2, none⟩ = some (.int .i64 t) := HY3.cell 2
  clear HY3
  have HT1 := Lib.hid (fun w => istime_any f w)
  have HT2 := Lib.hid (fun w => istime_any i w)
  have HT3 := Lib.hid (fun w => istime_any t w)
  have fin : Hid (∀ A : Array Value, A.getD 6 undef = .pointer (some ⟨Z, 0, none⟩) → A.getD 7 undef = .int .i64 34 → bodyPost Try.prog Try.f24 (fun e w' => e = .returned (.tuple #[spOf tz, .int .i64 34]) ∧ Fr No W w') .ret ⟨A, []⟩ (W3.setRow Z sz)) := fun A h1 h2 =>
    bodyPost_ret (v := .tuple #[.agg sz, .int .i64 34]) (results_row_tmp rfl _ _ Z 31 _ _ _ h1 (setRow_heap _ _ _ _ _ _ HZ3.out) Try.underlying31 rfl size_spec h2) rfl ⟨rfl, (HF.out.trans HF3.out).setNew (by rw [HY'.out]; exact HW.out)⟩
  cases h1 : isT f
  · rw [h1] at HT1
    go_wp2_with (first
      | (go_at_call 45; refine (HT1.out _).mono ?_; rintro e w5 ⟨rfl, f5⟩; subst f5)
      | ((with_reducible refine st_gate ?_); refine wpList_store_row rfl 31 (Operand.tmp 6) (Operand.tmp 37) rfl Z sz rfl rfl _ _ HZ3.out size_spec rfl (by simp [Value.oneCell']) ?_))
    exact fin.out _ rfl rfl
  cases h2 : isT i
  · rw [h1] at HT1
    rw [h2] at HT2
    go_wp2_with (first
      | (go_at_call 45; refine (HT1.out _).mono ?_; rintro e w5 ⟨rfl, f5⟩; subst f5; clear HT1)
      | (go_at_call 45; refine (HT2.out _).mono ?_; rintro e w5 ⟨rfl, f5⟩; subst f5; clear HT2)
      | ((with_reducible refine st_gate ?_); refine wpList_store_row rfl 31 (Operand.tmp 6) (Operand.tmp 37) rfl Z sz rfl rfl _ _ HZ3.out size_spec rfl (by simp [Value.oneCell']) ?_))
    exact fin.out _ rfl rfl
  have h3 : isT t = false := by have := HR.out; simp [spOk, h1, h2] at this; exact this
  rw [h1] at HT1
  rw [h2] at HT2
  rw [h3] at HT3
  go_wp2_with (first
    | (go_at_call 45; refine (HT1.out _).mono ?_; rintro e w5 ⟨rfl, f5⟩; subst f5; clear HT1)
    | (go_at_call 45; refine (HT2.out _).mono ?_; rintro e w5 ⟨rfl, f5⟩; subst f5; clear HT2)
    | (go_at_call 45; refine (HT3.out _).mono ?_; rintro e w5 ⟨rfl, f5⟩; subst f5; clear HT3)
    | ((with_reducible refine st_gate ?_); refine wpList_store_row rfl 31 (Operand.tmp 6) (Operand.tmp 37) rfl Z sz rfl rfl _ _ HZ3.out size_spec rfl (by simp [Value.oneCell']) ?_))
  exact fin.out _ rfl rfl
end Go.Proofs.Ytkjokmfhmppinaa
