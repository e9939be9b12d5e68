/- Timers: New, Delete, Set, checkNew, Create. -/
import Derived.Test.YtkjokmfhmppinaaOe
namespace Go.Proofs.Ytkjokmfhmppinaa
open Go.RowKit Go.Maps
set_option linter.unusedVariables false

set_option maxRecDepth 100000 in
theorem tnew_ok (W : World) : Calls Try.prog 10 #[] W fun e w' => e = .returned (.pointer (some ⟨W.heap.size + 1, 0, none⟩)) ∧ TQ w' (W.heap.size + 1) W.heap.size [] 0 ∧ Fr No W w' := by
  have hmm := @run_makeMap Try.prog
  have HM := Lib.hid (TM.new W)
  go_enter Try.func10, Try.ntmps10
  go_wp2
  go_ret
  refine ⟨by simp, ⟨?_, HM.out.fr (Fr.alloc No _ _) id, List.Pairwise.nil, by simp, by simp⟩, (Fr.alloc _ _ _).trans (Fr.alloc _ _ _)⟩
  have := RowAt.new (W.alloc (.map #[] 0)) 67 #[.map (some W.heap.size), .int .i64 0]
  rw [show (W.alloc (.map #[] 0)).heap.size = W.heap.size + 1 from by simp] at this
  exact this

set_option maxRecDepth 100000 in
set_option maxHeartbeats 1000000 in
theorem delete_err {W : World} {a : Option Addr} {x : Int} {z : Int} (hz : z ≠ 0) (hf : Calls Try.prog 42 #[.pointer a, .int .i64 x] W fun e w' => e = .returned (.tuple #[tmE tz, .int .i64 z]) ∧ Fr No W w') :
    Calls Try.prog 19 #[.pointer a, .int .i64 x] W fun e w' => e = .returned (.int .i64 z) ∧ Fr No W w' := by
  have HC := Lib.hid hf
  have hz' : (z != 0) = true := by simpa using hz
  clear hf hz
  go_enter Try.func19, Try.ntmps19
  go_wp2_with (first
    | (go_at_call 42; refine HC.out.mono ?_; unfold tmE; rintro e w2 ⟨rfl, f2⟩; have F2 := Lib.hid f2; clear f2)
    | ((with_reducible refine st_gate ?_); refine wpList_store_row rfl 81 (Operand.tmp 5) (Operand.tmp 11) rfl w2.heap.size (tcs tz) rfl rfl _ (tcs tz) (RowAt.new w2 _ _) (tcs_size tz) rfl (tcs_one tz) ?_; rw [World.setRow_alloc_new]))
  go_ret
  exact ⟨rfl, F2.out.trans (Fr.alloc _ _ _)⟩
set_option maxRecDepth 100000 in
set_option maxHeartbeats 1000000 in
theorem delete_ok {W : World} {B b : Nat} {l : TS} {c : Int} (h : TQ W B b l c) {x : Int} (hx : isW x) {t : Tm} (hg : get l x = some t) :
    Calls Try.prog 19 #[.pointer (some ⟨B, 0, none⟩), .int .i64 x] W fun e w' => e = .returned (.int .i64 0) ∧ TQ w' B b (del x l) c ∧ Fr (fun k => k = b) W w' := by
  have HC := Lib.hid (find_some h hx hg)
  have HS := Lib.hid h
  have HX := Lib.hid hx
  clear h hx hg
  go_enter Try.func19, Try.ntmps19
  go_upto_region 4 with (first
    | (go_at_call 42; refine HC.out.mono ?_; unfold tmE; rintro e w2 ⟨rfl, f2⟩; have F2 := Lib.hid f2; clear f2)
    | ((with_reducible refine st_gate ?_); refine wpList_store_row rfl 81 (Operand.tmp 5) (Operand.tmp 11) rfl w2.heap.size (tcs t) rfl rfl _ (tcs tz) (RowAt.new w2 _ _) (tcs_size t) rfl (tcs_one t) ?_; rw [World.setRow_alloc_new]))
  have HF3 : Hid (Fr No W (w2.alloc (.cells (tcs t) 81))) := F2.out.trans (Fr.alloc _ _ _)
  generalize World.alloc w2 _ = W3 at HF3 ⊢
  have HS3 := Lib.hid (HS.out.no HF3.out)
  have c0 : W3.cell? ⟨B, 0, none⟩ = some (.map (some b)) := HS3.out.row.cell 0
  have hd := fun ty => HS3.out.map.drop HX.out ty
  obtain ⟨W4, d1, d2, d3⟩ := hd 0
  have HD : Hid (∀ ty, (Builtin.delete_ #[65, 3] ty #[.map (some b), .int .i64 x]).run Try.prog W3 = .ok (.tuple #[]) W4) := fun ty => d1
  have HM4 := Lib.hid d2
  have HF4 := Lib.hid d3
  clear d1 d2 d3 hd
  go_wp2_with (at_delete; refine wpList_bi2 rfl _ _ _ _ rfl _ _ rfl rfl _ HD.out ?_)
  go_ret
  refine ⟨rfl, ⟨HS3.out.row.fr HF4.out (fun e => HS3.out.ne e.symm), HM4.out, sorted_del HS.out.sorted x, Nat.le_trans (List.length_filter_le _ _) HS.out.len, fun p hp => HS.out.key p (List.mem_filter.1 hp).1⟩, HF3.out.any.trans HF4.out⟩
end Go.Proofs.Ytkjokmfhmppinaa
