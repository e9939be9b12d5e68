/- Timers: find, isTaken, leastFree, Get, Delete. -/
import Derived.Test.YtkjokmfhmppinaaOc
namespace Go.Proofs.Ytkjokmfhmppinaa
open Go.RowKit Go.Maps
set_option linter.unusedVariables false

abbrev tcs (x : Tm) : Array Value := #[.int .i64 x.o, .int .i64 x.k, .int .i64 x.c, .int .i64 x.p, .int .i64 x.d, .int .i64 x.v, .int .i64 x.f, .int .i64 x.i, .int .i64 x.t]
theorem tcs_one (x : Tm) : (tcs x).all (·.oneCell') = true := by simp [tcs, Value.oneCell']
theorem tcs_size (x : Tm) : (Try.prog.info? 81).map (·.size) = some (tcs x).size := by show _ = some 9; exact size_timer
def isW (x : Int) : Prop := (Lit.int .i64 x).wf = true
theorem Fr.setNew {S : Nat → Prop} {W W1 : World} {Z : Nat} {cs : Array Value} (h : Fr S W W1) (hz : W.heap.size ≤ Z) : Fr S W (W1.setRow Z cs) :=
  h.over (Fr.setRow (S := fun k => k = Z) _ _ _ rfl) (fun i e => .inr (by subst e; exact hz))
theorem Fr.setNewC {S : Nat → Prop} {W W1 : World} {Z i : Nat} {v : Value} (h : Fr S W W1) (hz : W.heap.size ≤ Z) : Fr S W (W1.setCell ⟨Z, i, none⟩ v) :=
  h.over (Fr.set (S := fun k => k = Z) _ _ _ _ rfl) (fun i e => .inr (by subst e; exact hz))
set_option maxRecDepth 100000 in
set_option maxHeartbeats 1000000 in
theorem find_some {W : World} {B b : Nat} {l : TS} {c : Int} (h : TQ W B b l c) {x : Int} (hx : isW x) {t : Tm} (hg : get l x = some t) : Calls Try.prog 42 #[.pointer (some ⟨B, 0, none⟩), .int .i64 x] W fun e w' => e = .returned (.tuple #[tmE t, .int .i64 0]) ∧ Fr No W w' := by
  have HZ := Lib.hid (RowAt.new W 81 (tcs tz))
  have HF : Hid (Fr No W (W.alloc (.cells (tcs tz) 81))) := Fr.alloc _ _ _
  have HQ : Hid (∀ W2, Fr No W W2 → TQ W2 B b l c ∧ (Instr.lookup 65 (.map (some b)) (.int .i64 x) true).run Try.prog W2 = .ok (.tuple #[tmE t, .bool true]) W2) := fun W2 f => ⟨h.no f, by
    have := (h.no f).map.look_ok hx
    rw [hg] at this
    exact this⟩
  clear h hx hg
  unfold tcs tz at HZ HF
  go_enter Try.func42, Try.ntmps42
  go_upto_region 1 with (fail)
  generalize World.alloc W _ = W1 at HZ HF ⊢
  generalize hW : W.heap.size = Z at HZ ⊢
  have HW := Lib.hid hW
  clear hW
  obtain ⟨hq, hl⟩ := HQ.out _ HF.out
  have HQ1 := Lib.hid hq
  have HL := Lib.hid hl
  have c0 : W1.cell? ⟨B, 0, none⟩ = some (.map (some b)) := hq.row.cell 0
  clear hq hl
  have HZ1 : Hid (∀ cs, RowAt (W1.alloc (.cells cs 81)) Z 81 (tcs tz)) := fun cs => HZ.out.fr (Fr.alloc No _ _) id
  have HE : Hid (Z < W1.heap.size) := HZ.out.lt
  go_wp2_with (first
    | (go_at_call 34; refine (ismade_ok HQ1.out).mono ?_; rintro e w2 ⟨rfl, f2⟩; subst f2)
    | (at_lookup; refine wpList_look rfl _ _ _ true rfl _ _ rfl rfl _ HL.out ?_; unfold tmE; go_frame)
    | ((with_reducible refine ld_gate ?_); refine wpList_load_mid rfl 81 (Operand.tmp 6) rfl W1.heap.size 0 rfl [_, _, _, _, _, _, _, _, _] _ (RowAt.new W1 _ (tcs t)).range Try.underlying81 rfl size_timer ?_; go_frame)
    | ((with_reducible refine st_gate ?_); refine wpList_store_row rfl 81 (Operand.tmp 6) (Operand.tmp 19) rfl W1.heap.size (tcs t) rfl rfl _ (tcs tz) (RowAt.new W1 _ _) (tcs_size t) rfl (tcs_one t) ?_; rw [World.setRow_alloc_new])
    | ((with_reducible refine st_gate ?_); refine wpList_store_row rfl 81 (Operand.tmp 4) (Operand.tmp 24) rfl Z (tcs t) rfl rfl _ (tcs tz) (HZ1.out _) (tcs_size t) rfl (tcs_one t) ?_))
  refine bodyPost_ret (v := .tuple #[.agg (tcs t), .int .i64 0]) (results_row_tmp rfl _ _ Z 81 _ _ _ rfl (setRow_heap _ _ _ _ _ _ (HZ1.out _)) Try.underlying81 rfl (tcs_size t) rfl) rfl ⟨rfl, (HF.out.trans (Fr.alloc _ _ _)).setNew (by rw [HW.out]; exact Nat.le_refl _)⟩
set_option maxRecDepth 100000 in
set_option maxHeartbeats 1000000 in
theorem find_none {W : World} {B b : Nat} {l : TS} {c : Int} (h : TQ W B b l c) {x : Int} (hx : isW x) (hg : get l x = none) : Calls Try.prog 42 #[.pointer (some ⟨B, 0, none⟩), .int .i64 x] W fun e w' => e = .returned (.tuple #[tmE tz, .int .i64 3]) ∧ Fr No W w' := by
  have HZ := Lib.hid (RowAt.new W 81 (tcs tz))
  have HF : Hid (Fr No W (W.alloc (.cells (tcs tz) 81))) := Fr.alloc _ _ _
  have HQ : Hid (∀ W2, Fr No W W2 → TQ W2 B b l c ∧ (Instr.lookup 65 (.map (some b)) (.int .i64 x) true).run Try.prog W2 = .ok (.tuple #[tmE tz, .bool false]) W2) := fun W2 f => ⟨h.no f, by
    have := (h.no f).map.look_ok hx
    rw [hg] at this
    exact this⟩
  clear h hx hg
  unfold tcs tz at HZ HF
  go_enter Try.func42, Try.ntmps42
  go_upto_region 1 with (fail)
  generalize World.alloc W _ = W1 at HZ HF ⊢
  generalize hW : W.heap.size = Z at HZ ⊢
  have HW := Lib.hid hW
  clear hW
  obtain ⟨hq, hl⟩ := HQ.out _ HF.out
  have HQ1 := Lib.hid hq
  have HL := Lib.hid hl
  have c0 : W1.cell? ⟨B, 0, none⟩ = some (.map (some b)) := hq.row.cell 0
  clear hq hl
  have HZ1 : Hid (∀ cs, RowAt (W1.alloc (.cells cs 81)) Z 81 (tcs tz)) := fun cs => HZ.out.fr (Fr.alloc No _ _) id
  go_wp2_with (first
    | (go_at_call 34; refine (ismade_ok HQ1.out).mono ?_; rintro e w2 ⟨rfl, f2⟩; subst f2)
    | (at_lookup; refine wpList_look rfl _ _ _ true rfl _ _ rfl rfl _ HL.out ?_; unfold tmE; go_frame)
    | ((with_reducible refine st_gate ?_); refine wpList_store_row rfl 81 (Operand.tmp 6) (Operand.tmp 19) rfl W1.heap.size (tcs tz) rfl rfl _ (tcs tz) (RowAt.new W1 _ _) (tcs_size tz) rfl (tcs_one tz) ?_; rw [World.setRow_alloc_new])
    | ((with_reducible refine st_gate ?_); refine wpList_store_row rfl 81 (Operand.tmp 4) (Operand.tmp 23) rfl Z (tcs tz) rfl rfl _ (tcs tz) (HZ1.out _) (tcs_size tz) rfl (tcs_one tz) ?_))
  refine bodyPost_ret (v := .tuple #[.agg (tcs tz), .int .i64 3]) (results_row_tmp rfl _ _ Z 81 _ _ _ rfl (setRow_heap _ _ _ _ _ _ (HZ1.out _)) Try.underlying81 rfl (tcs_size tz) rfl) rfl ⟨rfl, (HF.out.trans (Fr.alloc _ _ _)).setNew (by rw [HW.out]; exact Nat.le_refl _)⟩
set_option maxRecDepth 100000 in
theorem find_nil (x : Int) (W : World) : Calls Try.prog 42 #[.pointer none, .int .i64 x] W fun e w' => e = .returned (.tuple #[tmE tz, .int .i64 35]) ∧ Fr No W w' := by
  have HZ := Lib.hid (RowAt.new W 81 (tcs tz))
  have HF : Hid (Fr No W (W.alloc (.cells (tcs tz) 81))) := Fr.alloc _ _ _
  unfold tcs tz at HZ HF
  go_enter Try.func42, Try.ntmps42
  go_upto_region 1 with (fail)
  generalize World.alloc W _ = W1 at HZ HF ⊢
  generalize hW : W.heap.size = Z at HZ ⊢
  have HW := Lib.hid hW
  clear hW
  go_wp2_with (first
    | (go_at_call 34; refine (ismade_nil _).mono ?_; rintro e w2 ⟨rfl, f2⟩; subst f2)
    | ((with_reducible refine st_gate ?_); refine wpList_store_row rfl 81 (Operand.tmp 4) (Operand.tmp 11) rfl Z (tcs tz) rfl rfl _ (tcs tz) HZ.out (tcs_size tz) rfl (tcs_one tz) ?_))
  refine bodyPost_ret (v := .tuple #[.agg (tcs tz), .int .i64 35]) (results_row_tmp rfl _ _ Z 81 _ _ _ rfl (setRow_heap _ _ _ _ _ _ HZ.out) Try.underlying81 rfl (tcs_size tz) rfl) rfl ⟨rfl, HF.out.setNew (by rw [HW.out]; exact Nat.le_refl _)⟩
set_option maxRecDepth 100000 in
theorem istaken_ok {W : World} {B b : Nat} {l : TS} {c : Int} (h : TQ W B b l c) {x : Int} (hx : isW x) : Calls Try.prog 58 #[.pointer (some ⟨B, 0, none⟩), .int .i64 x] W fun e w' => e = .returned (.bool (get l x).isSome) ∧ Fr No W w' := by
  have c0 : W.cell? ⟨B, 0, none⟩ = some (.map (some b)) := h.row.cell 0
  have HL := Lib.hid (h.map.look_ok hx)
  clear h hx
  generalize hv : (get l x).getD tz = v at HL
  clear hv
  go_enter Try.func58, Try.ntmps58
  go_wp2_with (first
    | (at_lookup; refine wpList_look rfl _ _ _ true rfl _ _ rfl rfl _ HL.out ?_; unfold tmE; go_frame)
    | ((with_reducible refine st_gate ?_); refine wpList_store_row rfl 81 (Operand.tmp 5) (Operand.tmp 14) rfl W.heap.size (tcs v) rfl rfl _ (tcs tz) (RowAt.new W _ _) (tcs_size v) rfl (tcs_one v) ?_; rw [World.setRow_alloc_new]))
  go_ret
  exact ⟨rfl, Fr.alloc _ _ _⟩
end Go.Proofs.Ytkjokmfhmppinaa
