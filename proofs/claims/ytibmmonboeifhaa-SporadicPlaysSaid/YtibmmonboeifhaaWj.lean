/- The statement's From; the reference's New. -/
import Derived.Test.YtibmmonboeifhaaWi
namespace Go.Proofs.Ytibmmonboeifhaa
open Go.RowKit
set_option linter.unusedVariables false

set_option maxRecDepth 100000 in
set_option maxHeartbeats 1000000 in
theorem from_any (b p n l : Int) (w : World) : Calls Try.prog 26 #[.agg (parA b p n l)] w fun e w' => e = .returned (.agg (parA b p n l)) ∧ Below w.heap.size w w' := by
  have HR := Lib.hid (RowAt.new w 45 (parA b p n l))
  have HB : Hid (Below w.heap.size w (w.alloc (.cells (parA b p n l) 45))) := (Below.refl _ _).alloc (Nat.le_refl _) _
  go_enter Try.func26, Try.ntmps26
  go_upto_region 1 with (fail)
  have HB2 := Lib.hid (HB.out.alloc (by simp) (.cells #[.int .i64 0, .int .i64 0, .int .i64 0, .int .i64 0] 53))
  have HR2 := Lib.hid (HR.out.fr (Fr.alloc (fun _ => False) _ (.cells #[.int .i64 0, .int .i64 0, .int .i64 0, .int .i64 0] 53)) id)
  have HN := Lib.hid (RowAt.new (w.alloc (.cells (parA b p n l) 45)) 53 #[.int .i64 0, .int .i64 0, .int .i64 0, .int .i64 0])
  have HY : Hid ((w.alloc (.cells (parA b p n l) 45)).heap.size = w.heap.size + 1) := by show _ = _; simp
  rw [HY.out] at HN
  have HS3 : Hid ((Try.prog.info? 53).map (·.size) = some 4) := by show _ = _; kernel_rfl
  clear HR HB HY
  generalize World.alloc (World.alloc w _) _ = W at HR2 HB2 HN ⊢
  generalize hgg : w.heap.size = x at HR2 HN ⊢
  generalize hyy : x + 1 = y at HN ⊢
  have HGG : Hid (w.heap.size = x ∧ x + 1 = y) := ⟨hgg, hyy⟩
  have hxy : x ≠ y := by omega
  have hyx : y ≠ x := by omega
  clear hgg hyy
  have c0 : W.cell? ⟨x, 0, none⟩ = some (.int .i64 b) := HR2.out.cell 0
  have c1 : W.cell? ⟨x, 1, none⟩ = some (.int .i64 p) := HR2.out.cell 1
  have c2 : W.cell? ⟨x, 2, none⟩ = some (.int .i64 n) := HR2.out.cell 2
  have c3 : W.cell? ⟨x, 3, none⟩ = some (.int .i64 l) := HR2.out.cell 3
  have d0 : W.cell? ⟨y, 0, none⟩ = some (.int .i64 0) := HN.out.cell 0
  have d1 : W.cell? ⟨y, 1, none⟩ = some (.int .i64 0) := HN.out.cell 1
  have d2 : W.cell? ⟨y, 2, none⟩ = some (.int .i64 0) := HN.out.cell 2
  have d3 : W.cell? ⟨y, 3, none⟩ = some (.int .i64 0) := HN.out.cell 3
  have e0 : W.frozen? ⟨y, 0, none⟩ = false := HN.out.frozen 0
  have e1 : W.frozen? ⟨y, 1, none⟩ = false := HN.out.frozen 1
  have e2 : W.frozen? ⟨y, 2, none⟩ = false := HN.out.frozen 2
  have e3 : W.frozen? ⟨y, 3, none⟩ = false := HN.out.frozen 3
  go_wp2
  have HRR := Lib.hid ((((HN.out.set 0 (.int .i64 b)).set 1 (.int .i64 p)).set 2 (.int .i64 n)).set 3 (.int .i64 l))
  refine bodyPost_ret (v := .agg (parA b p n l)) (results_cell_row rfl _ _ y 53 _ (0, 0) _ rfl HRR.out Try.underlying53 rfl HS3.out) rfl ⟨rfl, ?_⟩
  have hy := HGG.out
  exact Fr.below (S := fun k => k = y) HB2.out ((((Fr.set (S := fun k => k = y) W y 0 (.int .i64 b) rfl).trans (Fr.set (S := fun k => k = y) _ y 1 (.int .i64 p) rfl)).trans (Fr.set (S := fun k => k = y) _ y 2 (.int .i64 n) rfl)).trans (Fr.set (S := fun k => k = y) _ y 3 (.int .i64 l) rfl)) HB2.out.size (fun i e => by omega)

def rnA (b p n l : Int) : Array Value := #[.int .i64 b, .int .i64 p, .int .i64 n, .int .i64 l, .int .i64 b, .slice none 0 0, .bool false, .int .i64 0, .int .i64 0, .int .i64 0, .int .i64 (-1)]
set_option maxRecDepth 100000 in
set_option maxHeartbeats 1000000 in
theorem rnew_bad (b p n l : Int) (h : okP b p n l ≠ true) (w : World) : Calls Try.prog 25 #[.agg (parA b p n l)] w fun e w' => e = .returned (.tuple #[.pointer none, .int .i64 34]) ∧ Below w.heap.size w w' := by
  have HR := Lib.hid (RowAt.new w 53 (parA b p n l))
  have HB : Hid (Below w.heap.size w (w.alloc (.cells (parA b p n l) 53))) := (Below.refl _ _).alloc (Nat.le_refl _) _
  have HS : Hid ((Try.prog.info? 53).map (·.size) = some (parA b p n l).size) := by show _ = _; unfold parA; kernel_rfl
  have HC : Hid (∀ w, Calls Try.prog 29 #[.agg (parA b p n l)] w fun e w' => e = .returned (.int .i64 34) ∧ Below w.heap.size w w') := fun w => by
    have := rcheck_any b p n l w; rw [chkP, if_neg h] at this; exact this
  clear h
  go_enter Try.func25, Try.ntmps25
  go_upto_region 1 with (fail)
  generalize World.alloc w _ = W at HR HB ⊢
  generalize hgg : w.heap.size = x at HR ⊢
  have HGG := Lib.hid hgg
  clear hgg
  go_wp2_with (first
    | (refine wpList_load_row rfl 53 _ rfl x rfl 53 (parA b p n l) (0, 0) _ HR.out Try.underlying53 rfl HS.out ?_)
    | (go_at_call 29; refine (HC.out _).mono ?_; rintro e W2 ⟨rfl, g2⟩; have G2 := Lib.hid g2; clear g2))
  go_ret2
  exact ⟨rfl, HB.out.trans (G2.out.mono HB.out.size)⟩

set_option maxRecDepth 100000 in
set_option maxHeartbeats 1000000 in
theorem rnew_ok (b p : Int) (n : Nat) (l : Int) (h : okP b p n l = true) (w : World) : Calls Try.prog 25 #[.agg (parA b p n l)] w fun e w' => ∃ B, e = .returned (.tuple #[.pointer (some ⟨B, 0, none⟩), .int .i64 0]) ∧ RS w.heap.size B b b (newA b p n l) w' ∧ Below w.heap.size w w' := by
  obtain ⟨k1, k2, k3, k4, k5, k6⟩ := (okP_iff _ _ _ _).1 h
  have HI := Lib.hid (new_inv b p n l h)
  have HN5 : Hid (n ≤ 32) := by show _ ≤ _; omega
  have HR := Lib.hid (RowAt.new w 53 (parA b p n l))
  have HB : Hid (Below w.heap.size w (w.alloc (.cells (parA b p n l) 53))) := (Below.refl _ _).alloc (Nat.le_refl _) _
  have HS : Hid ((Try.prog.info? 53).map (·.size) = some (parA b p n l).size) := by show _ = _; unfold parA; kernel_rfl
  have HC : Hid (∀ w, Calls Try.prog 29 #[.agg (parA b p n l)] w fun e w' => e = .returned (.int .i64 0) ∧ Below w.heap.size w w') := fun w => by
    have := rcheck_any b p n l w; rw [chkP, if_pos h] at this; exact this
  have HX : Hid (w.heap.size < (w.alloc (.cells (parA b p n l) 53)).heap.size) := by show _ < _; simp
  clear h
  go_enter Try.func25, Try.ntmps25
  go_upto_region 1 with (fail)
  generalize World.alloc w _ = W at HR HB HX ⊢
  generalize hgg : w.heap.size = x at HR HX ⊢
  have HGG := Lib.hid hgg
  clear hgg
  go_upto_region 4 with (first
    | (refine wpList_load_row rfl 53 _ rfl x rfl 53 (parA b p n l) (0, 0) _ HR.out Try.underlying53 rfl HS.out ?_)
    | (go_at_call 29; refine (HC.out _).mono ?_; rintro e W2 ⟨rfl, g2⟩; have G2 := Lib.hid g2; clear g2))
  have HR2 := Lib.hid (HR.out.below G2.out HX.out)
  have HB2 := Lib.hid (HB.out.trans (G2.out.mono HB.out.size))
  have c0 : W2.cell? ⟨x, 0, none⟩ = some (.int .i64 b) := HR2.out.cell 0
  have c1 : W2.cell? ⟨x, 1, none⟩ = some (.int .i64 p) := HR2.out.cell 1
  have c2 : W2.cell? ⟨x, 2, none⟩ = some (.int .i64 n) := HR2.out.cell 2
  have c3 : W2.cell? ⟨x, 3, none⟩ = some (.int .i64 l) := HR2.out.cell 3
  have HX2 : Hid (x < W2.heap.size) := HR2.out.lt
  clear HC HR HX HB G2
  go_wp2
  go_ret2
  have hz := HB2.out.size
  refine ⟨W2.heap.size, rfl, ⟨{ b0 := b, v := .slice none 0 0, f := 0, la := 0 }, rfl, ⟨RowAt.new W2 _ _, ⟨rfl, .inl ⟨rfl, rfl⟩⟩, (fun e => nomatch e), hz, HI.out, fun h => absurd h (by show ¬ (0 : Int) < 0; omega), (show (-1 : Int) ≤ 0 by omega), HN5.out⟩⟩, ?_⟩
  exact HB2.out.alloc hz _
end Go.Proofs.Ytibmmonboeifhaa
