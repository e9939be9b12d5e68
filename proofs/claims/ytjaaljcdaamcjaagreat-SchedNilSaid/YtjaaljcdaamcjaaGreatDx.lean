/- Package sched: SchedNil's walk. -/
import Derived.Test.YtjaaljcdaamcjaaGreatDw
import Derived.Deep.MidRow
namespace Go.Proofs.YtjaaljcdaamcjaaGreat
open Go.RowKit Go.Proofs.YtjaaljcdaamcjaaGreat.Pa
set_option linter.unusedVariables false

theorem wpList_load_mid_g {P : Program} {ops : Array Oper} {rest : List Oper} {op : Oper} {a : Act} {w : World} {Q : Exit → Act → World → Prop} (hgd : Region.wanted op (yielded ops a.tmps) = true) (ty : TypeId) (x : Operand) (ho : op.op = .load ty x)
    (b o : Nat) (hx : a.eval x = .pointer (some ⟨b, o, none⟩)) (cs : List Value) (d : TypeDesc) (hc : w.rangeAt b o cs)
    (hu : P.underlying ty = some d) (hd : d.isRow = true) (hi : (P.info? ty).map (·.size) = some cs.length)
    (h : wpList P ops Q rest (a.put op.dst (.agg cs.toArray)) w) : wpList P ops Q (op :: rest) a w := by
  rw [wpList, if_pos hgd]
  exact .inl (wp_load_mid ty x ho b o hx cs d hc hu hd hi h)
theorem row_range {W : World} {B : Nat} {t : TypeId} {cs : Array Value} (h : RowAt W B t cs) : W.rangeAt B 0 cs.toList := fun j v hv => by rw [Nat.zero_add, RowAt.cell h]; simpa using hv
set_option maxRecDepth 100000 in
set_option maxHeartbeats 4000000 in
theorem step_nil (d gp rw th pi p0 p1 p2 p3 : Int) (p4 : Bool) (p5 p6 p7 p8 : Int) (le : Option Addr) (lm lc : Nat) (hd0 : 0 ≤ d) (hd1 : d < 256) (now : Int) (W : World) : Calls Tryz.prog 13 #[.pointer none, .pointer none, .agg #[.int .u8 d, .int .u8 gp, .int .i64 rw, .int .i64 th, .int .i64 pi, .int .i64 p0, .int .i64 p1, .int .i64 p2, .int .i64 p3, .bool p4, .int .i64 p5, .int .i64 p6, .int .i64 p7, .int .i64 p8, .slice le lm lc], .int .i64 now] W fun e w' => e = .returned (.bool true) ∧ Fr Non W w' := by
  have HCH := Lib.hid (change_nil d gp rw th pi p0 p1 p2 p3 p4 p5 p6 p7 p8 le lm lc hd0 hd1)
  go_enter Tryz.func13, Tryz.ntmps13
  go_upto_region 1 with (fail)
  have HF1 : Hid (Fr Non W (W.alloc (.cells #[.int .u8 d, .int .u8 gp, .int .i64 rw, .int .i64 th, .int .i64 pi, .int .i64 p0, .int .i64 p1, .int .i64 p2, .int .i64 p3, .bool p4, .int .i64 p5, .int .i64 p6, .int .i64 p7, .int .i64 p8, .slice le lm lc] 44))) := frA (Fr.refl _ _)
  have HX1 : Hid (RowAt (W.alloc (.cells #[.int .u8 d, .int .u8 gp, .int .i64 rw, .int .i64 th, .int .i64 pi, .int .i64 p0, .int .i64 p1, .int .i64 p2, .int .i64 p3, .bool p4, .int .i64 p5, .int .i64 p6, .int .i64 p7, .int .i64 p8, .slice le lm lc] 44)) W.heap.size 44 #[.int .u8 d, .int .u8 gp, .int .i64 rw, .int .i64 th, .int .i64 pi, .int .i64 p0, .int .i64 p1, .int .i64 p2, .int .i64 p3, .bool p4, .int .i64 p5, .int .i64 p6, .int .i64 p7, .int .i64 p8, .slice le lm lc]) := RowAt.new _ _ _
  generalize W.alloc _ = w1 at HF1 HX1 ⊢
  generalize W.heap.size = x at HX1 ⊢
  have c0 : w1.cell? ⟨x, 0, none⟩ = some (.int .u8 d) := HX1.out.cell 0
  have c14 : w1.cell? ⟨x, 14, none⟩ = some (.slice le lm lc) := HX1.out.cell 14
  have HK : Hid (∀ w2, Fr Non w1 w2 → w2.cell? ⟨x, 14, none⟩ = some (.slice le lm lc)) := fun w2 f => (HX1.out.fr f id).cell 14
  by_cases h8 : d % 12 = 8
  · go_wp2_with (first
      | (go_at_call 18; refine (pick_nil _ _ _).mono ?_; rintro e w3 ⟨rfl, f3⟩; have F3 : Hid (Fr Non w1 w3) := f3; clear f3 c14; have c14 := HK.out _ F3.out)
      | (go_at_call 20; refine (rpick_nil _ _ _).mono ?_; rintro e w4 ⟨rfl, f4⟩; have F4 : Hid (Fr Non w1 w4) := F3.out.trans f4; clear f4)
      | (go_at_call 21; refine (eqnil _).mono ?_; rintro e w5 ⟨rfl, f5⟩; have F5 : Hid (Fr Non w1 w5) := F4.out.trans f5; clear f5))
    go_ret
    exact ⟨rfl, HF1.out.trans F5.out⟩
  have n8 : (d % 12 == 8) = false := by simpa using h8
  by_cases h9 : d % 12 = 9
  · clear h8
    go_wp2
    go_region_held3 (fun w' => w'.cell? ⟨x, 14, none⟩ = some (.slice le lm lc))
      (first | (exact c14) | (exact HK.out _ F4.out) | (exact HK.out _ F3.out))
      (first
        | (go_at_call 22; refine (charge_nil _ _ _).mono ?_; rintro e w3 ⟨rfl, f3⟩; have F3 : Hid (Fr Non w1 w3) := (frD (Fr.refl _ _)).trans f3; clear f3)
        | (go_at_call 23; refine (rcharge_nil _ _ _).mono ?_; rintro e w4 ⟨rfl, f4⟩; have F4 : Hid (Fr Non w1 w4) := F3.out.trans f4; clear f4))
    go_wp2
    go_ret
    exact ⟨rfl, HF1.out.trans F4.out⟩
  have n9 : (d % 12 == 9) = false := by simpa using h9
  by_cases h10 : d % 12 = 10
  · clear h8 h9
    go_upto_region 11 with (first
      | (go_at_call 18; refine (pick_nil _ _ _).mono ?_; rintro e w3 ⟨rfl, f3⟩; have F3 : Hid (Fr Non w1 w3) := f3; clear f3 c14; have c14 := HK.out _ F3.out)
      | (go_at_call 20; refine (rpick_nil _ _ _).mono ?_; rintro e w4 ⟨rfl, f4⟩; have F4 : Hid (Fr Non w1 w4) := F3.out.trans f4; clear f4))
    clear c14
    go_wp2_with (first
      | (go_at_call 21; refine (eqnil _).mono ?_; rintro e w5 ⟨rfl, f5⟩; have F5 : Hid (Fr Non w1 w5) := F4.out.trans f5; clear f5)
      | (go_at_call 22; refine (charge_nil _ _ _).mono ?_; rintro e w6 ⟨rfl, f6⟩; have F6 : Hid (Fr Non w1 w6) := F5.out.trans f6; clear f6)
      | (go_at_call 23; refine (rcharge_nil _ _ _).mono ?_; rintro e w7 ⟨rfl, f7⟩; have F7 : Hid (Fr Non w1 w7) := F6.out.trans f7; clear f7))
    go_ret
    exact ⟨rfl, HF1.out.trans F7.out⟩
  have n10 : (d % 12 == 10) = false := by simpa using h10
  by_cases h11 : d % 12 = 11
  · clear h8 h9 h10
    go_wp2_with (first
      | (go_at_call 24; refine (ranking_nil _ _).mono ?_; rintro e w3 ⟨rfl, f3⟩; have F3 : Hid (Fr Non w1 w3) := f3; clear f3)
      | (go_at_call 38; refine (rranking_nil _ _).mono ?_; rintro e w4 ⟨rfl, f4⟩; have F4 : Hid (Fr Non w1 w4) := F3.out.trans f4; clear f4)
      | (go_at_call 21; refine (eqnil _).mono ?_; rintro e w5 ⟨rfl, f5⟩; have F5 : Hid (Fr Non w1 w5) := F4.out.trans f5; clear f5))
    go_ret
    exact ⟨rfl, HF1.out.trans F5.out⟩
  have n11 : (d % 12 == 11) = false := by simpa using h11
  clear h8 h9 h10 h11 c14
  go_wp2_with (first
    | (refine wpList_load_mid rfl 44 (Operand.tmp 6) rfl x 0 rfl [_, _, _, _, _, _, _, _, _, _, _, _, _, _, _] _ (row_range HX1.out) Tryz.underlying44 rfl size_act ?_)
    | (go_at_call 39; refine (HCH.out _).mono ?_; rintro e w3 ⟨rfl, f3⟩; have F3 : Hid (Fr Non w1 w3) := f3; clear f3))
  go_ret
  exact ⟨rfl, HF1.out.trans F3.out⟩
set_option maxRecDepth 100000 in
set_option maxHeartbeats 4000000 in
theorem nil_walk (d gp rw th pi p0 p1 p2 p3 : Int) (p4 : Bool) (p5 p6 p7 p8 : Int) (le : Option Addr) (lm lc : Nat) (hd0 : 0 ≤ d) (hd1 : d < 256) (W : World) : Calls Tryz.prog 7 #[.agg #[.int .u8 d, .int .u8 gp, .int .i64 rw, .int .i64 th, .int .i64 pi, .int .i64 p0, .int .i64 p1, .int .i64 p2, .int .i64 p3, .bool p4, .int .i64 p5, .int .i64 p6, .int .i64 p7, .int .i64 p8, .slice le lm lc]] W fun e w' => e = .returned (.bool true) ∧ Fr Non W w' := by
  have HST := Lib.hid (step_nil d gp rw th pi p0 p1 p2 p3 p4 p5 p6 p7 p8 le lm lc hd0 hd1)
  go_enter Tryz.func7, Tryz.ntmps7
  go_upto_region 1 with (fail)
  have HF1 : Hid (Fr Non W (W.alloc (.cells #[.int .u8 d, .int .u8 gp, .int .i64 rw, .int .i64 th, .int .i64 pi, .int .i64 p0, .int .i64 p1, .int .i64 p2, .int .i64 p3, .bool p4, .int .i64 p5, .int .i64 p6, .int .i64 p7, .int .i64 p8, .slice le lm lc] 44))) := frA (Fr.refl _ _)
  have HX1 : Hid (RowAt (W.alloc (.cells #[.int .u8 d, .int .u8 gp, .int .i64 rw, .int .i64 th, .int .i64 pi, .int .i64 p0, .int .i64 p1, .int .i64 p2, .int .i64 p3, .bool p4, .int .i64 p5, .int .i64 p6, .int .i64 p7, .int .i64 p8, .slice le lm lc] 44)) W.heap.size 44 #[.int .u8 d, .int .u8 gp, .int .i64 rw, .int .i64 th, .int .i64 pi, .int .i64 p0, .int .i64 p1, .int .i64 p2, .int .i64 p3, .bool p4, .int .i64 p5, .int .i64 p6, .int .i64 p7, .int .i64 p8, .slice le lm lc]) := RowAt.new _ _ _
  generalize W.alloc _ = w1 at HF1 HX1 ⊢
  generalize W.heap.size = x at HX1 ⊢
  have c2 : w1.cell? ⟨x, 2, none⟩ = some (.int .i64 rw) := HX1.out.cell 2
  have c14 : w1.cell? ⟨x, 14, none⟩ = some (.slice le lm lc) := HX1.out.cell 14
  by_cases hl : (20 : Int) < lm
  · go_wp2
    go_ret
    exact ⟨rfl, HF1.out⟩
  · have hl2 : decide ((20 : Int) < lm) = false := by simpa using hl
    have hl3 : decide (20 < lm) = false := by simp; omega
    clear hl
    go_wp2_with (first
      | (refine wpList_load_mid_g rfl 44 (Operand.tmp 1) rfl x 0 rfl [_, _, _, _, _, _, _, _, _, _, _, _, _, _, _] _ (row_range HX1.out) Tryz.underlying44 rfl size_act ?_)
      | (refine wpList_load_mid rfl 44 (Operand.tmp 1) rfl x 0 rfl [_, _, _, _, _, _, _, _, _, _, _, _, _, _, _] _ (row_range HX1.out) Tryz.underlying44 rfl size_act ?_)
      | (go_at_call 13; refine (HST.out _ _).mono ?_; rintro e w3 ⟨rfl, f3⟩; have F3 : Hid (Fr Non w1 w3) := f3; clear f3 c2 c14)
      | (go_at_call 15; refine (state_nil _).mono ?_; rintro e w4 ⟨rfl, f4⟩; subst f4)
      | (go_at_call 9; refine (awake_any _).mono ?_; rintro e w5 ⟨rfl, f5⟩; have F5 : Hid (Fr Non w1 w5) := F3.out.trans f5; clear f5))
    go_ret
    exact ⟨rfl, HF1.out.trans F5.out⟩
end Go.Proofs.YtjaaljcdaamcjaaGreat
