/- The contracts of the specification's Cost and Default. -/
import Derived.Test.YtgbbidgmhmbehaaRa
import Derived.Deep.Cut
namespace Go.Proofs.Ytgbbidgmhmbehaa
open Go.RowKit
set_option linter.unusedVariables false

theorem cpy_units {c n : Int} (j : Nat) (h0 : 0 ≤ n) (h1 : n ≤ 16 * j) (h2 : 16 * (j : Int) < n + 16) : cpy c n = c * j := by
  unfold cpy
  rw [show (n + 15) / 16 = (j : Int) from by omega]
theorem ret_two {k : IntKind} {a b : Int} {v : Value} (h : a = b) : Ending.returned (.tuple #[.int k a, v]) = .returned (.tuple #[.int k b, v]) := by rw [h]
theorem mul_succ_int (c : Int) (j : Nat) : c * ((j + 1 : Nat) : Int) = c * j + c := by
  rw [Int.natCast_add, Int.mul_add]; simp

set_option maxHeartbeats 1000000 in
set_option maxRecDepth 100000 in
theorem refcost_bad (s c : Int) (l : List Int) (hl : l.length = 24) (op n : Int) (w : World) (h : ¬ okT s c l) :
    Calls Try.prog 7 #[.agg (tabA s c l), .int .i64 op, .int .i64 n] w fun e w' => e = .returned (.tuple #[.int .i64 0, .int .i64 34]) ∧ Below w.heap.size w w' := by
  have HL := Lib.hid hl
  have HH := Lib.hid h
  have HT := Lib.hid (TabAt.box w s c l 29)
  have HS := Lib.hid (size_rtab s c l hl)
  clear hl h
  go_enter Try.func7, Try.ntmps7
  go_wp2_with (first
    | (refine wpList_load_mid rfl 29 (Operand.tmp 3) rfl w.heap.size 0 rfl (tabL s c l) _ HT.out.whole Try.underlying29 rfl HS.out ?_)
    | (go_at_call 10; refine (refcheck_no s c l HL.out _ HH.out).mono ?_; rintro e w1 ⟨rfl, hb⟩))
  go_ret2
  exact ⟨rfl, (HT.out.call hb).below⟩

set_option maxHeartbeats 1000000 in
set_option maxRecDepth 100000 in
theorem refcost_kind_lo (s c : Int) (l : List Int) (hl : l.length = 24) (op n : Int) (w : World) (h : okT s c l) (ho : op < 0) :
    Calls Try.prog 7 #[.agg (tabA s c l), .int .i64 op, .int .i64 n] w fun e w' => e = .returned (.tuple #[.int .i64 0, .int .i64 17]) ∧ Below w.heap.size w w' := by
  have HL := Lib.hid hl
  have HH := Lib.hid h
  have HT := Lib.hid (TabAt.box w s c l 29)
  have HS := Lib.hid (size_rtab s c l hl)
  clear hl h
  go_enter Try.func7, Try.ntmps7
  go_wp2_with (first
    | (refine wpList_load_mid rfl 29 (Operand.tmp 3) rfl w.heap.size 0 rfl (tabL s c l) _ HT.out.whole Try.underlying29 rfl HS.out ?_)
    | (go_at_call 10; refine (refcheck_ok s c l HL.out _ HH.out).mono ?_; rintro e w1 ⟨rfl, hb⟩))
  go_ret2
  exact ⟨rfl, (HT.out.call hb).below⟩

set_option maxHeartbeats 1000000 in
set_option maxRecDepth 100000 in
theorem refcost_kind_hi (s c : Int) (l : List Int) (hl : l.length = 24) (op n : Int) (w : World) (h : okT s c l) (ho : 24 ≤ op) :
    Calls Try.prog 7 #[.agg (tabA s c l), .int .i64 op, .int .i64 n] w fun e w' => e = .returned (.tuple #[.int .i64 0, .int .i64 17]) ∧ Below w.heap.size w w' := by
  have HL := Lib.hid hl
  have HH := Lib.hid h
  have HT := Lib.hid (TabAt.box w s c l 29)
  have HS := Lib.hid (size_rtab s c l hl)
  have hd0 : decide (op < 0) = false := by simp; omega
  clear hl h
  go_enter Try.func7, Try.ntmps7
  go_wp2_with (first
    | (refine wpList_load_mid rfl 29 (Operand.tmp 3) rfl w.heap.size 0 rfl (tabL s c l) _ HT.out.whole Try.underlying29 rfl HS.out ?_)
    | (go_at_call 10; refine (refcheck_ok s c l HL.out _ HH.out).mono ?_; rintro e w1 ⟨rfl, hb⟩))
  go_ret2
  exact ⟨rfl, (HT.out.call hb).below⟩

set_option maxHeartbeats 1000000 in
set_option maxRecDepth 100000 in
theorem refcost_lo (s c : Int) (l : List Int) (hl : l.length = 24) (op n : Int) (w : World) (h : okT s c l) (ho1 : 0 ≤ op) (ho2 : op < 24) (hn : n < 0) :
    Calls Try.prog 7 #[.agg (tabA s c l), .int .i64 op, .int .i64 n] w fun e w' => e = .returned (.tuple #[.int .i64 0, .int .i64 34]) ∧ Below w.heap.size w w' := by
  have HL := Lib.hid hl
  have HH := Lib.hid h
  have HT := Lib.hid (TabAt.box w s c l 29)
  have HS := Lib.hid (size_rtab s c l hl)
  have hd0 : decide (op < 0) = false := by simp; omega
  have hd1 : decide (24 ≤ op) = false := by simp; omega
  clear hl h
  go_enter Try.func7, Try.ntmps7
  go_wp2_with (first
    | (refine wpList_load_mid rfl 29 (Operand.tmp 3) rfl w.heap.size 0 rfl (tabL s c l) _ HT.out.whole Try.underlying29 rfl HS.out ?_)
    | (go_at_call 10; refine (refcheck_ok s c l HL.out _ HH.out).mono ?_; rintro e w1 ⟨rfl, hb⟩))
  go_ret2
  exact ⟨rfl, (HT.out.call hb).below⟩

set_option maxHeartbeats 1000000 in
set_option maxRecDepth 100000 in
theorem refcost_hi (s c : Int) (l : List Int) (hl : l.length = 24) (op n : Int) (w : World) (h : okT s c l) (ho1 : 0 ≤ op) (ho2 : op < 24) (hn0 : 0 ≤ n) (hn : 4096 < n) :
    Calls Try.prog 7 #[.agg (tabA s c l), .int .i64 op, .int .i64 n] w fun e w' => e = .returned (.tuple #[.int .i64 0, .int .i64 34]) ∧ Below w.heap.size w w' := by
  have HL := Lib.hid hl
  have HH := Lib.hid h
  have HT := Lib.hid (TabAt.box w s c l 29)
  have HS := Lib.hid (size_rtab s c l hl)
  have hd0 : decide (op < 0) = false := by simp; omega
  have hd1 : decide (24 ≤ op) = false := by simp; omega
  have hd2 : decide (n < 0) = false := by simp; omega
  clear hl h
  go_enter Try.func7, Try.ntmps7
  go_wp2_with (first
    | (refine wpList_load_mid rfl 29 (Operand.tmp 3) rfl w.heap.size 0 rfl (tabL s c l) _ HT.out.whole Try.underlying29 rfl HS.out ?_)
    | (go_at_call 10; refine (refcheck_ok s c l HL.out _ HH.out).mono ?_; rintro e w1 ⟨rfl, hb⟩))
  go_ret2
  exact ⟨rfl, (HT.out.call hb).below⟩

set_option maxHeartbeats 1000000 in
set_option maxRecDepth 100000 in
theorem refcost_ok (s c : Int) (l : List Int) (hl : l.length = 24) (op n : Int) (w : World) (h : okT s c l) (ho1 : 0 ≤ op) (ho2 : op < 24) (hn0 : 0 ≤ n) (hn1 : n ≤ 4096) :
    Calls Try.prog 7 #[.agg (tabA s c l), .int .i64 op, .int .i64 n] w fun e w' => e = .returned (.tuple #[.int .i64 (l.getD op.toNat 0 + cpy c n), .int .i64 0]) ∧ Below w.heap.size w w' := by
  have HL := Lib.hid hl
  have HH := Lib.hid h
  have HT := Lib.hid (TabAt.box w s c l 29)
  have HS := Lib.hid (size_rtab s c l hl)
  have hd0 : decide (op < 0) = false := by simp; omega
  have hd1 : decide (24 ≤ op) = false := by simp; omega
  have hd2 : decide (n < 0) = false := by simp; omega
  have hd3 : decide (4096 < n) = false := by simp; omega
  obtain ⟨k, rfl⟩ := Int.eq_ofNat_of_zero_le ho1
  rw [Int.toNat_natCast]
  have hk : k < 24 := by omega
  clear hl h
  go_enter Try.func7, Try.ntmps7
  go_wp2_with (first
    | (refine wpList_load_mid rfl 29 (Operand.tmp 3) rfl w.heap.size 0 rfl (tabL s c l) _ HT.out.whole Try.underlying29 rfl HS.out ?_)
    | (go_at_call 10; refine (refcheck_ok s c l HL.out _ HH.out).mono ?_; rintro e w1 ⟨rfl, hb⟩; have HT1 := Lib.hid (HT.out.call hb); have hcell := HT1.out.cell k (by rw [HL.out]; exact hk); clear hb))
  have hb0 := HH.out.cell k (by rw [HL.out]; exact hk)
  obtain ⟨hb1, hb2⟩ := hb0
  have c1 : 0 ≤ c := HH.out.2.2.1
  have c2 : c ≤ 100 := HH.out.2.2.2.1
  clear hcell
  go_loop [8, 9] (fun v i => ∃ (j : Nat) (y : Int), v = .int .i64 y ∧ i = .int .i64 (16 * (j : Int)) ∧ 16 * (j : Int) < n + 16 ∧ 0 ≤ y ∧ y ≤ 1000 + 100 * (j : Int) ∧ Hid (y = l.getD k 0 + c * j)) (fun _ i => (n - intOf i).toNat)
  case atStart => exact ⟨0, l.getD k 0, rfl, rfl, by omega, by omega, by omega, by show _ = _; simp⟩
  case round =>
    obtain ⟨j, y, rfl, rfl, hj, hy0, hy1, HY⟩ := hrel
    have hcell := HT1.out.2.1
    by_cases hlt : 16 * (j : Int) < n
    · have HV : Hid (y + c = l.getD k 0 + c * ((j + 1 : Nat) : Int)) := by show _ = _; rw [mul_succ_int, HY.out]; omega
      go_wp2
      go_round
      case rel => exact ⟨j + 1, y + c, rfl, by go_num, by omega, by omega, by omega, HV⟩
      case measure => simp [intOf]; omega
    · have HV : Hid (l.getD k 0 + cpy c n = y) := by show _ = _; rw [HY.out, cpy_units j hn0 (by omega) hj]
      have hd : decide (16 * (j : Int) < n) = false := by simp; omega
      go_wp2
      go_ret2
      exact ⟨ret_two HV.out.symm, HT1.out.below⟩

theorem refcost_kind (s c : Int) (l : List Int) (hl : l.length = 24) (op n : Int) (w : World) (h : okT s c l) (ho : op < 0 ∨ 24 ≤ op) :
    Calls Try.prog 7 #[.agg (tabA s c l), .int .i64 op, .int .i64 n] w fun e w' => e = .returned (.tuple #[.int .i64 0, .int .i64 17]) ∧ Below w.heap.size w w' := by
  rcases ho with ho | ho
  · exact refcost_kind_lo s c l hl op n w h ho
  · exact refcost_kind_hi s c l hl op n w h ho

/-- What both Costs answer. -/
def costV (s c : Int) (l : List Int) (op n v e : Int) : Prop :=
  (¬ okT s c l ∧ v = 0 ∧ e = 34) ∨ (okT s c l ∧ (op < 0 ∨ 24 ≤ op) ∧ v = 0 ∧ e = 17) ∨ (okT s c l ∧ 0 ≤ op ∧ op < 24 ∧ (n < 0 ∨ 4096 < n) ∧ v = 0 ∧ e = 34) ∨
  (okT s c l ∧ 0 ≤ op ∧ op < 24 ∧ 0 ≤ n ∧ n ≤ 4096 ∧ v = l.getD op.toNat 0 + cpy c n ∧ e = 0)
theorem costV_some (s c : Int) (l : List Int) (op n : Int) : ∃ v e, costV s c l op n v e := by
  by_cases h : okT s c l
  · by_cases ho : 0 ≤ op ∧ op < 24
    · by_cases hn : 0 ≤ n ∧ n ≤ 4096
      · exact ⟨_, _, .inr (.inr (.inr ⟨h, ho.1, ho.2, hn.1, hn.2, rfl, rfl⟩))⟩
      · exact ⟨0, 34, .inr (.inr (.inl ⟨h, ho.1, ho.2, by omega, rfl, rfl⟩))⟩
    · exact ⟨0, 17, .inr (.inl ⟨h, by omega, rfl, rfl⟩)⟩
  · exact ⟨0, 34, .inl ⟨h, rfl, rfl⟩⟩
theorem cost_any (s c : Int) (l : List Int) (hl : l.length = 24) (op n v e0 : Int) (w : World) (h : costV s c l op n v e0) :
    Calls Try.prog 6 #[.agg (tabA s c l), .int .i64 op, .int .i64 n] w fun e w' => e = .returned (.tuple #[.int .i64 v, .int .i64 e0]) ∧ Below w.heap.size w w' := by
  rcases h with ⟨h, rfl, rfl⟩ | ⟨h, ho, rfl, rfl⟩ | ⟨h, h1, h2, hn | hn, rfl, rfl⟩ | ⟨h, h1, h2, h3, h4, rfl, rfl⟩
  · exact cost_bad s c l hl op n w h
  · exact cost_kind s c l hl op n w h ho
  · exact cost_lo s c l hl op n w h h1 h2 hn
  · exact cost_hi s c l hl op n w h h1 h2 (by omega) hn
  · exact cost_ok s c l hl op n w h h1 h2 h3 h4
theorem refcost_any (s c : Int) (l : List Int) (hl : l.length = 24) (op n v e0 : Int) (w : World) (h : costV s c l op n v e0) :
    Calls Try.prog 7 #[.agg (tabA s c l), .int .i64 op, .int .i64 n] w fun e w' => e = .returned (.tuple #[.int .i64 v, .int .i64 e0]) ∧ Below w.heap.size w w' := by
  rcases h with ⟨h, rfl, rfl⟩ | ⟨h, ho, rfl, rfl⟩ | ⟨h, h1, h2, hn | hn, rfl, rfl⟩ | ⟨h, h1, h2, h3, h4, rfl, rfl⟩
  · exact refcost_bad s c l hl op n w h
  · exact refcost_kind s c l hl op n w h ho
  · exact refcost_lo s c l hl op n w h h1 h2 hn
  · exact refcost_hi s c l hl op n w h h1 h2 (by omega) hn
  · exact refcost_ok s c l hl op n w h h1 h2 h3 h4

/-- What both Checks answer. -/
def chkV (s c : Int) (l : List Int) (e : Int) : Prop := (okT s c l ∧ e = 0) ∨ (¬ okT s c l ∧ e = 34)
theorem chkV_some (s c : Int) (l : List Int) : ∃ e, chkV s c l e := by
  by_cases h : okT s c l
  · exact ⟨0, .inl ⟨h, rfl⟩⟩
  · exact ⟨34, .inr ⟨h, rfl⟩⟩
theorem check_any (s c : Int) (l : List Int) (hl : l.length = 24) (e0 : Int) (w : World) (h : chkV s c l e0) :
    Calls Try.prog 9 #[.agg (tabA s c l)] w fun e w' => e = .returned (.int .i64 e0) ∧ Below w.heap.size w w' := by
  rcases h with ⟨h, rfl⟩ | ⟨h, rfl⟩
  · exact check_ok s c l hl w h
  · exact check_no s c l hl w h
theorem refcheck_any (s c : Int) (l : List Int) (hl : l.length = 24) (e0 : Int) (w : World) (h : chkV s c l e0) :
    Calls Try.prog 10 #[.agg (tabA s c l)] w fun e w' => e = .returned (.int .i64 e0) ∧ Below w.heap.size w w' := by
  rcases h with ⟨h, rfl⟩ | ⟨h, rfl⟩
  · exact refcheck_ok s c l hl w h
  · exact refcheck_no s c l hl w h

set_option maxHeartbeats 1000000 in
set_option maxRecDepth 100000 in
theorem refdefault_any (w : World) :
    Calls Try.prog 12 #[] w fun e w' => e = .returned (.agg (tabA 4 1 defL)) ∧ Below w.heap.size w w' := by
  go_enter Try.func12, Try.ntmps12
  go_wp2_with (first
    | (refine wpList_store_row rfl 29 (Operand.tmp 1) (Operand.tmp 3) rfl (w.heap.size + 1) (tabA 4 1 zeroL) rfl rfl 29 (tabA 0 0 zeroL) (heap_alloc2_new _ _ _) (size_rtabA _ _ _ rfl) rfl (tabA_one _ _ _) ?_))
  go_loopw [2] (fun i wr => ∃ k : Nat, k ≤ 24 ∧ i = .int .i64 k ∧ DefAt w 29 (twoTo k) wr) (fun i _ => 24 - (intOf i).toNat)
  case atStart => exact ⟨0, by omega, rfl, DefAt.start w _⟩
  case round =>
    obtain ⟨k, hk, rfl, hd⟩ := hrel
    have HD := Lib.hid hd
    by_cases hlt : k < 24
    · have hcell := tab_cell hd.2.1 k (by rw [twoTo_len k hk]; exact hlt)
      have hfz := frozen_of_row _ _ (2 + k) _ _ hd.2.1
      have hd2 := hd.set k 2
      rw [twoTo_set k hlt, Nat.add_comm k 2] at hd2
      have HD2 := Lib.hid hd2
      clear hd hd2
      go_wp2
      go_roundw
      case rel => exact ⟨k + 1, by omega, by go_num, HD2.out⟩
      case measure => simp [intOf]; omega
    · obtain rfl : k = 24 := by omega
      have c0 : wr.cell? ⟨w.heap.size + 1, 2, none⟩ = some (.int .i64 2) := tab_cell hd.2.1 0 (by decide)
      have c1 : wr.cell? ⟨w.heap.size + 1, 3, none⟩ = some (.int .i64 2) := tab_cell hd.2.1 1 (by decide)
      have c2 : wr.cell? ⟨w.heap.size + 1, 4, none⟩ = some (.int .i64 2) := tab_cell hd.2.1 2 (by decide)
      have c22 : wr.cell? ⟨w.heap.size + 1, 24, none⟩ = some (.int .i64 2) := tab_cell hd.2.1 22 (by decide)
      have c23 : wr.cell? ⟨w.heap.size + 1, 25, none⟩ = some (.int .i64 2) := tab_cell hd.2.1 23 (by decide)
      have f0 := frozen_of_row _ _ 2 _ _ hd.2.1
      have f1 := frozen_of_row _ _ 3 _ _ hd.2.1
      have f2 := frozen_of_row _ _ 4 _ _ hd.2.1
      have f22 := frozen_of_row _ _ 24 _ _ hd.2.1
      have f23 := frozen_of_row _ _ 25 _ _ hd.2.1
      have HF : Hid (DefAt w 29 defL (((((wr.setCell ⟨w.heap.size + 1, 2, none⟩ (.int .i64 3)).setCell ⟨w.heap.size + 1, 3, none⟩ (.int .i64 3)).setCell ⟨w.heap.size + 1, 4, none⟩ (.int .i64 3)).setCell ⟨w.heap.size + 1, 24, none⟩ (.int .i64 8)).setCell ⟨w.heap.size + 1, 25, none⟩ (.int .i64 1))) :=
        ((((hd.set 0 3).set 1 3).set 2 3).set 22 8).set 23 1
      clear hd HD
      go_upto_region 8 with (fail)
      go_wp2_with (first
        | (refine wpList_load_row rfl 29 (Operand.tmp 1) rfl (w.heap.size + 1) rfl 29 (tabA 4 1 defL) (0, 0) _ HF.out.2.1 Try.underlying29 rfl (size_rtabA _ _ _ rfl) ?_)
        | (refine wpList_store_row rfl 29 (Operand.tmp 0) (Operand.tmp 21) rfl w.heap.size (tabA 4 1 defL) rfl rfl 29 (tabA 0 0 zeroL) HF.out.1 (size_rtabA _ _ _ rfl) rfl (tabA_one _ _ _) ?_))
      refine bodyPost_ret (v := .agg (tabA 4 1 defL)) (results_cell_row rfl _ _ w.heap.size 29 (tabA 4 1 defL) (0, 0) _ rfl (setRow_heap _ _ _ _ _ _ HF.out.1) Try.underlying29 rfl (size_rtabA _ _ _ rfl)) rfl ⟨rfl, ?_⟩
      exact HF.out.2.2.trans ⟨rfl, rfl, rfl, by simp, fun k hk => setRow_other _ _ _ _ (by omega)⟩
end Go.Proofs.Ytgbbidgmhmbehaa
