/- The contract of costs.clamped. -/
import Derived.Test.YtnnmmkimdknbgaaDoorCt
import Derived.Outline
namespace Go.Proofs.YtnnmmkimdknbgaaDoor
open Go.RowKit
set_option linter.unusedVariables false

theorem clampTo_len (k : Nat) (l : List Int) : ((l.take k).map cl ++ l.drop k).length = l.length := by
  simp only [List.length_append, List.length_map, List.length_take, List.length_drop]; omega
theorem clampTo_get : ∀ (k : Nat) (l : List Int), k < l.length → ((l.take k).map cl ++ l.drop k).getD k 0 = l.getD k 0
  | 0, l, _ => by simp
  | k + 1, [], h => by simp at h
  | k + 1, x :: l, h => by
    have := clampTo_get k l (by simpa using h)
    simpa using this
theorem clampTo_set : ∀ (k : Nat) (l : List Int), k < l.length → ((l.take k).map cl ++ l.drop k).set k (cl (l.getD k 0)) = (l.take (k + 1)).map cl ++ l.drop (k + 1)
  | 0, [], h => by simp at h
  | 0, x :: l, _ => by simp
  | k + 1, [], h => by simp at h
  | k + 1, x :: l, h => by
    have := clampTo_set k l (by simpa using h)
    simpa using this
theorem clampTo_end (l : List Int) : (l.take l.length).map cl ++ l.drop l.length = l.map cl := by simp

def clampTo (k : Nat) (l : List Int) : List Int := (l.take k).map cl ++ l.drop k

theorem clamp_round (w wr : World) (l : List Int) (hl : l.length = 24) (k : Nat) (hk : k < 24) (t : TypeId) (hb1 : wr.heap[w.heap.size]? = some (.cells (rowA (clampTo k l)) t (0, 0)))
    (hb2 : wr.heap[w.heap.size + 1]? = some (.cells (rowA (List.replicate 24 0)) t (0, 0))) (hbel : Below w.heap.size w wr) (v : Int) (hv : cl (l.getD k 0) = v) :
    (wr.setCell ⟨w.heap.size, k, none⟩ (.int .i64 v)).heap[w.heap.size]? = some (.cells (rowA (clampTo (k + 1) l)) t (0, 0)) ∧
    (wr.setCell ⟨w.heap.size, k, none⟩ (.int .i64 v)).heap[w.heap.size + 1]? = some (.cells (rowA (List.replicate 24 0)) t (0, 0)) ∧
    Below w.heap.size w (wr.setCell ⟨w.heap.size, k, none⟩ (.int .i64 v)) := by
  refine ⟨?_, ?_, hbel.setCell (Nat.le_refl _) _⟩
  · rw [heap_setCell_same wr w.heap.size k _ _ _ hb1, rowA_set, clampTo, ← hv, clampTo_set k l (by omega)]
    rfl
  · rw [heap_setCell_other _ _ _ _ (by simp)]
    exact hb2

set_option maxHeartbeats 1000000 in
set_option maxRecDepth 100000 in
theorem clamped_any (l : List Int) (hl : l.length = 24) (w : World) :
    Calls Tryd.prog 34 #[.agg (rowA l)] w fun e w' => e = .returned (.agg (rowA (l.map cl))) ∧ Below w.heap.size w w' := by
  have HL := Lib.hid hl
  clear hl
  have isz : (Tryd.prog.info? 22).map (·.size) = some 24 := by kernel_rfl
  have ISZ := Lib.hid isz
  clear isz
  go_enter Tryd.func34, Tryd.ntmps34
  go_wp2
  go_loopw [4] (fun i wr => ∃ k : Nat, k ≤ 24 ∧ i = .int .i64 k ∧ wr.heap[w.heap.size]? = some (.cells (rowA (clampTo k l)) 22 (0, 0)) ∧ wr.heap[w.heap.size + 1]? = some (.cells (rowA (List.replicate 24 0)) 22 (0, 0)) ∧ Below w.heap.size w wr) (fun i _ => 24 - (intOf i).toNat)
  case atStart =>
    exact ⟨0, by omega, rfl, heap_alloc2_old _ _ _, heap_alloc2_new _ _ _, ((Below.refl _ _).alloc (Nat.le_refl _) _).alloc (by simp) _⟩
  case round =>
    obtain ⟨k, hk, rfl, hb1, hb2, hbel⟩ := hrel
    by_cases hlt : k < 24
    · have hx := clampTo_get k l (by rw [HL.out]; exact hlt)
      have hcell := row_cell hb1 k (by rw [clampTo, clampTo_len, HL.out]; exact hlt)
      have hfz := frozen_of_row _ _ k _ _ hb1
      rw [clampTo, hx] at hcell
      have HR := Lib.hid (clamp_round w wr l HL.out k hlt _ hb1 hb2 hbel)
      clear hb1 hb2 hx hbel
      generalize hxx : l.getD k 0 = x at hcell
      have HXX := Lib.hid hxx
      clear hxx
      by_cases c1 : x < 1
      · go_wp2
        go_roundw
        case rel => exact ⟨k + 1, by omega, by go_num, HR.out _ (by rw [HXX.out, cl, if_pos c1])⟩
        case measure => simp [intOf]; omega
      · by_cases c2 : 1000 < x
        · go_wp2
          go_roundw
          case rel => exact ⟨k + 1, by omega, by go_num, HR.out _ (by rw [HXX.out, cl, if_neg c1, if_pos c2])⟩
          case measure => simp [intOf]; omega
        · go_wp2
          go_roundw
          case rel => exact ⟨k + 1, by omega, by go_num, HR.out _ (by rw [HXX.out, cl, if_neg c1, if_neg c2])⟩
          case measure => simp [intOf]; omega
    · obtain rfl : k = 24 := by omega
      have e1 : clampTo 24 l = l.map cl := by rw [clampTo, ← HL.out]; exact clampTo_end l
      rw [e1] at hb1
      clear e1
      have HB1 := Lib.hid hb1
      have HB2 := Lib.hid hb2
      have HI : Hid ((Tryd.prog.info? 22).map (·.size) = some (rowA (l.map cl)).size) := by rw [rowA_size, List.length_map, HL.out]; exact ISZ.out
      have HO : Hid ((rowA (List.replicate 24 0)).size = (rowA (l.map cl)).size) := by rw [rowA_size, rowA_size, List.length_map, HL.out]; rfl
      have HR : Hid ((wr.setRow (w.heap.size + 1) (rowA (l.map cl))).heap[w.heap.size + 1]? = some (.cells (rowA (l.map cl)) 22 (0, 0))) := setRow_heap _ _ _ _ _ _ hb2
      have HBEL : Hid (Below w.heap.size w (wr.setRow (w.heap.size + 1) (rowA (l.map cl)))) :=
        hbel.trans ⟨rfl, rfl, rfl, by simp, fun k hk => setRow_other _ _ _ _ (by omega)⟩
      clear hb1 hb2 hbel
      go_wp2_with (first
        | (refine wpList_load_row rfl 22 (Operand.tmp 1) rfl w.heap.size rfl 22 _ (0, 0) _ HB1.out Tryd.underlying22 rfl HI.out ?_)
        | (refine wpList_store_row rfl 22 (Operand.tmp 2) (Operand.tmp 15) rfl (w.heap.size + 1) (rowA (l.map cl)) rfl rfl 22 _ HB2.out HI.out HO.out (rowA_one _) ?_))
      exact bodyPost_ret (v := .agg (rowA (l.map cl))) (results_cell_row rfl _ _ (w.heap.size + 1) 22 _ (0, 0) _ rfl HR.out Tryd.underlying22 rfl HI.out) rfl ⟨rfl, HBEL.out⟩
end Go.Proofs.YtnnmmkimdknbgaaDoor
