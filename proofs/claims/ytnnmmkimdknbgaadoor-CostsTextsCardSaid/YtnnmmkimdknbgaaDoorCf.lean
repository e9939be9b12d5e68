/- The contract of costs.Default. -/
import Derived.Test.YtnnmmkimdknbgaaDoorCe
import Derived.Deep.Cut
namespace Go.Proofs.YtnnmmkimdknbgaaDoor
open Go.RowKit
set_option linter.unusedVariables false

theorem tabA_set (s c : Int) (l : List Int) (i : Nat) (x : Int) : (tabA s c l).setIfInBounds (i + 2) (.int .i64 x) = tabA s c (l.set i x) := by
  simp [tabA, List.setIfInBounds_toArray, List.map_set]

/-- The costs of the default table. -/
def defL : List Int := [3, 3, 3, 2, 2, 2, 2, 2, 2, 2, 2, 2, 2, 2, 2, 2, 2, 2, 2, 2, 2, 2, 8, 1]
def zeroL : List Int := List.replicate 24 0
def twoTo (k : Nat) : List Int := List.replicate k 2 ++ List.replicate (24 - k) 0

theorem twoTo_set (k : Nat) (h : k < 24) : (twoTo k).set k 2 = twoTo (k + 1) := by
  have e : 24 - k = (24 - (k + 1)) + 1 := by omega
  rw [twoTo, twoTo, e, List.replicate_succ, List.replicate_succ', List.set_append]
  simp
theorem twoTo_len (k : Nat) (h : k ≤ 24) : (twoTo k).length = 24 := by simp [twoTo]; omega

/-- What holds at each round's head. -/
def DefAt (w0 : World) (t : TypeId) (l : List Int) (w : World) : Prop :=
  w.heap[w0.heap.size]? = some (.cells (tabA 0 0 zeroL) t (0, 0)) ∧ w.heap[w0.heap.size + 1]? = some (.cells (tabA 4 1 l) t (0, 0)) ∧ Below w0.heap.size w0 w
theorem DefAt.set {w0 w : World} {t : TypeId} {l : List Int} (h : DefAt w0 t l w) (i : Nat) (x : Int) : DefAt w0 t (l.set i x) (w.setCell ⟨w0.heap.size + 1, i + 2, none⟩ (.int .i64 x)) :=
  ⟨by rw [heap_setCell_other _ _ _ _ (by simp)]; exact h.1, by rw [heap_setCell_same w _ _ _ _ _ h.2.1, tabA_set], h.2.2.setCell (by simp) _⟩
theorem DefAt.start (w : World) (t : TypeId) : DefAt w t (twoTo 0) (((w.alloc (.cells (tabA 0 0 zeroL) t)).alloc (.cells (tabA 0 0 zeroL) t)).setRow (w.heap.size + 1) (tabA 4 1 zeroL)) :=
  ⟨by rw [setRow_other _ _ _ _ (by simp)]; exact heap_alloc2_old _ _ _, setRow_heap _ _ _ _ _ _ (heap_alloc2_new _ _ _),
   (((Below.refl _ _).alloc (Nat.le_refl _) _).alloc (by simp) _).trans ⟨rfl, rfl, rfl, by simp, fun k hk => setRow_other _ _ _ _ (by omega)⟩⟩

theorem size_tabA (s c : Int) (l : List Int) (hl : l.length = 24) : (Tryd.prog.info? 24).map (·.size) = some (tabA s c l).size := by
  have e : (Tryd.prog.info? 24).map (·.size) = some 26 := by kernel_rfl
  rw [tabA_size, hl]
  exact e

set_option maxHeartbeats 1000000 in
set_option maxRecDepth 100000 in
theorem default_any (w : World) :
    Calls Tryd.prog 11 #[] w fun e w' => e = .returned (.agg (tabA 4 1 defL)) ∧ Below w.heap.size w w' := by
  go_enter Tryd.func11, Tryd.ntmps11
  go_wp2_with (first
    | (refine wpList_store_row rfl 24 (Operand.tmp 1) (Operand.tmp 3) rfl (w.heap.size + 1) (tabA 4 1 zeroL) rfl rfl 24 (tabA 0 0 zeroL) (heap_alloc2_new _ _ _) (size_tabA _ _ _ rfl) rfl (tabA_one _ _ _) ?_))
  go_loopw [4] (fun i wr => ∃ k : Nat, k ≤ 24 ∧ i = .int .i64 k ∧ DefAt w 24 (twoTo k) wr) (fun i _ => 24 - (intOf i).toNat)
  case atStart => exact ⟨0, by omega, rfl, DefAt.start w _⟩
  case round =>
    obtain ⟨k, hk, rfl, hd⟩ := hrel
    have HD := Lib.hid hd
    by_cases hlt : k < 24
    · have hcell := tab_cell hd.2.1 k (by rw [twoTo_len k hk]; exact hlt)
      have hfz := frozen_of_row _ _ (2 + k) _ _ hd.2.1
      have hd2 := hd.set k 2
      rw [twoTo_set k hlt, Nat.add_comm k 2] at hd2
      have HD2 := Lib.hid hd2
      clear hd hd2
      go_wp2
      go_roundw
      case rel => exact ⟨k + 1, by omega, by go_num, HD2.out⟩
      case measure => simp [intOf]; omega
    · obtain rfl : k = 24 := by omega
      have c0 : wr.cell? ⟨w.heap.size + 1, 2, none⟩ = some (.int .i64 2) := tab_cell hd.2.1 0 (by decide)
      have c1 : wr.cell? ⟨w.heap.size + 1, 3, none⟩ = some (.int .i64 2) := tab_cell hd.2.1 1 (by decide)
      have c2 : wr.cell? ⟨w.heap.size + 1, 4, none⟩ = some (.int .i64 2) := tab_cell hd.2.1 2 (by decide)
      have c22 : wr.cell? ⟨w.heap.size + 1, 24, none⟩ = some (.int .i64 2) := tab_cell hd.2.1 22 (by decide)
      have c23 : wr.cell? ⟨w.heap.size + 1, 25, none⟩ = some (.int .i64 2) := tab_cell hd.2.1 23 (by decide)
      have f0 := frozen_of_row _ _ 2 _ _ hd.2.1
      have f1 := frozen_of_row _ _ 3 _ _ hd.2.1
      have f2 := frozen_of_row _ _ 4 _ _ hd.2.1
      have f22 := frozen_of_row _ _ 24 _ _ hd.2.1
      have f23 := frozen_of_row _ _ 25 _ _ hd.2.1
      have HF : Hid (DefAt w 24 defL (((((wr.setCell ⟨w.heap.size + 1, 2, none⟩ (.int .i64 3)).setCell ⟨w.heap.size + 1, 3, none⟩ (.int .i64 3)).setCell ⟨w.heap.size + 1, 4, none⟩ (.int .i64 3)).setCell ⟨w.heap.size + 1, 24, none⟩ (.int .i64 8)).setCell ⟨w.heap.size + 1, 25, none⟩ (.int .i64 1))) :=
        ((((hd.set 0 3).set 1 3).set 2 3).set 22 8).set 23 1
      clear hd HD
      go_upto_region 10 with (fail)
      go_wp2_with (first
        | (refine wpList_load_row rfl 24 (Operand.tmp 1) rfl (w.heap.size + 1) rfl 24 (tabA 4 1 defL) (0, 0) _ HF.out.2.1 Tryd.underlying24 rfl (size_tabA _ _ _ rfl) ?_)
        | (refine wpList_store_row rfl 24 (Operand.tmp 0) (Operand.tmp 21) rfl w.heap.size (tabA 4 1 defL) rfl rfl 24 (tabA 0 0 zeroL) HF.out.1 (size_tabA _ _ _ rfl) rfl (tabA_one _ _ _) ?_))
      refine bodyPost_ret (v := .agg (tabA 4 1 defL)) (results_cell_row rfl _ _ w.heap.size 24 (tabA 4 1 defL) (0, 0) _ rfl (setRow_heap _ _ _ _ _ _ HF.out.1) Tryd.underlying24 rfl (size_tabA _ _ _ rfl)) rfl ⟨rfl, ?_⟩
      exact HF.out.2.2.trans ⟨rfl, rfl, rfl, by simp, fun k hk => setRow_other _ _ _ _ (by omega)⟩
end Go.Proofs.YtnnmmkimdknbgaaDoor
