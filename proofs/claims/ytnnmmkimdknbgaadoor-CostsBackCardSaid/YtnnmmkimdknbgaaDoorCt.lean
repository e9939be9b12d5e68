/- Tables as plain data: the cells of a costs.Table, and Go's '==' on arrays of int64. No walk. -/
import Derived.Test.YtnnmmkimdknbgaaDoorProg
import Derived.WalkKit
import Derived.Lib.Hide
import Derived.Below
import Derived.Deep.MidRow
import Derived.ChangeKeysEq
namespace Go.Proofs.YtnnmmkimdknbgaaDoor
open Go.RowKit
set_option linter.unusedVariables false

/-- The cells of an array of int64. -/
def rowA (l : List Int) : Array Value := (l.map (Value.int .i64)).toArray
/-- The cells of a table. -/
def tabA (s c : Int) (l : List Int) : Array Value := (Value.int .i64 s :: Value.int .i64 c :: l.map (Value.int .i64)).toArray

theorem rowA_size (l : List Int) : (rowA l).size = l.length := by simp [rowA]
theorem tabA_size (s c : Int) (l : List Int) : (tabA s c l).size = l.length + 2 := by simp [tabA]
theorem rowA_get (l : List Int) (i : Nat) (h : i < l.length) : (rowA l)[i]? = some (.int .i64 (l.getD i 0)) := by
  simp [rowA, List.getD, List.getElem?_eq_getElem h]
theorem tabA_get0 (s c : Int) (l : List Int) : (tabA s c l)[0]? = some (.int .i64 s) := by simp [tabA]
theorem tabA_get1 (s c : Int) (l : List Int) : (tabA s c l)[1]? = some (.int .i64 c) := by simp [tabA]
theorem tabA_get (s c : Int) (l : List Int) (i : Nat) (h : i < l.length) : (tabA s c l)[2 + i]? = some (.int .i64 (l.getD i 0)) := by
  simp [tabA, List.getD, List.getElem?_eq_getElem h, show 2 + i = i + 2 from by omega]
theorem rowA_set (l : List Int) (i : Nat) (x : Int) : (rowA l).setIfInBounds i (.int .i64 x) = rowA (l.set i x) := by
  simp [rowA, List.setIfInBounds_toArray, List.map_set]
theorem rowA_one (l : List Int) : (rowA l).all (·.oneCell') = true := all_oneCell_toArray (fun v hv => by
  obtain ⟨x, _, rfl⟩ := List.mem_map.1 hv
  rfl)
theorem tabA_one (s c : Int) (l : List Int) : (tabA s c l).all (·.oneCell') = true := all_oneCell_toArray (fun v hv => by
  simp only [List.mem_cons, List.mem_map] at hv
  rcases hv with rfl | rfl | ⟨x, _, rfl⟩ <;> rfl)

section
variable {w : World} {g : Nat} {t : TypeId} {fr : Nat × Nat} {s c : Int} {l : List Int}
theorem tab_cell0 (h : w.heap[g]? = some (.cells (tabA s c l) t fr)) : w.cell? ⟨g, 0, none⟩ = some (.int .i64 s) := by rw [cell_of_row w g 0 _ t fr h, tabA_get0]
theorem tab_cell1 (h : w.heap[g]? = some (.cells (tabA s c l) t fr)) : w.cell? ⟨g, 1, none⟩ = some (.int .i64 c) := by rw [cell_of_row w g 1 _ t fr h, tabA_get1]
theorem tab_cell (h : w.heap[g]? = some (.cells (tabA s c l) t fr)) (i : Nat) (hi : i < l.length) : w.cell? ⟨g, 2 + i, none⟩ = some (.int .i64 (l.getD i 0)) := by rw [cell_of_row w g _ _ t fr h, tabA_get s c l i hi]
theorem tab_range (h : w.heap[g]? = some (.cells (tabA s c l) t fr)) : w.rangeAt g 2 (l.map (Value.int .i64)) := fun j v hv => by
  have hj : j < l.length := by simpa using (List.getElem?_eq_some_iff.1 hv).1
  rw [tab_cell h j hj, ← hv]
  simp [List.getD, List.getElem?_eq_getElem hj]
theorem row_cell (h : w.heap[g]? = some (.cells (rowA l) t fr)) (i : Nat) (hi : i < l.length) : w.cell? ⟨g, i, none⟩ = some (.int .i64 (l.getD i 0)) := by rw [cell_of_row w g _ _ t fr h, rowA_get l i hi]
end

/-! Go's '==' on two arrays of int64 -/
theorem eqItems_ints {P : Program} (w : World) (d : Nat) (e : TypeId) (he : P.underlying e = some (.int .i64)) (xs ys : List Int) (n : Nat) (hx : xs.length = n) (hy : ys.length = n) :
    ∀ is : List Nat, (∀ i ∈ is, i < n) → (Op.eqItems (d + 1) e 1 (rowA xs) (rowA ys) is).run P w = .ok (is.all fun i => xs.getD i 0 == ys.getD i 0) w
  | [], _ => by simp [Op.eqItems]
  | i :: is, h => by
    have hi := h i (by simp)
    have ih := eqItems_ints w d e he xs ys n hx hy is (fun j hj => h j (by simp [hj]))
    have px : (part e (rowA xs) (i * 1)).run P w = .ok (.int .i64 (xs.getD i 0)) w := by
      simp [part, isAgg, run_underlying he, rowA_get xs i (by omega)]
    have py : (part e (rowA ys) (i * 1)).run P w = .ok (.int .i64 (ys.getD i 0)) w := by
      simp [part, isAgg, run_underlying he, rowA_get ys i (by omega)]
    simp only [Op.eqItems, Sem.run_bind, px, py, run_equalIn_int w d e .i64 .i64 _ _ he, Result.andThen_ok, List.all_cons]
    cases hb : (xs.getD i 0 == ys.getD i 0)
    · simp
    · simp only [Bool.not_true, Bool.false_eq_true, if_false, Bool.true_and]
      exact ih

theorem all_range_ints : ∀ (xs ys : List Int), xs.length = ys.length → ((List.range xs.length).all fun i => xs.getD i 0 == ys.getD i 0) = (xs == ys)
  | [], [], _ => rfl
  | x :: xs, y :: ys, h => by
    have ih := all_range_ints xs ys (by simpa using h)
    rw [List.length_cons, List.range_succ_eq_map, List.all_cons, List.all_map]
    simp only [List.getD_cons_zero, Function.comp_def, List.getD_cons_succ, ih]
    simp [List.cons_beq_cons]
  | [], _ :: _, h => by simp at h
  | _ :: _, [], h => by simp at h

theorem run_equalIn_ints {P : Program} (w : World) (t e : TypeId) (n : Nat) (i : TypeInfo) (hu : P.underlying t = some (.array n e)) (hi : P.info? e = some i) (hc : P.cellsOf e = 1) (he : P.underlying e = some (.int .i64))
    (xs ys : List Int) (hx : xs.length = n) (hy : ys.length = n) : (Op.equalIn 10000 t (.agg (rowA xs)) (.agg (rowA ys))).run P w = .ok (xs == ys) w := by
  rw [run_equalIn_array w 9999 (rowA xs) (rowA ys) hu hi, hc, eqItems_ints w 9998 e he xs ys n hx hy _ (fun i hi => by simpa using hi), ← all_range_ints xs ys (hx.trans hy.symm), hx]

theorem run_neq_ints {P : Program} (w : World) (t e : TypeId) (n : Nat) (i : TypeInfo) (hu : P.underlying t = some (.array n e)) (hi : P.info? e = some i) (hc : P.cellsOf e = 1) (he : P.underlying e = some (.int .i64))
    (xs ys : List Int) (hx : xs.length = n) (hy : ys.length = n) : (binOp .neq t (.agg (rowA xs)) (.agg (rowA ys))).run P w = .ok (.bool (!(xs == ys))) w := by
  rw [run_neq_struct, run_equalIn_ints w t e n i hu hi hc he xs ys hx hy]
  rfl

/-! What a valid table is -/
def cl (x : Int) : Int := if x < 1 then 1 else if 1000 < x then 1000 else x
def goodL (l : List Int) : Bool := l.all fun x => decide (1 ≤ x) && decide (x ≤ 1000)
theorem cl_id_iff (x : Int) : cl x = x ↔ (1 ≤ x ∧ x ≤ 1000) := by unfold cl; split <;> (try split) <;> omega
theorem map_cl : ∀ l : List Int, (l == l.map cl) = goodL l
  | [] => rfl
  | x :: l => by
    have ih := map_cl l
    simp only [List.map_cons, List.cons_beq_cons, ih, goodL, List.all_cons]
    congr 1
    rw [Bool.eq_iff_iff]
    simp only [beq_iff_eq, Bool.and_eq_true, decide_eq_true_eq]
    exact ⟨fun h => (cl_id_iff x).1 h.symm, fun h => ((cl_id_iff x).2 h).symm⟩

/-- The whole of Check: the table is valid. -/
def okT (s c : Int) (l : List Int) : Prop := 1 ≤ s ∧ s ≤ 1000 ∧ 0 ≤ c ∧ c ≤ 100 ∧ goodL l = true
theorem okT.cell {s c : Int} {l : List Int} (h : okT s c l) (i : Nat) (hi : i < l.length) : 1 ≤ l.getD i 0 ∧ l.getD i 0 ≤ 1000 := by
  have := h.2.2.2.2
  simp only [goodL, List.all_eq_true, Bool.and_eq_true, decide_eq_true_eq] at this
  have := this l[i] (List.getElem_mem _)
  simpa [List.getD, List.getElem?_eq_getElem hi] using this
end Go.Proofs.YtnnmmkimdknbgaaDoor
