/- Go's '==' on two tables; the texts of the code and of the specification, at once. -/
import Derived.Test.YtnnmmkimdknbgaaDoorTq
import Derived.Lib.QuietBelow
namespace Go.Proofs.YtnnmmkimdknbgaaDoor
open Go.RowKit
set_option linter.unusedVariables false

theorem part_rest (s c : Int) (l : List Int) (hl : l.length = 24) (w : World) : (part 22 (tabA s c l) 2).run Tryd.prog w = .ok (.agg (rowA l)) w := by
  have e : (tabA s c l).extract 2 26 = rowA l := by
    apply Array.toList_inj.1
    simp [tabA, rowA, hl, List.take_of_length_le]
  simp [part, isAgg, run_underlying Tryd.underlying22, e]
theorem part_zero (s c : Int) (l : List Int) (w : World) : (part 2 (tabA s c l) 0).run Tryd.prog w = .ok (.int .i64 s) w := by
  simp [part, isAgg, run_underlying Tryd.underlying2, tabA_get0]
theorem part_one (s c : Int) (l : List Int) (w : World) : (part 2 (tabA s c l) 1).run Tryd.prog w = .ok (.int .i64 c) w := by
  simp [part, isAgg, run_underlying Tryd.underlying2, tabA_get1]
theorem equal_fields (w : World) (f0 f1 f2 : Field) (h0 : f0.type = 2 ∧ f0.offset = 0 ∧ f0.name ≠ "_") (h1 : f1.type = 2 ∧ f1.offset = 1 ∧ f1.name ≠ "_") (h2 : f2.type = 22 ∧ f2.offset = 2 ∧ f2.name ≠ "_") (s c : Int) (l : List Int) (hl : l.length = 24) :
    (Op.eqFields 9999 (tabA s c l) (tabA s c l) [f0, f1, f2]).run Tryd.prog w = .ok true w := by
  obtain ⟨a0, a1, a2⟩ := h0
  obtain ⟨b0, b1, b2⟩ := h1
  obtain ⟨c0, c1, c2⟩ := h2
  obtain ⟨i0, hi, -, -, -⟩ := info_parts info_i64
  simp only [Op.eqFields, a0, a1, a2, b0, b1, b2, c0, c1, c2, ne_eq, not_false_eq_true, if_true, Sem.run_bind, part_zero, Result.andThen_ok, run_equalIn_int w 9998 2 .i64 .i64 _ _ Tryd.underlying2, beq_self_eq_true]
  have e4 : (Op.equalIn 9999 22 (.agg (rowA l)) (.agg (rowA l))).run Tryd.prog w = .ok (l == l) w := by
    have h := run_equalIn_array w 9998 (rowA l) (rowA l) Tryd.underlying22 hi
    have hc : Tryd.prog.cellsOf 2 = 1 := by kernel_rfl
    rw [h, hc, eqItems_ints w 9997 2 Tryd.underlying2 l l 24 hl hl _ (fun i hi => by simpa using hi), ← all_range_ints l l rfl, hl]
  simp [part_one, part_rest s c l hl, e4, run_equalIn_int w 9998 2 .i64 .i64 _ _ Tryd.underlying2]
theorem three {fs : List Field} (h : fs.map (fun f => (f.type, f.offset, f.name != "_")) = [(2, 0, true), (2, 1, true), (22, 2, true)]) (s c : Int) (l : List Int) (hl : l.length = 24) (w : World) :
    (Op.eqFields 9999 (tabA s c l) (tabA s c l) fs).run Tryd.prog w = .ok true w := by
  have hl3 : fs.length = 3 := by simpa using congrArg List.length h
  match fs, hl3, h with
  | [f0, f1, f2], _, h =>
    simp only [List.map_cons, List.map_nil, List.cons.injEq, Prod.mk.injEq, bne_iff_ne, ne_eq, and_true] at h
    exact equal_fields w f0 f1 f2 h.1 h.2.1 h.2.2 s c l hl
theorem eql_rtab (s c : Int) (l : List Int) (hl : l.length = 24) (w : World) : (binOp .eql 30 (.agg (tabA s c l)) (.agg (tabA s c l))).run Tryd.prog w = .ok (.bool true) w := by
  rw [run_eql_struct, run_equalIn_struct w 9999 30 _ _ (by kernel_rfl) (by kernel_rfl), three (by kernel_rfl) s c l hl]; rfl
theorem neq_tab (s c : Int) (l : List Int) (hl : l.length = 24) (w : World) : (binOp .neq 24 (.agg (tabA s c l)) (.agg (tabA s c l))).run Tryd.prog w = .ok (.bool false) w := by
  rw [run_neq_struct, run_equalIn_struct w 9999 24 _ _ (by kernel_rfl) (by kernel_rfl), three (by kernel_rfl) s c l hl]; rfl

/-- The text of a table, and the error: the code's and the specification's. -/
theorem text_both (s c : Int) (l : List Int) (hl : l.length = 24) : ∃ (T : ByteArray) (E : Int),
    (∀ w, NamesAt w → Lib.TabIs Tryd.prog w "internal/strconv.uint64pow10" .u64 Lib.pow10Tab → Calls Tryd.prog 6 #[.agg (tabA s c l)] w fun e w' => e = .returned (.tuple #[.string T, .int .i64 E]) ∧ Below w.heap.size w w') ∧
    (∀ w, Calls Tryd.prog 7 #[.agg (tabA s c l)] w fun e w' => e = .returned (.tuple #[.string T, .int .i64 E]) ∧ Below w.heap.size w w') := by
  by_cases h : okT s c l
  · obtain ⟨s', rfl⟩ : ∃ k : Nat, s = (k : Int) := ⟨s.toNat, by have := h.1; omega⟩
    obtain ⟨c', rfl⟩ : ∃ k : Nat, c = (k : Int) := ⟨c.toNat, by have := h.2.2.1; omega⟩
    exact ⟨_, 0, fun w hN hT => text_ok _ _ l hl w h hN hT, fun w => reftext_ok _ _ l hl w h⟩
  · exact ⟨_, 34, fun w _ _ => text_bad s c l hl w h, fun w => reftext_bad s c l hl w h⟩
end Go.Proofs.YtnnmmkimdknbgaaDoor
