/- The contracts of Name, and of the specification's names. -/
import Derived.Test.YtnnmmkimdknbgaaDoorCg
namespace Go.Proofs.YtnnmmkimdknbgaaDoor
open Go.RowKit
set_option linter.unusedVariables false

/-- The bytes of the names of the operations. -/
def nmB : List (List UInt8) := [[115, 101, 110, 100], [114, 101, 99, 101, 105, 118, 101], [114, 101, 112, 108, 121], [114, 101, 97, 100], [119, 114, 105, 116, 101], [112, 117, 108, 115, 101], [108, 111, 99, 107], [117, 110, 108, 111, 99, 107], [99, 111, 110, 100, 119, 97, 105, 116], [99, 111, 110, 100, 115, 105, 103, 110, 97, 108], [115, 101, 109, 119, 97, 105, 116], [115, 101, 109, 112, 111, 115, 116], [98, 97, 114, 114, 105, 101, 114], [116, 105, 109, 101, 114], [115, 108, 101, 101, 112], [99, 104, 97, 110, 110, 101, 108], [105, 110, 116, 101, 114, 114, 117, 112, 116], [117, 110, 109, 97, 115, 107], [107, 105, 108, 108], [112, 114, 105, 111, 114, 105, 116, 121], [121, 105, 101, 108, 100], [101, 120, 105, 116], [115, 112, 97, 119, 110], [110, 111, 112]]
/-- The name of operation k. -/
def nm (k : Nat) : ByteArray := ⟨(nmB.getD k []).toArray⟩
def nmV : List Value := (List.range 24).map fun j => Value.string (nm j)
theorem nmV_len : nmV.length = 24 := by simp [nmV]
theorem nmV_get (k : Nat) (h : k < 24) : nmV[k]? = some (.string (nm k)) := by simp [nmV, h]

/-- The package-level table holds the names. -/
def NamesAt (w : World) : Prop := ∀ k, k < 24 → w.cell? ⟨0, k, none⟩ = some (.string (nm k))
theorem NamesAt.range {w : World} (h : NamesAt w) : w.rangeAt 0 0 nmV := fun j v hv => by
  have hj : j < 24 := by have := (List.getElem?_eq_some_iff.1 hv).1; rwa [nmV_len] at this
  rw [nmV_get j hj] at hv
  rw [Nat.zero_add, h j hj, hv]
theorem NamesAt.lt {w : World} (h : NamesAt w) : 0 < w.heap.size := World.block_lt_of_cell? w _ (h 0 (by decide))
theorem NamesAt.below {w w' : World} (h : NamesAt w) (hb : Below w.heap.size w w') : NamesAt w' := fun k hk => by
  rw [hb.cell (p := ⟨0, k, none⟩) h.lt]; exact h k hk

theorem index_nm (k : Nat) (hk : k < 24) (w : World) : (Instr.index 86 (.agg nmV.toArray) (.int .i64 (k : Int))).run Tryd.prog w = .ok (.string (nm k)) w := by
  have hz : ∀ w, (sizeOf 9).run Tryd.prog w = .ok 1 w := fun _ => by kernel_rfl
  have h0 : (0 : Int) ≤ k ∧ (k : Int) < 24 := by omega
  simp [Instr.index, asIntOf, run_underlying Tryd.underlying86, run_underlying Tryd.underlying9, part, isAgg, hz, h0, nmV_get k hk]
  intro h; omega
theorem size_nm : (Tryd.prog.info? 86).map (·.size) = some nmV.length := by rw [nmV_len]; kernel_rfl

set_option maxHeartbeats 400000 in
theorem name_no (n : Int) (w : World) (h : n < 0 ∨ 24 ≤ n) : Calls Tryd.prog 36 #[.int .i64 n] w fun e w' => e = .returned (.string ⟨#[]⟩) ∧ w = w' := by
  have HH := Lib.hid h
  clear h
  go_enter Tryd.func36, Tryd.ntmps36
  go_wp2_with (go_at_call 30; refine (isop_no _ _ HH.out).mono ?_; rintro e w' ⟨rfl, rfl⟩)
  go_ret
  exact ⟨rfl, rfl⟩
set_option maxHeartbeats 400000 in
theorem name_yes (k : Nat) (w : World) (h : k < 24) (hN : NamesAt w) : Calls Tryd.prog 36 #[.int .i64 k] w fun e w' => e = .returned (.string (nm k)) ∧ w = w' := by
  have hc := hN k h
  have h0 : (0 : Int) ≤ k := by omega
  have h1 : (k : Int) < 24 := by omega
  clear hN
  go_enter Tryd.func36, Tryd.ntmps36
  go_wp2_with (go_at_call 30; refine (isop_yes _ _ h0 h1).mono ?_; rintro e w' ⟨rfl, rfl⟩)
  go_ret
  exact ⟨rfl, rfl⟩

def RefNames (w : World) (e : Ending) (w' : World) : Prop := e = .returned (.slice (some ⟨w.heap.size, 0, none⟩) 24 24) ∧ (∀ k, k < 24 → w'.cell? ⟨w.heap.size, k, none⟩ = some (.string (nm k))) ∧ Below w.heap.size w w' ∧ w.heap.size < w'.heap.size
set_option maxHeartbeats 400000 in
theorem refnames_any (w : World) : Calls Tryd.prog 24 #[] w (RefNames w) := by
  go_enter Tryd.func24, Tryd.ntmps24
  go_wp2
  go_ret
  refine ⟨rfl, fun k hk => ?_, (Below.refl _ _).alloc (Nat.le_refl _) _, by simp⟩
  rw [cell_of_row _ _ k _ _ _ (heap_alloc_new w _)]
  have e : ∀ j : Fin 24, nmV.toArray[j.1]? = some (.string (nm j.1)) := fun j => by rw [List.getElem?_toArray]; exact nmV_get j.1 j.2
  exact e ⟨k, hk⟩

theorem bytes_inj {a b : ByteArray} (h : a.toList = b.toList) : a = b := by
  rw [ByteArray.toList_eq, ByteArray.toList_eq] at h
  obtain ⟨⟨x⟩⟩ := a
  obtain ⟨⟨y⟩⟩ := b
  simp only at h
  rw [h]
theorem seq_yes {a b : ByteArray} (h : b = a) : (a.toList == b.toList) = true := by rw [h]; exact beq_iff_eq.2 rfl
theorem seq_no {a b : ByteArray} (h : ¬ b = a) : (a.toList == b.toList) = false := beq_eq_false_iff_ne.2 (fun e => h (bytes_inj e).symm)

end Go.Proofs.YtnnmmkimdknbgaaDoor
