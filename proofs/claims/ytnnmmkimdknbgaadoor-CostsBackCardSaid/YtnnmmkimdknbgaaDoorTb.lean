/- The contracts of costs.label, valuesOf and tableOf. -/
import Derived.Test.YtnnmmkimdknbgaaDoorTa
import Derived.Laws.CopyOwn
import Derived.Deep.RegionLaw
namespace Go.Proofs.YtnnmmkimdknbgaaDoor
open Go.RowKit
set_option linter.unusedVariables false

/-- The name with which line k begins. -/
def lblB (k : Nat) : List UInt8 := if k = 0 then [115, 101, 99, 116, 105, 111, 110] else if k = 1 then [99, 111, 112, 121] else nmB.getD (k - 2) []
def lbl (k : Nat) : ByteArray := ⟨(lblB k).toArray⟩
theorem lbl_nm {k : Nat} (h0 : k ≠ 0) (h1 : k ≠ 1) : lbl k = nm (k - 2) := by simp [lbl, lblB, h0, h1, nm]

set_option maxHeartbeats 400000 in
theorem label_any (k : Nat) (w : World) (h : k < 26) (hN : NamesAt w) : Calls Tryd.prog 18 #[.int .i64 k] w fun e w' => e = .returned (.string (lbl k)) ∧ w = w' := by
  by_cases h0 : k = 0
  · subst h0
    go_enter Tryd.func18, Tryd.ntmps18
    go_wp2_with fail
    go_ret
    exact ⟨rfl, rfl⟩
  by_cases h1 : k = 1
  · subst h1
    go_enter Tryd.func18, Tryd.ntmps18
    go_wp2_with fail
    go_ret
    exact ⟨rfl, rfl⟩
  have HN : Hid (Calls Tryd.prog 36 #[.int .i64 ((k : Int) - 2)] w fun e w' => e = .returned (.string (lbl k)) ∧ w = w') := by
    show Calls _ _ _ _ _
    have := name_yes (k - 2) w (by omega) hN
    rw [← lbl_nm h0 h1, show (((k - 2 : Nat)) : Int) = (k : Int) - 2 from by omega] at this
    exact this
  have d0 : ((k : Int) == 0) = false := beq_eq_false_iff_ne.2 (by omega)
  have d1 : ((k : Int) == 1) = false := beq_eq_false_iff_ne.2 (by omega)
  have hk : (2 : Int) ≤ (k : Int) := by omega
  clear h0 h1 hN
  go_enter Tryd.func18, Tryd.ntmps18
  go_wp2_with (go_at_call 36; refine HN.out.mono ?_; rintro e w' ⟨rfl, rfl⟩)
  go_ret
  exact ⟨rfl, rfl⟩

/-! valuesOf -/
def zero26 : List Int := List.replicate 26 0
theorem zerosR26 : rowA zero26 = #[Value.int .i64 0, Value.int .i64 0, Value.int .i64 0, Value.int .i64 0, Value.int .i64 0, Value.int .i64 0, Value.int .i64 0, Value.int .i64 0, Value.int .i64 0, Value.int .i64 0, Value.int .i64 0, Value.int .i64 0, Value.int .i64 0, Value.int .i64 0, Value.int .i64 0, Value.int .i64 0, Value.int .i64 0, Value.int .i64 0, Value.int .i64 0, Value.int .i64 0, Value.int .i64 0, Value.int .i64 0, Value.int .i64 0, Value.int .i64 0, Value.int .i64 0, Value.int .i64 0] := rfl
/-- The table, the result's block, the values' block. -/
def VAt (w0 : World) (s c : Int) (l m : List Int) (w : World) : Prop :=
  TabAt w0 w0.heap.size s c l w ∧ w.heap[w0.heap.size + 1]? = some (.cells (rowA zero26) 51 (0, 0)) ∧ w.heap[w0.heap.size + 2]? = some (.cells (rowA m) 51 (0, 0))
theorem VAt.start (w0 : World) (s c : Int) (l : List Int) (t : TypeId) : VAt w0 s c l zero26 (((w0.alloc (.cells (tabA s c l) t)).alloc (.cells (rowA zero26) 51)).alloc (.cells (rowA zero26) 51)) := by
  refine ⟨((TabAt.box w0 s c l t).call ((Below.refl _ _).alloc (Nat.le_refl _) _)).call ((Below.refl _ _).alloc (Nat.le_refl _) _), ?_, ?_⟩
  · rw [Below.heap_alloc _ _ _ (by simp)]
    exact heap_alloc2_new _ _ _
  · have := heap_alloc_new ((w0.alloc (.cells (tabA s c l) t)).alloc (.cells (rowA zero26) 51)) (.cells (rowA zero26) 51)
    simpa using this
theorem VAt.set {w0 w : World} {s c : Int} {l m : List Int} (h : VAt w0 s c l m w) (i : Nat) (x : Int) : VAt w0 s c l (m.set i x) (w.setCell ⟨w0.heap.size + 2, i, none⟩ (.int .i64 x)) := by
  have hb : Below (w0.heap.size + 1) w (w.setCell ⟨w0.heap.size + 2, i, none⟩ (.int .i64 x)) := (Below.refl _ _).setCell (by simp) _
  refine ⟨⟨?_, ?_, ?_, ?_, ?_⟩, ?_, ?_⟩
  · rw [hb.cell (p := ⟨w0.heap.size, 0, none⟩) (by simp)]; exact h.1.1
  · rw [hb.cell (p := ⟨w0.heap.size, 1, none⟩) (by simp)]; exact h.1.2.1
  · intro j v hv; rw [hb.cell (p := ⟨w0.heap.size, 2 + j, none⟩) (by simp)]; exact h.1.2.2.1 j v hv
  · exact h.1.2.2.2.1.setCell (by simp) _
  · exact Nat.lt_of_lt_of_le h.1.2.2.2.2 hb.size
  · rw [heap_setCell_other _ _ _ _ (by simp)]; exact h.2.1
  · rw [heap_setCell_same w _ _ _ _ _ h.2.2, rowA_set]

set_option maxHeartbeats 2000000 in
set_option maxRecDepth 100000 in
theorem values_any (s c : Int) (l : List Int) (hl : l.length = 24) (w : World) :
    Calls Tryd.prog 16 #[.agg (tabA s c l)] w fun e w' => e = .returned (.agg (rowA (s :: c :: l))) ∧ Below w.heap.size w w' := by
  have HL := Lib.hid hl
  have HV := Lib.hid (VAt.start w s c l 24)
  clear hl
  rw [zerosR26] at HV
  go_enter Tryd.func16, Tryd.ntmps16
  go_upto_region 2 with (fail)
  generalize World.alloc (World.alloc (World.alloc w _) _) _ = wA at HV ⊢
  have hc0 := HV.out.1.1
  have hc1 := HV.out.1.2.1
  have v0 : wA.cell? ⟨w.heap.size + 2, 0, none⟩ = some (.int .i64 0) := row_cell HV.out.2.2 0 (by decide)
  have v1 : wA.cell? ⟨w.heap.size + 2, 1, none⟩ = some (.int .i64 0) := row_cell HV.out.2.2 1 (by decide)
  have f0 := frozen_of_row _ _ 0 _ _ HV.out.2.2
  have f1 := frozen_of_row _ _ 1 _ _ HV.out.2.2
  have HV2 := Lib.hid ((HV.out.set 0 s).set 1 c)
  clear HV
  go_upto_region 4 with (fail)
  generalize World.setCell (World.setCell wA _ _) _ _ = wB at HV2 ⊢
  clear hc0 hc1 v0 v1 f0 f1
  have hcur := HV2.out.2.2
  have hsz24 : (s :: c :: List.replicate 24 0).length = 26 := by simp
  have hsz1 : (Tryd.prog.info? 2).map (·.size) = some 1 := by kernel_rfl
  have HSZ1 := Lib.hid hsz1
  have HCUR : Hid (wB.heap[w.heap.size + 2]? = some (.cells ((s :: c :: List.replicate 24 0).map (Value.int .i64)).toArray 51 (0, 0))) := hcur
  have HLM : Hid ((l.map (Value.int .i64)).length = 24) := by show _ = _; rw [List.length_map, HL.out]
  have HR := Lib.hid HV2.out.1.2.2.1
  have HBL := Lib.hid HV2.out.1.2.2.2.1
  have HB1 := Lib.hid HV2.out.2.1
  clear hcur hsz24 hsz1 HV2
  go_region_law ((refine step_copy_splice rfl (.tmp 10) (.tmp 12) 42 42 rfl 2 Tryd.underlying42 HSZ1.out (some ⟨w.heap.size + 1 + 1, 2, none⟩) (some ⟨w.heap.size, 2, none⟩) 24 24 24 24 rfl rfl (w.heap.size + 1 + 1) 2 ((s :: c :: List.replicate 24 0).map (Value.int .i64)) 51 HCUR.out (l.map (Value.int .i64)) (by rw [HLM.out]; rfl) (fun _ => ⟨rfl, _, rfl, fun j v hv => by rw [Addr.add_mid]; exact HR.out j v hv⟩) (by rw [HLM.out]; simp) (fun v hv => by obtain ⟨x, _, rfl⟩ := List.mem_map.1 hv; rfl) (w.heap.size + 1 + 1) wB ((Below.refl _ wB).drew) (Nat.le_refl _) ?_; intro w4 hg4 hb4))
  have hrow : w4.heap[w.heap.size + 2]? = some (.cells (rowA (s :: c :: l)) 51 (0, 0)) := by
    refine hg4.out.trans (congrArg (fun x : List Value => some (Obj.cells x.toArray 51 (0, 0))) ?_)
    have e : (l.map (Value.int .i64)).length = 24 := HLM.out
    simp [splice, e, List.drop_eq_nil_of_le]
  have hres : w4.heap[w.heap.size + 1]? = some (.cells (rowA zero26) 51 (0, 0)) := by
    rw [hb4.block (w.heap.size + 1) (by omega)]; exact HB1.out
  have HROW := Lib.hid hrow
  have HRES := Lib.hid hres
  have HI : Hid ((Tryd.prog.info? 51).map (·.size) = some (rowA (s :: c :: l)).size) := by
    have isz : (Tryd.prog.info? 51).map (·.size) = some 26 := by kernel_rfl
    show _ = _
    rw [rowA_size, isz]; simp [HL.out]
  have HO : Hid ((rowA zero26).size = (rowA (s :: c :: l)).size) := by show _ = _; rw [rowA_size, rowA_size]; simp [zero26, HL.out]
  have HR2 : Hid ((w4.setRow (w.heap.size + 1) (rowA (s :: c :: l))).heap[w.heap.size + 1]? = some (.cells (rowA (s :: c :: l)) 51 (0, 0))) := setRow_heap _ _ _ _ _ _ hres
  have HBEL : Hid (Below w.heap.size w (w4.setRow (w.heap.size + 1) (rowA (s :: c :: l)))) :=
    (HBL.out.trans (hb4.mono (by omega))).trans ⟨rfl, rfl, rfl, by simp, fun k hk => setRow_other _ _ _ _ (by omega)⟩
  clear hrow hres hg4 hb4 HCUR HLM HR HBL HB1 HSZ1
  go_wp2_with (first
    | (refine wpList_load_row rfl 51 (Operand.tmp 3) rfl (w.heap.size + 2) rfl 51 _ (0, 0) _ HROW.out Tryd.underlying51 rfl HI.out ?_)
    | (refine wpList_store_row rfl 51 (Operand.tmp 2) (Operand.tmp 14) rfl (w.heap.size + 1) (rowA (s :: c :: l)) rfl rfl 51 _ HRES.out HI.out HO.out (rowA_one _) ?_))
  exact bodyPost_ret (v := .agg (rowA (s :: c :: l))) (results_cell_row rfl _ _ (w.heap.size + 1) 51 _ (0, 0) _ rfl HR2.out Tryd.underlying51 rfl HI.out) rfl ⟨rfl, HBEL.out⟩
end Go.Proofs.YtnnmmkimdknbgaaDoor
