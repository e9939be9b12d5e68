/- The contracts of costs.tableOf, lines. -/
import Derived.Test.YtnnmmkimdknbgaaDoorTh
import Derived.Test.YtnnmmkimdknbgaaDoorRa
namespace Go.Proofs.YtnnmmkimdknbgaaDoor
open Go.RowKit
set_option linter.unusedVariables false

theorem lines_any (s : ByteArray) (w : World) : Calls Tryd.prog 25 #[.string s] w fun e w' => e = .returned (.func (Fn.func 38) #[] #[.pointer (some ⟨w.heap.size, 0, none⟩)]) ∧ w' = w.alloc (.cells #[.string s] 9) := by
  go_enter Tryd.func25, Tryd.ntmps25
  go_wp2
  go_ret
  exact ⟨rfl, rfl⟩

theorem built_sc (s c : Int) : Tryd.prog.built 24 [(0, .int .i64 s), (1, .int .i64 c)] = some (tabA s c zeroL) := by kernel_rfl
set_option maxHeartbeats 2000000 in
set_option maxRecDepth 100000 in
theorem tableof_any (s c : Int) (l : List Int) (hl : l.length = 24) (w : World) :
    Calls Tryd.prog 27 #[.agg (rowA (s :: c :: l))] w fun e w' => e = .returned (.agg (tabA s c l)) ∧ Below w.heap.size w w' := by
  have HR0 : Hid (((w.alloc (.cells (rowA (s :: c :: l)) 51)).alloc (.cells (tabA 0 0 zeroL) 24)).heap[w.heap.size]? = some (.cells (rowA (s :: c :: l)) 51 (0, 0))) := heap_alloc2_old _ _ _
  have HR1 : Hid (((w.alloc (.cells (rowA (s :: c :: l)) 51)).alloc (.cells (tabA 0 0 zeroL) 24)).heap[w.heap.size + 1]? = some (.cells (tabA 0 0 zeroL) 24 (0, 0))) := heap_alloc2_new _ _ _
  have HBA : Hid (Below w.heap.size w ((w.alloc (.cells (rowA (s :: c :: l)) 51)).alloc (.cells (tabA 0 0 zeroL) 24))) := ((Below.refl _ _).alloc (Nat.le_refl _) _).alloc (by simp) _
  have HSZ : Hid (w.heap.size + 2 ≤ ((w.alloc (.cells (rowA (s :: c :: l)) 51)).alloc (.cells (tabA 0 0 zeroL) 24)).heap.size) := by show _ ≤ _; simp
  have HL := Lib.hid hl
  have HB := Lib.hid (built_sc s c)
  clear hl
  go_enter Tryd.func27, Tryd.ntmps27
  go_upto_region 1 with (fail)
  rw [zeros26] at HR0 HR1 HBA HSZ
  generalize World.alloc (World.alloc w _) _ = wA at HR0 HR1 HBA HSZ ⊢
  have c0 : wA.cell? ⟨w.heap.size, 0, none⟩ = some (.int .i64 s) := row_cell HR0.out 0 (by simp)
  have c1 : wA.cell? ⟨w.heap.size, 1, none⟩ = some (.int .i64 c) := row_cell HR0.out 1 (by simp)
  have HN : Hid ((wA.alloc (.cells (tabA 0 0 zeroL) 24)).heap[wA.heap.size]? = some (.cells (tabA 0 0 zeroL) 24 (0, 0))) := heap_alloc_new _ _
  have HS2 := Lib.hid (size_tabA s c zeroL rfl)
  have HO : Hid ((tabA 0 0 zeroL).size = (tabA s c zeroL).size) := rfl
  rw [zeros26] at HN HO
  go_upto_region 2 with (first
    | (refine wpList_plain rfl (fun K hK => ?_)
       refine wp_build_at 24 #[(0, Operand.tmp 5), (1, Operand.tmp 7)] rfl (tabA s c zeroL) ?hb ?_
       go_must (case hb => simp [Act.eval]; exact HB.out)
       refine hK _ _ ?_
       clear hK K)
    | (refine wpList_store_row rfl 24 (Operand.tmp 3) (Operand.tmp 8) rfl wA.heap.size (tabA s c zeroL) rfl rfl 24 _ HN.out HS2.out HO.out (tabA_one _ _ _) ?_))
  have HT : Hid (((wA.alloc (.cells (tabA 0 0 zeroL) 24)).setRow wA.heap.size (tabA s c zeroL)).heap[wA.heap.size]? = some (.cells (tabA s c zeroL) 24 (0, 0))) := setRow_heap _ _ _ _ _ _ (by rw [zeros26]; exact HN.out)
  have hoth : ∀ k, k < wA.heap.size → ((wA.alloc (.cells (tabA 0 0 zeroL) 24)).setRow wA.heap.size (tabA s c zeroL)).heap[k]? = wA.heap[k]? := fun k hk => by
    rw [setRow_other _ _ _ _ (by omega), Below.heap_alloc _ _ _ hk]
  have hsz := HSZ.out
  have HR0B := Lib.hid ((hoth w.heap.size (by omega)).trans HR0.out)
  have HR1B := Lib.hid ((hoth (w.heap.size + 1) (by omega)).trans HR1.out)
  have hbb : Below wA.heap.size wA ((wA.alloc (.cells (tabA 0 0 zeroL) 24)).setRow wA.heap.size (tabA s c zeroL)) :=
    ⟨rfl, rfl, rfl, by simp, fun k hk => hoth k hk⟩
  have HBB := Lib.hid (HBA.out.trans (hbb.mono (by omega)))
  rw [zeros26] at HT HR0B HR1B HBB
  clear hbb hoth HN HO HS2 HB c0 c1 HR0 HR1 HBA HSZ
  generalize World.setRow (World.alloc wA _) _ _ = wB at HT HR0B HR1B HBB ⊢
  generalize wA.heap.size = g at hsz HT ⊢
  have hsz1 : (Tryd.prog.info? 2).map (·.size) = some 1 := by kernel_rfl
  have HSZ1 := Lib.hid hsz1
  clear hsz1
  have HCUR : Hid (wB.heap[g]? = some (.cells (tabL s c zeroL).toArray 24 (0, 0))) := HT.out
  have HLM : Hid ((l.map (Value.int .i64)).length = 24) := by show _ = _; rw [List.length_map, HL.out]
  have HSRC : Hid (∀ j v, (l.map (Value.int .i64))[j]? = some v → wB.cell? ⟨w.heap.size, 2 + j, none⟩ = some v) := by
    show ∀ j v, _
    intro j v hv
    rw [cell_of_row _ _ (2 + j) _ _ _ HR0B.out, ← hv]
    simp [rowA, Nat.add_comm 2 j]
  simp only [Act.put]
  go_region_law ((refine step_copy_splice rfl (.tmp 10) (.tmp 11) 42 42 rfl 2 Tryd.underlying42 HSZ1.out (some ⟨g, 2, none⟩) (some ⟨w.heap.size, 2, none⟩) 24 24 24 24 rfl rfl g 2 (tabL s c zeroL) 24 HCUR.out (l.map (Value.int .i64)) (by rw [HLM.out]; rfl) (fun _ => ⟨rfl, _, rfl, fun j v hv => by rw [Addr.add_mid]; exact HSRC.out j v hv⟩) (by rw [HLM.out]; simp [tabL, zeroL]) (fun v hv => by obtain ⟨x, _, rfl⟩ := List.mem_map.1 hv; rfl) g wB ((Below.refl _ wB).drew) (Nat.le_refl _) ?_; intro w4 hg4 hb4))
  have hrow : w4.heap[g]? = some (.cells (tabA s c l) 24 (0, 0)) := by
    refine hg4.out.trans (congrArg (fun x : List Value => some (Obj.cells x.toArray 24 (0, 0))) (a₂ := tabL s c l) ?_)
    have e : (l.map (Value.int .i64)).length = 24 := HLM.out
    simp [splice, e, tabL, zeroL, List.drop_eq_nil_of_le]
  have hres := (hb4.block (w.heap.size + 1) (by omega)).trans HR1B.out
  have HROW := Lib.hid hrow
  have HRES := Lib.hid hres
  have HI := Lib.hid (size_tabA s c l HL.out)
  have HO : Hid ((tabA 0 0 zeroL).size = (tabA s c l).size) := by show (tabA 0 0 zeroL).size = (tabA s c l).size; simp [tabA, zeroL, HL.out]
  rw [zeros26] at HO
  have HR2 : Hid ((w4.setRow (w.heap.size + 1) (tabA s c l)).heap[w.heap.size + 1]? = some (.cells (tabA s c l) 24 (0, 0))) := setRow_heap _ _ _ _ _ _ hres
  have HBEL : Hid (Below w.heap.size w (w4.setRow (w.heap.size + 1) (tabA s c l))) :=
    (HBB.out.trans (hb4.mono (by omega))).trans ⟨rfl, rfl, rfl, by simp, fun k hk => setRow_other _ _ _ _ (by omega)⟩
  clear hrow hres hg4 hb4 HCUR HLM HR0B HR1B HBB HT HSRC HSZ1
  go_wp2_with (first
    | (refine wpList_load_row rfl 24 (Operand.tmp 3) rfl g rfl 24 _ (0, 0) _ HROW.out Tryd.underlying24 rfl HI.out ?_)
    | (refine wpList_store_row rfl 24 (Operand.tmp 2) (Operand.tmp 13) rfl (w.heap.size + 1) (tabA s c l) rfl rfl 24 _ HRES.out HI.out HO.out (tabA_one _ _ _) ?_))
  exact bodyPost_ret (v := .agg (tabA s c l)) (results_cell_row rfl _ _ (w.heap.size + 1) 24 _ (0, 0) _ rfl HR2.out Tryd.underlying24 rfl HI.out) rfl ⟨rfl, HBEL.out⟩
end Go.Proofs.YtnnmmkimdknbgaaDoor
