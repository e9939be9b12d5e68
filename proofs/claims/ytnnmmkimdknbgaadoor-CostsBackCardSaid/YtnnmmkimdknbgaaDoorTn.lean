/- The contract of costs.Parse. -/
import Derived.Test.YtnnmmkimdknbgaaDoorTm
namespace Go.Proofs.YtnnmmkimdknbgaaDoor
open Go.RowKit Go.Shelf
set_option linter.unusedVariables false
attribute [local go_sem] Oper.semAt_some

/-- What Parse hands back: Section, Copy, the costs, the fault's offset and code. -/
structure POut where
  s : Int
  c : Int
  l : List Int
  at_ : Int
  code : Int
open Classical in
noncomputable def pOut (b : ByteArray) : POut :=
  if 65536 < b.size then ⟨0, 0, zeroL, 0, 18⟩ else
    match parseV b.data.toList with
    | .inl a => ⟨0, 0, zeroL, a, 36⟩
    | .inr m => if okT ((m.map Int.ofNat).getD 0 0) ((m.map Int.ofNat).getD 1 0) ((m.map Int.ofNat).drop 2) then ⟨(m.map Int.ofNat).getD 0 0, (m.map Int.ofNat).getD 1 0, (m.map Int.ofNat).drop 2, 0, 0⟩ else ⟨0, 0, zeroL, 0, 34⟩
theorem pOut_len (b : ByteArray) : (pOut b).l.length = 24 := by
  unfold pOut
  split
  · rfl
  · split
    · rfl
    · rename_i m hm
      split
      · show ((m.map Int.ofNat).drop 2).length = 24
        have : m.length = 26 := runV_len _ _ _ _ hm
        simp [this]
      · rfl
def faultA (a c : Int) : Array Value := #[.int .i64 a, .int .i64 c]
theorem faultA_one (a c : Int) : (faultA a c).all (·.oneCell') = true := by simp [faultA, Value.oneCell']
theorem size_fault (a c : Int) : (Tryd.prog.info? 33).map (·.size) = some (faultA a c).size := by show (Tryd.prog.info? 33).map (·.size) = some 2; kernel_rfl
noncomputable def pEnd (o : POut) : Ending := .returned (.tuple #[.agg (tabA o.s o.c o.l), .agg (faultA o.at_ o.code)])

set_option maxRecDepth 100000 in
set_option maxHeartbeats 4000000 in
theorem parse_long (s : ByteArray) (w : World) (h : 65536 < s.size) : Calls Tryd.prog 9 #[.string s] w fun e w' => e = pEnd (pOut s) ∧ Below w.heap.size w w' := by
  have HP : Hid (pOut s = ⟨0, 0, zeroL, 0, 18⟩) := by show _ = _; rw [pOut, if_pos h]
  have HR0 : Hid (RowAt ((w.alloc (.cells (tabA 0 0 zeroL) 24)).alloc (.cells (faultA 0 0) 33)) w.heap.size 24 (tabA 0 0 zeroL)) := heap_alloc2_old _ _ _
  have HR1 : Hid (RowAt ((w.alloc (.cells (tabA 0 0 zeroL) 24)).alloc (.cells (faultA 0 0) 33)) (w.heap.size + 1) 33 (faultA 0 0)) := heap_alloc2_new _ _ _
  have HBA : Hid (Below w.heap.size w ((w.alloc (.cells (tabA 0 0 zeroL) 24)).alloc (.cells (faultA 0 0) 33))) := ((Below.refl _ _).alloc (Nat.le_refl _) _).alloc (by simp) _
  have hi : (65536 : Int) < s.size := by omega
  clear h
  refine (callsIn_wide (n := 8)).1 ?_
  refine callsIn_of_wp_marks Tryd.func9 rfl trivial ?_ rfl
  simp only [Tryd.ntmps9, List.size_toArray, List.length_cons, List.length_nil, Nat.reduceAdd, Nat.reduceSub, Array.replicate_succ, Array.replicate_zero, List.push_toArray, List.append_toArray, List.nil_append, List.cons_append]
  gi_upto_region 1 with (fail)
  simp only [zeros26, faultA] at HR0 HR1 HBA
  generalize World.alloc (World.alloc w _) _ = wA at HR0 HR1 HBA ⊢
  have HS := Lib.hid (size_tabA 0 0 zeroL rfl)
  have HSF := Lib.hid (size_fault 0 18)
  have HB1 : Hid (Tryd.prog.built 24 [] = some (tabA 0 0 zeroL)) := by show _ = _; kernel_rfl
  have HB2 : Hid (Tryd.prog.built 33 [(0, .int .i64 0), (1, .int .i64 18)] = some (faultA 0 18)) := by show _ = _; kernel_rfl
  gi_wp2_with (first
    | (refine wpListIn_build_at rfl 24 #[] rfl (tabA 0 0 zeroL) HB1.out ?_)
    | (refine wpListIn_build_at rfl 33 #[(0, Operand.const (.int .i64 0)), (1, Operand.const (.int .i64 18))] rfl (faultA 0 18) HB2.out ?_)
    | (refine wpListIn_store_row rfl 24 (Operand.tmp 2) (Operand.tmp 15) rfl w.heap.size (tabA 0 0 zeroL) rfl rfl 24 _ HR0.out HS.out (by rfl) (tabA_one _ _ _) ?_)
    | (refine wpListIn_store_row rfl 33 (Operand.tmp 3) (Operand.tmp 16) rfl (w.heap.size + 1) (faultA 0 18) rfl rfl 33 _ (HR1.out.otherRow (by omega) _) HSF.out rfl (faultA_one _ _) ?_))
  rw [HP.out]
  refine ⟨_, results_two_rows rfl _ _ w.heap.size (w.heap.size + 1) 24 33 (tabA 0 0 zeroL) (faultA 0 18) _ _ rfl ((HR0.out.setRow _).otherRow (by omega) _) Tryd.underlying24 rfl HS.out rfl ((HR1.out.otherRow (by omega) _).setRow _) Tryd.underlying33 rfl HSF.out, rfl, ?_⟩
  exact HBA.out.trans ((setRow_below (Nat.le_refl _) _).trans (setRow_below (Nat.le_succ _) _))
end Go.Proofs.YtnnmmkimdknbgaaDoor
