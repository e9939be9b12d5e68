/- The contracts of the specification's Check, Cost and Default, and of the law's From. -/
import Derived.Test.YtnnmmkimdknbgaaDoorCg
namespace Go.Proofs.YtnnmmkimdknbgaaDoor
open Go.RowKit
set_option linter.unusedVariables false

/-- A build whose cells are known. -/
theorem wp_build_at {P : Program} {o : Oper} {a : Act} {w : World} {K : Act → World → Prop} {Q : Exit → Act → World → Prop} (t : TypeId) (parts : Array (Nat × Operand)) (ho : o.op = .build t parts) (cells : Array Value)
    (hf : P.built t (parts.map fun (i, x) => (i, a.eval x)).toList = some cells) (h : K (a.put o.dst (.agg cells)) w) : o.wp P a w K Q :=
  wp_build t parts ho (by rw [hf]; rfl) (by rw [hf]; exact h)

/-! From -/
theorem zeros26 : tabA 0 0 zeroL = #[Value.int .i64 0, Value.int .i64 0, Value.int .i64 0, Value.int .i64 0, Value.int .i64 0, Value.int .i64 0, Value.int .i64 0, Value.int .i64 0, Value.int .i64 0, Value.int .i64 0, Value.int .i64 0, Value.int .i64 0, Value.int .i64 0, Value.int .i64 0, Value.int .i64 0, Value.int .i64 0, Value.int .i64 0, Value.int .i64 0, Value.int .i64 0, Value.int .i64 0, Value.int .i64 0, Value.int .i64 0, Value.int .i64 0, Value.int .i64 0, Value.int .i64 0, Value.int .i64 0] := rfl
theorem built_24 (s c x0 x1 x2 x3 x4 x5 x6 x7 x8 x9 x10 x11 x12 x13 x14 x15 x16 x17 x18 x19 x20 x21 x22 x23 : Int) : Tryd.prog.built 30 [(0, .int .i64 s), (1, .int .i64 c), (2, .agg (rowA [x0, x1, x2, x3, x4, x5, x6, x7, x8, x9, x10, x11, x12, x13, x14, x15, x16, x17, x18, x19, x20, x21, x22, x23]))] = some (tabA s c [x0, x1, x2, x3, x4, x5, x6, x7, x8, x9, x10, x11, x12, x13, x14, x15, x16, x17, x18, x19, x20, x21, x22, x23]) := by kernel_rfl
theorem built_tab (s c : Int) (l : List Int) (hl : l.length = 24) : Tryd.prog.built 30 [(0, .int .i64 s), (1, .int .i64 c), (2, .agg (rowA l))] = some (tabA s c l) := by
  match l, hl with
  | [x0, x1, x2, x3, x4, x5, x6, x7, x8, x9, x10, x11, x12, x13, x14, x15, x16, x17, x18, x19, x20, x21, x22, x23], _ => exact built_24 ..

theorem size_rtabA (s c : Int) (l : List Int) (hl : l.length = 24) : (Tryd.prog.info? 30).map (·.size) = some (tabA s c l).size := by
  have e : (Tryd.prog.info? 30).map (·.size) = some 26 := by kernel_rfl
  rw [tabA_size, hl]
  exact e
theorem size_rtab (s c : Int) (l : List Int) (hl : l.length = 24) : (Tryd.prog.info? 30).map (·.size) = some (tabL s c l).length := by
  have e : (Tryd.prog.info? 30).map (·.size) = some 26 := by kernel_rfl
  rw [show (tabL s c l).length = 26 from by simp [tabL, hl]]
  exact e
theorem size_rowL (l : List Int) (hl : l.length = 24) : (Tryd.prog.info? 22).map (·.size) = some (l.map (Value.int .i64)).length := by
  have e : (Tryd.prog.info? 22).map (·.size) = some 24 := by kernel_rfl
  rw [List.length_map, hl]
  exact e

set_option maxHeartbeats 1000000 in
set_option maxRecDepth 100000 in
theorem from_any (s c : Int) (l : List Int) (hl : l.length = 24) (w : World) :
    Calls Tryd.prog 8 #[.agg (tabA s c l)] w fun e w' => e = .returned (.agg (tabA s c l)) ∧ Below w.heap.size w w' := by
  have HL := Lib.hid hl
  have HT := Lib.hid (TabAt.box w s c l 24)
  have HB := Lib.hid (built_tab s c l hl)
  clear hl
  have hT1 := HT.out.call ((Below.refl _ _).alloc (Nat.le_refl _) (.cells (tabA 0 0 zeroL) 30))
  have HT1 := Lib.hid hT1
  clear hT1
  have HH0 : Hid (((w.alloc (.cells (tabA s c l) 24)).alloc (.cells (tabA 0 0 zeroL) 30)).heap[w.heap.size + 1]? = some (.cells (tabA 0 0 zeroL) 30 (0, 0))) := heap_alloc2_new _ _ _
  go_enter Tryd.func8, Tryd.ntmps8
  go_upto_region 1 with (fail)
  rw [zeros26] at HT1 HH0
  generalize World.alloc (World.alloc w _) _ = w2 at HT1 HH0 ⊢
  have hc0 := HT1.out.1
  have hc1 := HT1.out.2.1
  have HS := Lib.hid (size_rowL l HL.out)
  have HS2 := Lib.hid (size_rtabA s c l HL.out)
  have HBE : Hid (Below w.heap.size w (w2.setRow (w.heap.size + 1) (tabA s c l))) :=
    HT1.out.below.trans ⟨rfl, rfl, rfl, by simp, fun k hk => setRow_other _ _ _ _ (by omega)⟩
  have HR : Hid ((w2.setRow (w.heap.size + 1) (tabA s c l)).heap[w.heap.size + 1]? = some (.cells (tabA s c l) 30 (0, 0))) := setRow_heap _ _ _ _ _ _ HH0.out
  have HSZ : Hid ((#[Value.int .i64 0, Value.int .i64 0, Value.int .i64 0, Value.int .i64 0, Value.int .i64 0, Value.int .i64 0, Value.int .i64 0, Value.int .i64 0, Value.int .i64 0, Value.int .i64 0, Value.int .i64 0, Value.int .i64 0, Value.int .i64 0, Value.int .i64 0, Value.int .i64 0, Value.int .i64 0, Value.int .i64 0, Value.int .i64 0, Value.int .i64 0, Value.int .i64 0, Value.int .i64 0, Value.int .i64 0, Value.int .i64 0, Value.int .i64 0, Value.int .i64 0, Value.int .i64 0] : Array Value).size = (tabA s c l).size) := by rw [tabA_size, HL.out]; rfl
  go_wp2_with (first
    | (refine wpList_load_mid rfl 22 (Operand.tmp 7) rfl w.heap.size 2 rfl (l.map (Value.int .i64)) _ HT1.out.2.2.1 Tryd.underlying22 rfl HS.out ?_)
    | (refine wpList_plain rfl (fun K hK => ?_)
       refine wp_build_at 30 #[(0, Operand.tmp 4), (1, Operand.tmp 6), (2, Operand.tmp 8)] rfl (tabA s c l) ?hb ?_
       go_must (case hb => simp [Act.eval]; exact HB.out)
       refine hK _ _ ?_
       clear hK K)
    | (refine wpList_store_row rfl 30 (Operand.tmp 2) (Operand.tmp 9) rfl (w.heap.size + 1) (tabA s c l) rfl rfl 30 _ HH0.out HS2.out HSZ.out (tabA_one _ _ _) ?_))
  exact bodyPost_ret (v := .agg (tabA s c l)) (results_cell_row rfl _ _ (w.heap.size + 1) 30 _ (0, 0) _ rfl HR.out Tryd.underlying30 rfl HS2.out) rfl ⟨rfl, HBE.out⟩

/-! Check -/
/-- What Check answers where Section and Copy are in their ranges. -/
def chkE (l : List Int) : Int := if goodL l = true then 0 else 34
theorem chkE_bad {l : List Int} (k : Nat) (hk : k < l.length) (h : ¬ (1 ≤ l.getD k 0 ∧ l.getD k 0 ≤ 1000)) : chkE l = 34 := by
  unfold chkE
  rw [if_neg]
  intro hg
  simp only [goodL, List.all_eq_true, Bool.and_eq_true, decide_eq_true_eq] at hg
  exact h (by have := hg l[k] (List.getElem_mem _); simpa [List.getD, List.getElem?_eq_getElem hk] using this)
theorem chkE_good {l : List Int} (h : ∀ k, k < l.length → 1 ≤ l.getD k 0 ∧ l.getD k 0 ≤ 1000) : chkE l = 0 := by
  unfold chkE
  rw [if_pos]
  simp only [goodL, List.all_eq_true, Bool.and_eq_true, decide_eq_true_eq]
  intro x hx
  obtain ⟨k, hk, rfl⟩ := List.mem_iff_getElem.1 hx
  have := h k hk
  simpa [List.getD, List.getElem?_eq_getElem hk] using this

set_option maxHeartbeats 1000000 in
set_option maxRecDepth 100000 in
theorem refcheck_in (s c : Int) (l : List Int) (hl : l.length = 24) (w : World) (h1 : 1 ≤ s) (h2 : s ≤ 1000) (h3 : 0 ≤ c) (h4 : c ≤ 100) :
    Calls Tryd.prog 22 #[.agg (tabA s c l)] w fun e w' => e = .returned (.int .i64 (chkE l)) ∧ Below w.heap.size w w' := by
  have HL := Lib.hid hl
  have hT := TabAt.box w s c l 30
  have hc0 := hT.1
  have hc1 := hT.2.1
  have HT := Lib.hid hT
  have d1 : decide (s < 1) = false := by simp; omega
  have d2 : decide (1000 < s) = false := by simp; omega
  have d3 : decide (c < 0) = false := by simp; omega
  have d4 : decide (100 < c) = false := by simp; omega
  clear hl hT
  go_enter Tryd.func22, Tryd.ntmps22
  go_wp2
  clear hc0 hc1
  generalize hW : w.alloc (Obj.cells (tabA s c l) 30) = w1 at HT ⊢
  clear hW
  go_loop [3] (fun i => ∃ k : Nat, k ≤ 24 ∧ i = .int .i64 k ∧ Hid (∀ j, j < k → 1 ≤ l.getD j 0 ∧ l.getD j 0 ≤ 1000)) (fun i => 24 - (intOf i).toNat)
  case atStart => exact ⟨0, by omega, rfl, fun j hj => absurd hj (by omega)⟩
  case round =>
    obtain ⟨k, hk, rfl, HK⟩ := hrel
    by_cases hlt : k < 24
    · have hcell := HT.out.cell k (by rw [HL.out]; exact hlt)
      by_cases hg : 1 ≤ l.getD k 0 ∧ l.getD k 0 ≤ 1000
      · have HV : Hid (∀ j, j < k + 1 → 1 ≤ l.getD j 0 ∧ l.getD j 0 ≤ 1000) := fun j hj => by
          by_cases e : j = k
          · rw [e]; exact hg
          · exact HK.out j (by omega)
        obtain ⟨g1, g2⟩ := hg
        generalize l.getD k 0 = x at hcell g1 g2
        have e1 : decide (x < 1) = false := by simp; omega
        have e2 : decide (1000 < x) = false := by simp; omega
        go_wp2
        go_round
        case rel => exact ⟨k + 1, by omega, by go_num, HV⟩
        case measure => simp [intOf]; omega
      · have HV : Hid (chkE l = 34) := chkE_bad k (by rw [HL.out]; exact hlt) hg
        generalize l.getD k 0 = x at hcell hg
        by_cases b1 : x < 1
        · clear hg
          go_wp2
          go_ret
          exact ⟨ret_int HV.out.symm, HT.out.below⟩
        · have b2 : 1000 < x := by omega
          have e1 : decide (x < 1) = false := by simp; omega
          clear hg b1
          go_wp2
          go_ret
          exact ⟨ret_int HV.out.symm, HT.out.below⟩
    · obtain rfl : k = 24 := by omega
      have HV : Hid (chkE l = 0) := chkE_good (fun j hj => HK.out j (by rw [← HL.out]; exact hj))
      go_wp2
      go_ret
      exact ⟨ret_int HV.out.symm, HT.out.below⟩

set_option maxHeartbeats 1000000 in
set_option maxRecDepth 100000 in
theorem refcheck_out (s c : Int) (l : List Int) (hl : l.length = 24) (w : World) (h : ¬ (1 ≤ s ∧ s ≤ 1000 ∧ 0 ≤ c ∧ c ≤ 100)) :
    Calls Tryd.prog 22 #[.agg (tabA s c l)] w fun e w' => e = .returned (.int .i64 34) ∧ Below w.heap.size w w' := by
  have hT := TabAt.box w s c l 30
  have hc0 := hT.1
  have hc1 := hT.2.1
  have HT := Lib.hid hT
  clear hl hT
  by_cases b1 : s < 1
  · clear h
    go_enter Tryd.func22, Tryd.ntmps22
    go_wp2
    go_ret
    exact ⟨rfl, HT.out.below⟩
  · have d1 : decide (s < 1) = false := by simp; omega
    by_cases b2 : 1000 < s
    · clear h b1
      go_enter Tryd.func22, Tryd.ntmps22
      go_wp2
      go_ret
      exact ⟨rfl, HT.out.below⟩
    · have d2 : decide (1000 < s) = false := by simp; omega
      by_cases b3 : c < 0
      · clear h b1 b2
        go_enter Tryd.func22, Tryd.ntmps22
        go_wp2
        go_ret
        exact ⟨rfl, HT.out.below⟩
      · have d3 : decide (c < 0) = false := by simp; omega
        have b4 : 100 < c := by omega
        clear h b1 b2 b3
        go_enter Tryd.func22, Tryd.ntmps22
        go_wp2
        go_ret
        exact ⟨rfl, HT.out.below⟩

theorem refcheck_ok (s c : Int) (l : List Int) (hl : l.length = 24) (w : World) (h : okT s c l) :
    Calls Tryd.prog 22 #[.agg (tabA s c l)] w fun e w' => e = .returned (.int .i64 0) ∧ Below w.heap.size w w' := by
  have := refcheck_in s c l hl w h.1 h.2.1 h.2.2.1 h.2.2.2.1
  rwa [show chkE l = 0 from by rw [chkE, if_pos h.2.2.2.2]] at this
theorem refcheck_no (s c : Int) (l : List Int) (hl : l.length = 24) (w : World) (h : ¬ okT s c l) :
    Calls Tryd.prog 22 #[.agg (tabA s c l)] w fun e w' => e = .returned (.int .i64 34) ∧ Below w.heap.size w w' := by
  by_cases h1 : 1 ≤ s ∧ s ≤ 1000 ∧ 0 ≤ c ∧ c ≤ 100
  · have := refcheck_in s c l hl w h1.1 h1.2.1 h1.2.2.1 h1.2.2.2
    rwa [show chkE l = 34 from by rw [chkE, if_neg (fun hg => h ⟨h1.1, h1.2.1, h1.2.2.1, h1.2.2.2, hg⟩)]] at this
  · exact refcheck_out s c l hl w h1
end Go.Proofs.YtnnmmkimdknbgaaDoor
