/- The contract of costs.Check. -/
import Derived.Test.YtnnmmkimdknbgaaDoorCa
import Derived.Test.YtnnmmkimdknbgaaDoorCb
import Derived.BigQuiet
import Derived.Lib.QuietBelow
namespace Go.Proofs.YtnnmmkimdknbgaaDoor
open Go.RowKit
set_option linter.unusedVariables false

theorem bcell {W w1 : World} (hb : Below W.heap.size W w1) : (∀ b o, b < W.heap.size → w1.cell? ⟨b, o, none⟩ = W.cell? ⟨b, o, none⟩) ∧ (∀ b o, b < W.heap.size → w1.frozen? ⟨b, o, none⟩ = W.frozen? ⟨b, o, none⟩) :=
  ⟨fun b o h => hb.cell (p := ⟨b, o, none⟩) h, fun b o h => hb.frozen (p := ⟨b, o, none⟩) h⟩

/-- Below, behind a call that writes nothing that was there. -/
theorem below_call {w0 w1 w2 : World} (h : Below w0.heap.size w0 w1) (h2 : Below w1.heap.size w1 w2) : Below w0.heap.size w0 w2 := h.trans (h2.mono h.size)
theorem below_drewN {B : Nat} {a w : World} (h : Below B a w) : ∀ n, Below B a (w.drewN n) := fun n => h.trans ⟨rfl, rfl, rfl, Nat.le_refl _, fun _ _ => rfl⟩

/-- What the walks carry: a table's block lies at g, and nothing below the call's first block has turned. -/
def TabAt (w0 : World) (g : Nat) (s c : Int) (l : List Int) (w : World) : Prop :=
  w.cell? ⟨g, 0, none⟩ = some (.int .i64 s) ∧ w.cell? ⟨g, 1, none⟩ = some (.int .i64 c) ∧ w.rangeAt g 2 (l.map (Value.int .i64)) ∧ Below w0.heap.size w0 w ∧ g < w.heap.size
theorem TabAt.drew {w0 : World} {g : Nat} {s c : Int} {l : List Int} {w : World} (h : TabAt w0 g s c l w) : TabAt w0 g s c l w.drew :=
  ⟨by simpa using h.1, by simpa using h.2.1, by simpa using h.2.2.1, h.2.2.2.1.drew, h.2.2.2.2⟩
theorem TabAt.call {w0 : World} {g : Nat} {s c : Int} {l : List Int} {w w2 : World} (h : TabAt w0 g s c l w) (h2 : Below w.heap.size w w2) : TabAt w0 g s c l w2 :=
  ⟨by rw [h2.cell (p := ⟨g, 0, none⟩) h.2.2.2.2]; exact h.1, by rw [h2.cell (p := ⟨g, 1, none⟩) h.2.2.2.2]; exact h.2.1,
   fun j v hv => by rw [h2.cell (p := ⟨g, 2 + j, none⟩) h.2.2.2.2]; exact h.2.2.1 j v hv, below_call h.2.2.2.1 h2, Nat.lt_of_lt_of_le h.2.2.2.2 h2.size⟩
theorem TabAt.box (w : World) (s c : Int) (l : List Int) (t : TypeId) : TabAt w w.heap.size s c l (w.alloc (.cells (tabA s c l) t)) :=
  ⟨tab_cell0 (heap_alloc_new w _), tab_cell1 (heap_alloc_new w _), tab_range (heap_alloc_new w _), (Below.refl _ _).alloc (Nat.le_refl _) _, by show w.heap.size < (w.heap.push _).size; simp⟩

/-- A whole array read out of the middle of a block, in a region walked in the order of its text. -/
theorem quiet_load_mid {P : Program} {C : World → Prop} {o : Oper} {a : Act} {K : Act → Prop} (ty : TypeId) (x : Operand) (ho : o.op = .load ty x)
    (b off : Nat) (hx : a.eval x = .pointer (some ⟨b, off, none⟩)) (cs : List Value) (d : TypeDesc) (hS : ∀ w, C w → w.rangeAt b off cs)
    (hu : P.underlying ty = some d) (hd : d.isRow = true) (hi : (P.info? ty).map (·.size) = some cs.length) (hk : K (a.put o.dst (.agg cs.toArray))) : o.quiet P a C K :=
  ⟨_, fun w hw => by
    unfold Oper.quietAt execOp
    simp only [ho, hx, Instr.loadAt, Instr.sureAddr, Sem.run_bind, Sem.run_pure, Result.andThen_ok, run_loadVar_mid w b off ty cs d (hS w hw) hu hd hi]
    exact ⟨rfl, rfl⟩, hk⟩

set_option maxHeartbeats 1000000 in
set_option maxRecDepth 100000 in
theorem check_ok (s c : Int) (l : List Int) (hl : l.length = 24) (w : World) (h : okT s c l) :
    Calls Tryd.prog 15 #[.agg (tabA s c l)] w fun e w' => e = .returned (.int .i64 0) ∧ Below w.heap.size w w' := by
  have HL := Lib.hid hl
  have HSZ : Hid ((Tryd.prog.info? 22).map (·.size) = some (l.map (Value.int .i64)).length) := by
    have e : (Tryd.prog.info? 22).map (·.size) = some 24 := by kernel_rfl
    rw [List.length_map, hl]
    exact e
  have hun : Tryd.prog.underlying 22 = some (.array 24 2) := Tryd.underlying22
  clear hl
  have HM := Lib.hid (map_cl l)
  obtain ⟨h1, h2, h3, h4, h5⟩ := h
  have H5 := Lib.hid h5
  clear h5
  have HT := Lib.hid (TabAt.box w s c l 24)
  have W1 := win_yes h1 h2
  have W2 := win_yes h3 h4
  go_enter Tryd.func15, Tryd.ntmps15
  go_wp2
  have hsz := HSZ.out
  have hgt := HT.out
  generalize w.alloc (Obj.cells (tabA s c l) 24) = w1 at hgt ⊢
  clear HT
  have HNE : ∀ v : World, (binOp .neq 22 (.agg (l.map (Value.int .i64)).toArray) (.agg (rowA (l.map cl)))).run Tryd.prog v = .ok (.bool false) v := fun v => by
    obtain ⟨i, hi⟩ := info_of_underlying (P := Tryd.prog) Tryd.underlying2
    rw [show (l.map (Value.int .i64)).toArray = rowA l from rfl, run_neq_ints v 22 2 24 i Tryd.underlying22 hi (by kernel_rfl) Tryd.underlying2 l (l.map cl) HL.out (by rw [List.length_map, HL.out]), HM.out, H5.out]
    rfl
  have hc0 := fun d os => cell_regrown hgt.1 d os
  have hc1 := fun d os => cell_regrown hgt.2.1 d os
  have HSZ : Hid ((Tryd.prog.info? 22).map (·.size) = some (l.map (Value.int .i64)).length) := hsz
  have HRG : Hid (∀ v, (∃ p : Regrown, v = Sort.grow (redrawn w1 p.d) p.os) → v.rangeAt w.heap.size 2 (l.map (Value.int .i64))) := fun v ⟨p, hp⟩ j x hx => by rw [hp]; exact cell_regrown (hgt.2.2.1 j x hx) _ _
  clear hsz hun
  have HGT := Lib.hid hgt
  clear hgt
  refine wp_region_quiet_below (by kernel_rfl) (by kernel_rfl) ?_
  repeat (first
    | (refine BigFrame.wpQuiet_want rfl (fun K hK => ?_)
       refine quiet_load_mid 22 _ rfl w.heap.size 2 rfl (l.map (Value.int .i64)) _ HRG.out Tryd.underlying22 rfl HSZ.out ?_
       refine hK _ ?_
       clear hK K)
    | go_big_quiet_skip
    | quiet_step (first
      | (go_at_call 33; exact Calls.regrown_of ((within_any _ _ _ _).mono fun _ _ ⟨a, b⟩ => ⟨a, b ▸ Below.refl _ _⟩))
      | (go_at_call 34; exact Calls.regrown_of (clamped_any l HL.out _))))
  refine wpQuiet_nil ?_
  intro _ hw'
  obtain ⟨⟨dq, osq⟩, hw''⟩ := hw'
  subst hw''
  have HB : Hid (Below w.heap.size w (Sort.grow (redrawn w1 dq) osq)) := below_call HGT.out.2.2.2.1 (below_regrown _ _ _)
  go_wp2
  go_ret
  exact ⟨rfl, HB.out⟩
set_option maxHeartbeats 1000000 in
set_option maxRecDepth 100000 in
theorem check_no_s (s c : Int) (l : List Int) (hl : l.length = 24) (w : World) (h : ¬ (1 ≤ s ∧ s ≤ 1000)) :
    Calls Tryd.prog 15 #[.agg (tabA s c l)] w fun e w' => e = .returned (.int .i64 34) ∧ Below w.heap.size w w' := by
  have HL := Lib.hid hl
  have HSZ : Hid ((Tryd.prog.info? 22).map (·.size) = some (l.map (Value.int .i64)).length) := by
    have e : (Tryd.prog.info? 22).map (·.size) = some 24 := by kernel_rfl
    rw [List.length_map, hl]
    exact e
  have hun : Tryd.prog.underlying 22 = some (.array 24 2) := Tryd.underlying22
  clear hl
  have HH := Lib.hid h
  clear h
  have HT := Lib.hid (TabAt.box w s c l 24)
  have W1 := win_no HH.out
  go_enter Tryd.func15, Tryd.ntmps15
  go_wp2
  have hsz := HSZ.out
  have hgt := HT.out
  generalize w.alloc (Obj.cells (tabA s c l) 24) = w1 at hgt ⊢
  clear HT
  have hc0 := fun d os => cell_regrown hgt.1 d os
  have hc1 := fun d os => cell_regrown hgt.2.1 d os
  clear hsz hun
  have HGT := Lib.hid hgt
  clear hgt
  refine wp_region_quiet_below (by kernel_rfl) (by kernel_rfl) ?_
  repeat (first
    | go_big_quiet_skip
    | quiet_step (first
      | (go_at_call 33; exact Calls.regrown_of ((within_any _ _ _ _).mono fun _ _ ⟨a, b⟩ => ⟨a, b ▸ Below.refl _ _⟩))))
  refine wpQuiet_nil ?_
  intro _ hw'
  obtain ⟨⟨dq, osq⟩, hw''⟩ := hw'
  subst hw''
  have HB : Hid (Below w.heap.size w (Sort.grow (redrawn w1 dq) osq)) := below_call HGT.out.2.2.2.1 (below_regrown _ _ _)
  go_wp2
  go_ret
  exact ⟨rfl, HB.out⟩
set_option maxHeartbeats 1000000 in
set_option maxRecDepth 100000 in
theorem check_no_c (s c : Int) (l : List Int) (hl : l.length = 24) (w : World) (h1 : 1 ≤ s) (h2 : s ≤ 1000) (h : ¬ (0 ≤ c ∧ c ≤ 100)) :
    Calls Tryd.prog 15 #[.agg (tabA s c l)] w fun e w' => e = .returned (.int .i64 34) ∧ Below w.heap.size w w' := by
  have HL := Lib.hid hl
  have HSZ : Hid ((Tryd.prog.info? 22).map (·.size) = some (l.map (Value.int .i64)).length) := by
    have e : (Tryd.prog.info? 22).map (·.size) = some 24 := by kernel_rfl
    rw [List.length_map, hl]
    exact e
  have hun : Tryd.prog.underlying 22 = some (.array 24 2) := Tryd.underlying22
  clear hl
  have HH := Lib.hid h
  clear h
  have HT := Lib.hid (TabAt.box w s c l 24)
  have W1 := win_yes h1 h2
  have W2 := win_no HH.out
  go_enter Tryd.func15, Tryd.ntmps15
  go_wp2
  have hsz := HSZ.out
  have hgt := HT.out
  generalize w.alloc (Obj.cells (tabA s c l) 24) = w1 at hgt ⊢
  clear HT
  have hc0 := fun d os => cell_regrown hgt.1 d os
  have hc1 := fun d os => cell_regrown hgt.2.1 d os
  clear hsz hun
  have HGT := Lib.hid hgt
  clear hgt
  refine wp_region_quiet_below (by kernel_rfl) (by kernel_rfl) ?_
  repeat (first
    | go_big_quiet_skip
    | quiet_step (first
      | (go_at_call 33; exact Calls.regrown_of ((within_any _ _ _ _).mono fun _ _ ⟨a, b⟩ => ⟨a, b ▸ Below.refl _ _⟩))))
  refine wpQuiet_nil ?_
  intro _ hw'
  obtain ⟨⟨dq, osq⟩, hw''⟩ := hw'
  subst hw''
  have HB : Hid (Below w.heap.size w (Sort.grow (redrawn w1 dq) osq)) := below_call HGT.out.2.2.2.1 (below_regrown _ _ _)
  go_wp2
  go_ret
  exact ⟨rfl, HB.out⟩
set_option maxHeartbeats 1000000 in
set_option maxRecDepth 100000 in
theorem check_no_l (s c : Int) (l : List Int) (hl : l.length = 24) (w : World) (h1 : 1 ≤ s) (h2 : s ≤ 1000) (h3 : 0 ≤ c) (h4 : c ≤ 100) (h5 : goodL l = false) :
    Calls Tryd.prog 15 #[.agg (tabA s c l)] w fun e w' => e = .returned (.int .i64 34) ∧ Below w.heap.size w w' := by
  have HL := Lib.hid hl
  have HSZ : Hid ((Tryd.prog.info? 22).map (·.size) = some (l.map (Value.int .i64)).length) := by
    have e : (Tryd.prog.info? 22).map (·.size) = some 24 := by kernel_rfl
    rw [List.length_map, hl]
    exact e
  have hun : Tryd.prog.underlying 22 = some (.array 24 2) := Tryd.underlying22
  clear hl
  have HM := Lib.hid (map_cl l)
  have H5 := Lib.hid h5
  clear h5
  have HT := Lib.hid (TabAt.box w s c l 24)
  have W1 := win_yes h1 h2
  have W2 := win_yes h3 h4
  go_enter Tryd.func15, Tryd.ntmps15
  go_wp2
  have hsz := HSZ.out
  have hgt := HT.out
  generalize w.alloc (Obj.cells (tabA s c l) 24) = w1 at hgt ⊢
  clear HT
  have HNE : ∀ v : World, (binOp .neq 22 (.agg (l.map (Value.int .i64)).toArray) (.agg (rowA (l.map cl)))).run Tryd.prog v = .ok (.bool true) v := fun v => by
    obtain ⟨i, hi⟩ := info_of_underlying (P := Tryd.prog) Tryd.underlying2
    rw [show (l.map (Value.int .i64)).toArray = rowA l from rfl, run_neq_ints v 22 2 24 i Tryd.underlying22 hi (by kernel_rfl) Tryd.underlying2 l (l.map cl) HL.out (by rw [List.length_map, HL.out]), HM.out, H5.out]
    rfl
  have hc0 := fun d os => cell_regrown hgt.1 d os
  have hc1 := fun d os => cell_regrown hgt.2.1 d os
  have HSZ : Hid ((Tryd.prog.info? 22).map (·.size) = some (l.map (Value.int .i64)).length) := hsz
  have HRG : Hid (∀ v, (∃ p : Regrown, v = Sort.grow (redrawn w1 p.d) p.os) → v.rangeAt w.heap.size 2 (l.map (Value.int .i64))) := fun v ⟨p, hp⟩ j x hx => by rw [hp]; exact cell_regrown (hgt.2.2.1 j x hx) _ _
  clear hsz hun
  have HGT := Lib.hid hgt
  clear hgt
  refine wp_region_quiet_below (by kernel_rfl) (by kernel_rfl) ?_
  repeat (first
    | (refine BigFrame.wpQuiet_want rfl (fun K hK => ?_)
       refine quiet_load_mid 22 _ rfl w.heap.size 2 rfl (l.map (Value.int .i64)) _ HRG.out Tryd.underlying22 rfl HSZ.out ?_
       refine hK _ ?_
       clear hK K)
    | go_big_quiet_skip
    | quiet_step (first
      | (go_at_call 33; exact Calls.regrown_of ((within_any _ _ _ _).mono fun _ _ ⟨a, b⟩ => ⟨a, b ▸ Below.refl _ _⟩))
      | (go_at_call 34; exact Calls.regrown_of (clamped_any l HL.out _))))
  refine wpQuiet_nil ?_
  intro _ hw'
  obtain ⟨⟨dq, osq⟩, hw''⟩ := hw'
  subst hw''
  have HB : Hid (Below w.heap.size w (Sort.grow (redrawn w1 dq) osq)) := below_call HGT.out.2.2.2.1 (below_regrown _ _ _)
  go_wp2
  go_ret
  exact ⟨rfl, HB.out⟩
theorem check_no (s c : Int) (l : List Int) (hl : l.length = 24) (w : World) (h : ¬ okT s c l) :
    Calls Tryd.prog 15 #[.agg (tabA s c l)] w fun e w' => e = .returned (.int .i64 34) ∧ Below w.heap.size w w' := by
  by_cases h1 : 1 ≤ s ∧ s ≤ 1000
  · by_cases h2 : 0 ≤ c ∧ c ≤ 100
    · exact check_no_l s c l hl w h1.1 h1.2 h2.1 h2.2 (by
        by_cases h3 : goodL l = true
        · exact absurd ⟨h1.1, h1.2, h2.1, h2.2, h3⟩ h
        · simpa using h3)
    · exact check_no_c s c l hl w h1.1 h1.2 h2
  · exact check_no_s s c l hl w h1
end Go.Proofs.YtnnmmkimdknbgaaDoor
