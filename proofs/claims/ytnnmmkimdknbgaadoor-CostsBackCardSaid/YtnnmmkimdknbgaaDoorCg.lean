/- The contract of awake: the examples of the chapter. -/
import Derived.Test.YtnnmmkimdknbgaaDoorCf
namespace Go.Proofs.YtnnmmkimdknbgaaDoor
open Go.RowKit
set_option linter.unusedVariables false

/-- A load of a whole struct or array at a guarded operation that is wanted. -/
theorem wpList_load_mid_g {P : Program} {ops : Array Oper} {rest : List Oper} {op : Oper} {a : Act} {w : World} {Q : Exit → Act → World → Prop} (hgd : Region.wanted op (yielded ops a.tmps) = true) (ty : TypeId) (x : Operand) (ho : op.op = .load ty x)
    (b o : Nat) (hx : a.eval x = .pointer (some ⟨b, o, none⟩)) (cs : List Value) (d : TypeDesc) (hc : w.rangeAt b o cs)
    (hu : P.underlying ty = some d) (hd : d.isRow = true) (hi : (P.info? ty).map (·.size) = some cs.length)
    (h : wpList P ops Q rest (a.put op.dst (.agg cs.toArray)) w) : wpList P ops Q (op :: rest) a w := by
  rw [wpList, if_pos hgd]
  exact .inl (wp_load_mid ty x ho b o hx cs d hc hu hd hi h)

theorem okT_def : okT 4 1 defL := ⟨by decide, by decide, by decide, by decide, by decide⟩
theorem okN_def : okN 4 1 defL 10 := ⟨okT_def, by decide, by decide⟩
theorem secs_def : secs 4 10 = [4, 4, 2] := by decide
theorem owns3 {w : World} {B : Nat} {e : TypeId} {v a b c : Value} (h : w.ownsRow B e 1 v 3 [a, b, c]) : ∃ g cap, v = .slice (some ⟨g, 0, none⟩) 3 cap ∧ w.cell? ⟨g, 2, none⟩ = some c ∧ g < w.heap.size := by
  rcases h.2 with ⟨_, h2⟩ | ⟨g, cap, cur, rfl, _⟩
  · cases h2
  · exact ⟨g, cap, rfl, by rw [h.cellAt 2 (by decide)]; rfl, (h.lt g rfl).2⟩

theorem cost_def (w : World) : Calls Tryd.prog 12 #[.agg (tabA 4 1 defL), .int .i64 0, .int .i64 17] w fun e w' => e = .returned (.tuple #[.int .i64 5, .int .i64 0]) ∧ Below w.heap.size w w' := by
  have h := cost_ok 4 1 defL rfl 0 17 w okT_def (by decide) (by decide) (by decide) (by decide)
  rw [show defL.getD (0 : Int).toNat 0 + cpy 1 17 = 5 from by decide] at h
  exact h
theorem pre_yes (w : World) : Calls Tryd.prog 14 #[.agg (tabA 4 1 defL), .int .i64 10, .int .i64 8] w fun e w' => e = .returned (.bool true) ∧ Below w.heap.size w w' := by
  have h := pre_in 4 1 defL rfl 10 8 w okN_def (by decide) (by decide)
  rw [show ((8 : Int) % 4 == 0) = true from by decide] at h
  exact h
theorem pre_not (w : World) : Calls Tryd.prog 14 #[.agg (tabA 4 1 defL), .int .i64 10, .int .i64 10] w fun e w' => e = .returned (.bool false) ∧ Below w.heap.size w w' :=
  pre_end 4 1 defL rfl 10 w okN_def
def preD (d : Int) : Bool := decide (d = 8)
theorem pre_any (d : Int) (w : World) (h : d = 8 ∨ d = 10) : Calls Tryd.prog 14 #[.agg (tabA 4 1 defL), .int .i64 10, .int .i64 d] w fun e w' => e = .returned (.bool (preD d)) ∧ Below w.heap.size w w' := by
  rcases h with rfl | rfl
  · exact pre_yes w
  · exact pre_not w
def Sec3 (w : World) (e : Ending) (w' : World) : Prop := ∃ g cap, e = .returned (.tuple #[.slice (some ⟨g, 0, none⟩) 3 cap, .int .i64 0]) ∧ w'.cell? ⟨g, 2, none⟩ = some (.int .i64 2) ∧ g < w'.heap.size ∧ Below w.heap.size w w'
theorem sec_def (w : World) : Calls Tryd.prog 13 #[.agg (tabA 4 1 defL), .int .i64 10] w (Sec3 w) := by
  refine (sections_ok 4 1 defL rfl 10 w okN_def).mono ?_
  rintro e w' ⟨v, rfl, hown, hb⟩
  rw [secs_def] at hown
  obtain ⟨g, cap, rfl, hc, hg⟩ := owns3 hown
  exact ⟨g, cap, rfl, hc, hg, hb⟩
theorem TabAt.made {w w1 : World} {s c : Int} {l : List Int} (hb : Below w.heap.size w w1) (cs : Array Value) (t : TypeId) : TabAt w w1.heap.size s c l ((w1.alloc (.cells cs t)).setRow w1.heap.size (tabA s c l)) := by
  have h := setRow_heap (w1.alloc (.cells cs t)) w1.heap.size cs (tabA s c l) t (0, 0) (heap_alloc_new w1 _)
  exact ⟨tab_cell0 h, tab_cell1 h, tab_range h, (hb.alloc hb.size _).trans ⟨rfl, rfl, rfl, by simp, fun k hk => setRow_other _ _ _ _ (by have := hb.size; omega)⟩, by simp⟩

set_option maxHeartbeats 1000000 in
set_option maxRecDepth 100000 in
theorem awake_any (w : World) : Calls Tryd.prog 5 #[] w fun e w' => e = .returned (.bool true) ∧ Below w.heap.size w w' := by
  have HS := Lib.hid (size_tab 4 1 defL rfl)
  go_enter Tryd.func5, Tryd.ntmps5
  go_upto_region 2 with (first
    | (go_at_call 11; refine (default_any _).mono ?_; rintro e w1 ⟨rfl, hb1⟩)
    | (refine wpList_store_row rfl 24 (Operand.tmp 1) (Operand.tmp 6) rfl w1.heap.size (tabA 4 1 defL) rfl rfl 24 (tabA 0 0 zeroL) (heap_alloc_new _ _) (size_tabA _ _ _ rfl) rfl (tabA_one _ _ _) ?_))
  have HA := Lib.hid (TabAt.made (s := 4) (c := 1) (l := defL) hb1 (tabA 0 0 zeroL) 24)
  rw [show (tabA 0 0 zeroL) = #[Value.int .i64 0, Value.int .i64 0, Value.int .i64 0, Value.int .i64 0, Value.int .i64 0, Value.int .i64 0, Value.int .i64 0, Value.int .i64 0, Value.int .i64 0, Value.int .i64 0, Value.int .i64 0, Value.int .i64 0, Value.int .i64 0, Value.int .i64 0, Value.int .i64 0, Value.int .i64 0, Value.int .i64 0, Value.int .i64 0, Value.int .i64 0, Value.int .i64 0, Value.int .i64 0, Value.int .i64 0, Value.int .i64 0, Value.int .i64 0, Value.int .i64 0, Value.int .i64 0] from rfl] at HA
  generalize World.setRow (World.alloc w1 _) w1.heap.size (tabA 4 1 defL) = wA at HA ⊢
  simp only [Act.put]
  go_upto_region 3 with (first
    | (refine wpList_load_mid rfl 24 (Operand.tmp 1) rfl w1.heap.size 0 rfl (tabL 4 1 defL) _ HA.out.whole Tryd.underlying24 rfl HS.out ?_)
    | (go_at_call 12; refine (cost_def _).mono ?_; rintro e w2 ⟨rfl, hb2⟩))
  have HA2 := Lib.hid (HA.out.call hb2)
  clear hb2
  go_upto_region 4 with (first
    | (refine wpList_load_mid rfl 24 (Operand.tmp 1) rfl w1.heap.size 0 rfl (tabL 4 1 defL) _ HA2.out.whole Tryd.underlying24 rfl HS.out ?_)
    | (go_at_call 13; refine (sec_def _).mono ?_; rintro e w3 ⟨g, cap, rfl, hc, hg, hb3⟩))
  have HA3 := Lib.hid (HA2.out.call hb3)
  clear hb3
  have p8 : preD 8 = true := by decide
  have p10 : preD 10 = false := by decide
  go_wp2_with (first
    | (refine wpList_load_mid_g rfl 24 (Operand.tmp 1) rfl w1.heap.size 0 rfl (tabL 4 1 defL) _ HA3.out.whole Tryd.underlying24 rfl HS.out ?_)
    | (go_at_call 14; refine (pre_any _ _ (by omega)).mono ?_; rintro e w4 ⟨rfl, hb4⟩)
    | (refine wpList_load_mid_g rfl 24 (Operand.tmp 1) rfl w1.heap.size 0 rfl (tabL 4 1 defL) _ (HA3.out.call hb4).whole Tryd.underlying24 rfl HS.out ?_))
  go_ret
  exact ⟨rfl, ((HA3.out.call (by assumption)).call (by assumption)).below⟩
end Go.Proofs.YtnnmmkimdknbgaaDoor
