/- Laws for a walk inside a fence: a load, a store, a build of many cells; two results that lie in cells; blocks that a loop over a function keeps. -/
import Derived.Test.YtnnmmkimdknbgaaDoorTl
import Derived.Sort.CutIn
import Derived.Sort.QuietIn
namespace Go.Proofs.YtnnmmkimdknbgaaDoor
open Go.RowKit Go.Shelf
set_option linter.unusedVariables false

section
variable {F : Fence} {n : Nat} {P : Program} {ops : Array Oper} {rest : List Oper} {o : Oper} {a : Act} {w : World} {Q : Exit → Act → World → Prop}
theorem wpListIn_load_row (hgd : o.guard = none) (ty : TypeId) (x : Operand) (ho : o.op = .load ty x)
    (g : Nat) (hx : a.eval x = .pointer (some ⟨g, 0, none⟩)) (t : TypeId) (cs : Array Value) (fr : Nat × Nat) (d : TypeDesc) (hg : w.heap[g]? = some (.cells cs t fr))
    (hu : P.underlying ty = some d) (hd : (match d with | .struct _ | .array _ _ => true | _ => false) = true) (hi : (P.info? ty).map (·.size) = some cs.size)
    (h : wpListIn F n P ops Q rest (a.put o.dst (.agg cs)) w) : wpListIn F n P ops Q (o :: rest) a w := by
  refine wpListIn_plain hgd fun K hK => ?_
  unfold Oper.wpIn
  refine ⟨?_, ?_⟩
  · simp [Oper.about, ho]
  · rw [Oper.semAt_plain F _ _ (by rw [ho]; intro c hc'; cases hc')]
    unfold execOp
    simp only [ho, hx, Instr.loadAt, Instr.sureAddr, Sem.run_bind, Sem.run_pure, Result.andThen_ok, run_loadVar_row w g t ty cs fr d hg hu hd hi]
    exact hK _ _ h
theorem wpListIn_store_row (hgd : o.guard = none) (ty : TypeId) (x y : Operand) (ho : o.op = .store ty x y)
    (g : Nat) (cells : Array Value) (hx : a.eval x = .pointer (some ⟨g, 0, none⟩)) (hy : a.eval y = .agg cells)
    (t : TypeId) (old : Array Value) (hg : w.heap[g]? = some (.cells old t (0, 0))) (hi : (P.info? ty).map (·.size) = some cells.size)
    (hold : old.size = cells.size) (h1 : cells.all (·.oneCell') = true)
    (h : wpListIn F n P ops Q rest (a.put o.dst undef) (w.setRow g cells)) : wpListIn F n P ops Q (o :: rest) a w := by
  refine wpListIn_plain hgd fun K hK => ?_
  unfold Oper.wpIn
  refine ⟨?_, ?_⟩
  · simp [Oper.about, ho]
  · rw [Oper.semAt_plain F _ _ (by rw [ho]; intro c hc'; cases hc')]
    unfold execOp
    simp only [ho, hx, hy, Instr.storeAt, Instr.sureAddr, Sem.run_bind, Sem.run_pure, Result.andThen_ok, run_storeVar_row w g t ty old cells hg hi hold h1]
    exact hK _ _ h
theorem wpListIn_build_at (hgd : o.guard = none) (t : TypeId) (parts : Array (Nat × Operand)) (ho : o.op = .build t parts) (cells : Array Value)
    (hf : P.built t (parts.map fun (i, x) => (i, a.eval x)).toList = some cells)
    (h : wpListIn F n P ops Q rest (a.put o.dst (.agg cells)) w) : wpListIn F n P ops Q (o :: rest) a w := by
  refine wpListIn_plain hgd fun K hK => ?_
  unfold Oper.wpIn
  refine ⟨?_, ?_⟩
  · simp [Oper.about, ho]
  · rw [Oper.semAt_plain F _ _ (by rw [ho]; intro c hc'; cases hc')]
    unfold execOp
    simp only [ho, Sem.run_bind, run_build w t _ cells hf, Result.andThen_ok]
    exact hK _ _ h
end

/-- Two results that lie in cells. -/
theorem results_two_rows {P : Program} {fn : Func} {p q : Tmp} {ty ty2 : TypeId} (h : fn.results = #[.cell p ty, .cell q ty2]) (tmps : Array Value) (w : World) (g g2 : Nat) (t t2 : TypeId) (cs cs2 : Array Value) (d d2 : TypeDesc)
    (hp : tmps.getD p undef = .pointer (some ⟨g, 0, none⟩)) (hg : w.heap[g]? = some (.cells cs t (0, 0)))
    (hu : P.underlying ty = some d) (hd : (match d with | .struct _ | .array _ _ => true | _ => false) = true) (hi : (P.info? ty).map (·.size) = some cs.size)
    (hp2 : tmps.getD q undef = .pointer (some ⟨g2, 0, none⟩)) (hg2 : w.heap[g2]? = some (.cells cs2 t2 (0, 0)))
    (hu2 : P.underlying ty2 = some d2) (hd2 : (match d2 with | .struct _ | .array _ _ => true | _ => false) = true) (hi2 : (P.info? ty2).map (·.size) = some cs2.size) :
    (results fn tmps).run P w = .ok (.tuple #[.agg cs, .agg cs2]) w := by
  have hp' : tmps[p]?.getD undef = .pointer (some ⟨g, 0, none⟩) := by simpa using hp
  have hq' : tmps[q]?.getD undef = .pointer (some ⟨g2, 0, none⟩) := by simpa using hp2
  simp [results, h, hp', hq', asAddr, run_loadVar_row w g t ty cs (0, 0) d hg hu hd hi, run_loadVar_row w g2 t2 ty2 cs2 (0, 0) d2 hg2 hu2 hd2 hi2]

/-- A block that holds these cells. -/
def RowAt (W : World) (B : Nat) (t : TypeId) (cs : Array Value) : Prop := W.heap[B]? = some (.cells cs t (0, 0))
theorem RowAt.lt {W : World} {B : Nat} {t : TypeId} {cs : Array Value} (h : RowAt W B t cs) : B < W.heap.size := (Array.getElem?_eq_some_iff.1 h).1
theorem RowAt.kept {W W' : World} {row : Option Nat} {B : Nat} {t : TypeId} {cs : Array Value} (h : RowAt W B t cs) (hg : W.grownBy W' row) (hne : some B ≠ row) : RowAt W' B t cs := (hg.block B h.lt hne).trans h
theorem RowAt.alloc {W : World} {B : Nat} {t : TypeId} {cs : Array Value} (h : RowAt W B t cs) (o : Obj) : RowAt (W.alloc o) B t cs := h.kept (World.grownBy_alloc W o none) (by simp)
theorem RowAt.new (W : World) (t : TypeId) (cs : Array Value) : RowAt (W.alloc (.cells cs t)) W.heap.size t cs := World.alloc_heap_new W _
theorem RowAt.below {W W' : World} {n₀ B : Nat} {t : TypeId} {cs : Array Value} (h : RowAt W B t cs) (hb : Below n₀ W W') (hlt : B < n₀) : RowAt W' B t cs := (hb.block B hlt).trans h
theorem RowAt.set {W : World} {B : Nat} {t : TypeId} {cs : Array Value} (h : RowAt W B t cs) (i : Nat) (v : Value) : RowAt (W.setCell ⟨B, i, none⟩ v) B t (cs.setIfInBounds i v) := heap_setCell_same W _ _ _ _ _ h
theorem RowAt.other {W : World} {B B' : Nat} {t : TypeId} {cs : Array Value} (h : RowAt W B t cs) (hne : B ≠ B') (i : Nat) (v : Value) : RowAt (W.setCell ⟨B', i, none⟩ v) B t cs := by
  show _ = _
  rw [heap_setCell_other _ _ _ _ hne]; exact h
theorem RowAt.setRow {W : World} {B : Nat} {t : TypeId} {cs : Array Value} (h : RowAt W B t cs) (ds : Array Value) : RowAt (W.setRow B ds) B t ds := setRow_heap _ _ _ _ _ _ h
theorem RowAt.otherRow {W : World} {B B' : Nat} {t : TypeId} {cs : Array Value} (h : RowAt W B t cs) (hne : B ≠ B') (ds : Array Value) : RowAt (W.setRow B' ds) B t cs := by
  show _ = _
  rw [setRow_other _ _ _ _ hne]; exact h
theorem rowAt_own {β : Type} (B : Nat) (t : TypeId) (f : β → Array Value) : Own (fun s W => RowAt W B t (f s)) := fun s X Y row hs hg hrow =>
  hs.kept hg (fun e' => by obtain ⟨o, ho, hc⟩ := hrow B e'.symm; rw [show X.heap[B]? = _ from hs] at ho; cases ho; cases hc)
theorem RowAt.cell {W : World} {B : Nat} {t : TypeId} {cs : Array Value} (h : RowAt W B t cs) (i : Nat) : W.cell? ⟨B, i, none⟩ = cs[i]? := cell_of_row W B i cs t (0, 0) h
theorem RowAt.frozen {W : World} {B : Nat} {t : TypeId} {cs : Array Value} (h : RowAt W B t cs) (i : Nat) : W.frozen? ⟨B, i, none⟩ = false := frozen_of_row _ _ i _ _ h
theorem setRow_below {n₀ B : Nat} {W : World} (h : n₀ ≤ B) (cs : Array Value) : Below n₀ W (W.setRow B cs) := ⟨rfl, rfl, rfl, by simp, fun k hk => setRow_other _ _ _ _ (by omega)⟩
theorem setRow_keeps {W : World} {B : Nat} {t : TypeId} {ds : Array Value} (h : RowAt W B t ds) (cs : Array Value) : KeepsOthers W (W.setRow B cs) :=
  ⟨by simp, fun k o hk ho => by
    by_cases e : k = B
    · subst e; rw [show W.heap[k]? = _ from h] at hk; cases hk; cases ho
    · rw [setRow_other _ _ _ _ e]; exact hk⟩
end Go.Proofs.YtnnmmkimdknbgaaDoor
