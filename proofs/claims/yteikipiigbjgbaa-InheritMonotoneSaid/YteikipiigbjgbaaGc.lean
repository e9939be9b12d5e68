/- The map of edges; checkEdges, Check. -/
import Derived.Test.YteikipiigbjgbaaGb
import Derived.Maps.OwnOps
import Derived.DeepKeys4
namespace Go.Proofs.Yteikipiigbjgbaa
open Go.RowKit Go.WideMaps Go.ChangeMaps
set_option linter.unusedVariables false

theorem Fr.over {S T : Nat → Prop} {A B C : World} (h : Fr S A B) (k : Fr T B C) (hs : ∀ i, T i → S i ∨ A.heap.size ≤ i) : Fr S A C :=
  ⟨k.os.trans h.os, k.tape.trans h.tape, k.output.trans h.output, Nat.le_trans h.size k.size, fun i hi hr => (k.block i (Nat.lt_of_lt_of_le hi h.size) fun e => by rcases hs i e with h | h; exact hr h; omega).trans (h.block i hi hr)⟩
theorem laidOut : laidOutB Try.prog = true := by kernel_rfl
theorem rowEdge : (36 : TypeId) < Try.prog.types.size := of_decide_eq_true (by kernel_rfl)
theorem wideEdge : (match Try.prog.underlying 36 with | some (.array _ _) | some (.struct _) => true | _ => false) = true := by rw [Try.underlying36]
set_option maxRecDepth 100000 in
theorem tiledEdge : Try.prog.keyTypeAt 2 36 = true := by kernel_rfl
set_option maxRecDepth 100000 in
theorem lawEdge : Go.Maps.Keyed Try.prog 36 := Go.Maps.Keyed.of_law (deep_law_laid laidOut (m := 2) (by omega) rowEdge tiledEdge wideEdge)
def edgeV (e : Int × Int) : Value := .agg #[.int .i64 e.1, .int .i64 e.2]
theorem edgeV_inj {e f : Int × Int} (h : edgeV e = edgeV f) : e = f := by
  obtain ⟨a, b⟩ := e; obtain ⟨c, d⟩ := f
  simp [edgeV] at h
  rw [h.1, h.2]
theorem cellsEdge : Try.prog.cellsOf 36 = 2 := by kernel_rfl
theorem cellsInt : Try.prog.cellsOf 3 = 1 := by kernel_rfl
theorem keyEdge : Try.prog.keyType 36 = true := by kernel_rfl
theorem typesSize : ∃ k, Try.prog.types.size + 1 = k + 2 := ⟨Try.prog.types.size - 1, by have : 0 < Try.prog.types.size := of_decide_eq_true (by kernel_rfl); omega⟩
theorem kl_int (k : Nat) {x : Int} (h : (Lit.int .i64 x).wf = true) : Try.prog.keyLits (k + 1) 3 [.int .i64 x] = some [.int .i64 x] := by
  unfold Program.keyLits
  rw [Try.underlying3]
  simp only [h, and_self, if_true]
theorem kl_edge (k : Nat) {x y : Int} (h1 : (Lit.int .i64 x).wf = true) (h2 : (Lit.int .i64 y).wf = true) : Try.prog.keyLits (k + 2) 36 [.int .i64 x, .int .i64 y] = some [.int .i64 x, .int .i64 y] := by
  have e1 := kl_int k h1
  have e2 := kl_int k h2
  unfold Program.keyLits
  rw [Try.underlying36]
  simp only [cellsEdge]
  simp
  rw [cellsInt]
  simp [e1, e2]
theorem wf_i64 {x : Int} (h0 : 0 ≤ x) (h1 : x < 256) : (Lit.int .i64 x).wf = true := by
  have hmin : IntKind.i64.min = -9223372036854775808 := rfl
  have hmax : IntKind.i64.max = 9223372036854775807 := rfl
  simp [Lit.wf]; omega
theorem formedEdge (x y : Value) : (Value.agg #[x, y]).formed Try.prog 36 = true := by
  unfold Value.formed
  simp only [Try.underlying36, cellsEdge]
  rfl
theorem keyE {n : Nat} (hn : n ≤ 256) {e : Int × Int} (he : joinsB n e = true) : ∃ l, keyOf Try.prog 36 (edgeV e) = some l := by
  obtain ⟨x, y⟩ := e
  simp only [joinsB, Bool.and_eq_true, thr_iff] at he
  have w1 : (Lit.int .i64 x).wf = true := wf_i64 he.1.1 (by omega)
  have w2 : (Lit.int .i64 y).wf = true := wf_i64 he.2.1 (by omega)
  obtain ⟨k, hk⟩ := typesSize
  refine ⟨.string (keyBytes [.int .i64 x, .int .i64 y]), ?_⟩
  have h3 : Try.prog.keyLits (Try.prog.types.size + 1) 36 (edgeV (x, y)).cells.toList = some [.int .i64 x, .int .i64 y] := by rw [hk]; exact kl_edge k w1 w2
  unfold keyOf
  rw [Try.underlying36]
  simp only [keyEdge, edgeV, formedEdge, Bool.and_self, if_true]
  rw [show (Value.agg #[Value.int IntKind.i64 (x, y).1, Value.int IntKind.i64 (x, y).2]) = edgeV (x, y) from rfl, h3]
  rfl

/-- Block b is a map in which these edges are. -/
def MapE (W : World) (b : Nat) (ks : Raw) : Prop := ∃ (es : Array MapEntry) (clock : Nat), W.heap[b]? = some (.map es clock) ∧ es.toList.map (·.key) = ks.map edgeV ∧ ∀ x ∈ es.toList, x.val = .bool true
theorem MapE.new (W : World) : MapE (W.alloc (.map #[] 0)) W.heap.size [] := ⟨#[], 0, heap_alloc_new W _, rfl, fun _ h => nomatch h⟩
theorem MapE.lt {W : World} {b : Nat} {ks : Raw} (h : MapE W b ks) : b < W.heap.size := by obtain ⟨es, c, h, _⟩ := h; exact (Array.getElem?_eq_some_iff.1 h).1
theorem MapE.fr {W W' : World} {b : Nat} {ks : Raw} {S : Nat → Prop} (h : MapE W b ks) (hf : Fr S W W') (hS : ¬ S b) : MapE W' b ks := by
  have hl := h.lt
  obtain ⟨es, c, h1, h2, h3⟩ := h
  exact ⟨es, c, (hf.block b hl hS).trans h1, h2, h3⟩
theorem MapE.find {W : World} {b : Nat} {ks : Raw} {n : Nat} (hn : n ≤ 256) (hks : ∀ k ∈ ks, joinsB n k = true) {e : Int × Int} (he : joinsB n e = true) {es : Array MapEntry} {W' : World} (hk : es.toList.map (·.key) = ks.map edgeV) :
    ((Instr.findKey 36 (edgeV e) es.toList).run Try.prog W' = .ok none W' ∧ e ∉ ks) ∨ ∃ j x, (Instr.findKey 36 (edgeV e) es.toList).run Try.prog W' = .ok (some (j, x.val)) W' ∧ x ∈ es.toList ∧ e ∈ ks := by
  obtain ⟨l, hl⟩ := keyE hn he
  have hmem : ∀ x ∈ es.toList, ∃ k ∈ ks, x.key = edgeV k := fun x hx => by
    have : x.key ∈ es.toList.map (·.key) := List.mem_map.2 ⟨x, hx, rfl⟩
    rw [hk] at this
    obtain ⟨k, k1, k2⟩ := List.mem_map.1 this
    exact ⟨k, k1, k2.symm⟩
  rcases lawEdge.find W' hl es.toList (fun x hx => by obtain ⟨k, k1, k2⟩ := hmem x hx; rw [k2]; exact keyE hn (hks k k1)) with ⟨h1, h2⟩ | ⟨j, x, h1, h2, h3⟩
  · refine .inl ⟨h1, fun hm => ?_⟩
    have : edgeV e ∈ ks.map edgeV := List.mem_map.2 ⟨e, hm, rfl⟩
    rw [← hk] at this
    obtain ⟨x, x1, x2⟩ := List.mem_map.1 this
    exact h2 x x1 x2
  · have hx := List.mem_of_getElem? h2
    obtain ⟨k, k1, k2⟩ := hmem x hx
    rw [h3] at k2
    exact .inr ⟨j, x, h1, hx, by rw [edgeV_inj k2]; exact k1⟩
theorem MapE.look {W : World} {b : Nat} {ks : Raw} {n : Nat} (h : MapE W b ks) (hn : n ≤ 256) (hks : ∀ k ∈ ks, joinsB n k = true) {e : Int × Int} (he : joinsB n e = true) :
    (Instr.lookup 85 (.map (some b)) (edgeV e) false).run Try.prog W = .ok (.bool (decide (e ∈ ks))) W := by
  obtain ⟨es, c, hb, hk, hv⟩ := h
  obtain ⟨l, hl⟩ := keyE hn he
  have hz : (zeroValue 4).run Try.prog W = .ok (.bool false) W := by kernel_rfl
  rcases MapE.find (W := W) (b := b) hn hks he (W' := W) hk with ⟨h1, h2⟩ | ⟨j, x, h1, h2, h3⟩
  · rw [decide_eq_false h2]
    simp [Instr.lookup, run_underlying Try.underlying85, MapKept.run_getObj_map hb, lawEdge.check W _ hl, h1, hz, Result.andThen]
  · rw [decide_eq_true h3, ← hv x h2]
    simp [Instr.lookup, run_underlying Try.underlying85, MapKept.run_getObj_map hb, lawEdge.check W _ hl, h1, Result.andThen]
theorem MapE.put {W : World} {b : Nat} {ks : Raw} {n : Nat} (h : MapE W b ks) (hn : n ≤ 256) (hks : ∀ k ∈ ks, joinsB n k = true) {e : Int × Int} (he : joinsB n e = true) (hne : e ∉ ks) :
    ∃ W', (Instr.mapUpdate 85 (.map (some b)) (edgeV e) (.bool true)).run Try.prog W = .ok () W' ∧ MapE W' b (ks ++ [e]) ∧ Fr (fun k => k = b) W W' := by
  have hlt := h.lt
  obtain ⟨es, c, hb, hk, hv⟩ := h
  obtain ⟨l, hl⟩ := keyE hn he
  rcases MapE.find (W := W) (b := b) hn hks he (W' := W) hk with ⟨h1, h2⟩ | ⟨j, x, h1, h2, h3⟩
  · refine ⟨setBlock W b (.map (es.push ⟨edgeV e, .bool true, c⟩) (c + 1)), ?_, ⟨_, _, heap_setBlock_same hb _, ?_, ?_⟩, ?_⟩
    · simp [Instr.mapUpdate, run_underlying Try.underlying85, MapKept.run_getObj_map hb, lawEdge.check W false hl, h1, MapKept.run_setObj_map _ hb, Result.andThen, setBlock]
    · rw [Array.toList_push, List.map_append, hk, List.map_append]; rfl
    · intro x hx
      rw [Array.toList_push, List.mem_append, List.mem_singleton] at hx
      rcases hx with hx | rfl
      · exact hv x hx
      · rfl
    · refine ⟨rfl, rfl, rfl, by simp [setBlock], fun k hk1 hk2 => ?_⟩
      simp [setBlock, Array.getElem?_setIfInBounds]
      intro e; exact absurd e.symm hk2
  · exact absurd h3 hne
theorem wpList_look {ops : Array Oper} {rest : List Oper} {o : Oper} {a : Act} {w : World} {Q : Exit → Act → World → Prop} (hg : o.guard = none) (m x : Operand) (t : TypeId) (hop : o.op = Op.lookup t m x false)
    (mv xv : Value) (hm : a.eval m = mv) (hx : a.eval x = xv) (r : Value) (hr : (Instr.lookup t mv xv false).run Try.prog w = .ok r w) (hK : wpList Try.prog ops Q rest (a.put o.dst r) w) : wpList Try.prog ops Q (o :: rest) a w := by
  refine wpList_plain hg fun K' hK' => ?_
  unfold Oper.wp
  simp [execOp, hop, hm, hx, hr, Result.andThen]
  exact hK' _ _ hK
theorem wpList_upd {ops : Array Oper} {rest : List Oper} {o : Oper} {a : Act} {w w' : World} {Q : Exit → Act → World → Prop} (hg : o.guard = none) (m x v : Operand) (t : TypeId) (hop : o.op = Op.mapUpdate t m x v)
    (mv xv vv : Value) (hm : a.eval m = mv) (hx : a.eval x = xv) (hv : a.eval v = vv) (hr : (Instr.mapUpdate t mv xv vv).run Try.prog w = .ok () w') (hK : wpList Try.prog ops Q rest (a.put o.dst undef) w') : wpList Try.prog ops Q (o :: rest) a w := by
  refine wpList_plain hg fun K' hK' => ?_
  unfold Oper.wp
  simp [execOp, hop, hm, hx, hv, hr, Result.andThen]
  exact hK' _ _ hK
theorem make_hint (n : Int) (w : World) : (Instr.makeMap 85 (some (.int .i64 n))).run Try.prog w = .ok (.map (some w.heap.size)) (w.alloc (.map #[] 0)) := by
  simp [Instr.makeMap, run_underlying Try.underlying85]; rfl

/-- What checkEdges answers. -/
def chkE (n : Nat) : Raw → Raw → Int
  | [], _ => 0
  | e :: r, ks => if joinsB n e = true then (if e ∈ ks then 38 else chkE n r (ks ++ [e])) else 34
end Go.Proofs.Yteikipiigbjgbaa
