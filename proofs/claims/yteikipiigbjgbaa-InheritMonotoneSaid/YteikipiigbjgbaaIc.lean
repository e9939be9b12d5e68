/- Values that came in: numbers, edges, a graph, a call. -/
import Derived.Test.YteikipiigbjgbaaGw
import Derived.Test.YteikipiigbjgbaaRows
import Derived.ProofKit
import Derived.OpenShut
import Derived.ChangeOld
import Derived.Below
import Derived.SizedLaws
import Derived.Deep.Slices
import Derived.Deep.SlicePairs
import Derived.Deep.Fields
import Derived.Lib.SmallJoins
namespace Go.Proofs.Yteikipiigbjgbaa
open Go.ChangeShapes Go.WideShapes Go.ChangeAt Go.RowKit Go.Deep Go.Joins
set_option linter.unusedVariables false

theorem own : ownKnob Try.prog.godebug = none := by kernel_rfl
theorem cellsAct : Try.prog.cellsOf 31 = 4 := by kernel_rfl
theorem cellsGraph : Try.prog.cellsOf 40 = 2 := by kernel_rfl
theorem cellsU8 : Try.prog.cellsOf 5 = 1 := by kernel_rfl
theorem cellsInts : Try.prog.cellsOf 22 = 1 := by kernel_rfl
theorem cellsEdges : Try.prog.cellsOf 29 = 1 := by kernel_rfl
theorem fr_below {W W' : World} (h : Fr No W W') : Below W.heap.size W W' := h.toBelow fun _ _ f => f
set_option maxRecDepth 100000 in
theorem open_edges {H : Type} {enc : TypeId × Value → H} {w : World} {base : Nat} {spare : Nat → Bool} {held : Bool} {fuel : Nat} {cs : List Value} {x : DataW H × List MemPlace}
    (hf : DataW.trod enc Try.prog w base spare held fuel 29 cs = some x) : ∃ (a : Option Addr) (P : List (Int × Int)) (cap : Nat), cs = [.slice a P.length cap] ∧ EdgesIn w a P := by
  rcases open_slice_pairs Try.underlying29 Try.underlying36 cellsEdge rfl rfl cellsInt cellsInt hf with ⟨hcs, hx⟩ | ⟨a', len, cap', m, n, V0, V1, D0, D1, P0, P1, hcs, hb, hl, hm, hmm, hx, hi⟩
  · exact ⟨none, [], 0, hcs, .inl rfl⟩
  · by_cases hn : len = 0
    · subst hn
      exact ⟨some a', [], cap', hcs, .inl rfl⟩
    have hlm : len ≤ m := by rw [hmm]; split <;> omega
    have hone : ∀ i, i < len → ∃ q : Int × Int, w.cell? (a'.add (i * 2)) = some (.int .i64 q.1) ∧ w.cell? (a'.add (i * 2 + 1)) = some (.int .i64 q.2) := fun i hin => by
      obtain ⟨h0, h1, t0, t1⟩ := hi i (by omega)
      obtain ⟨x0, f0, _, _⟩ := DataW.trod_int Try.underlying3 t0
      obtain ⟨x1, f1, _, _⟩ := DataW.trod_int Try.underlying3 t1
      simp at f0 f1
      exact ⟨(x0, x1), by rw [h0, f0], by rw [h1, f1]⟩
    obtain ⟨V, hV⟩ := choose_lt hone
    obtain ⟨b, off, spot⟩ := a'
    have hs : spot = none := by
      have := World.cell?_spot (hV 0 (by omega)).1
      simpa [Addr.add] using this
    subst hs
    have hlen : ((List.range len).map V).length = len := by simp
    refine ⟨some ⟨b, off, none⟩, (List.range len).map V, cap', by rw [hlen]; exact hcs, .inr ⟨b, off, rfl, ?_, fun i x hx => ?_⟩⟩
    · have := World.block_lt_of_cell? w _ (hV 0 (by omega)).1
      simpa [Addr.add] using this
    · have hin : i < len := by
        have := (List.getElem?_eq_some_iff.1 hx).1
        simpa using this
      have hxV : x = V i := by
        rw [List.getElem?_map, List.getElem?_range hin] at hx
        simpa using hx.symm
      subst hxV
      have := hV i hin
      rw [Addr.add_mid, Addr.add_mid] at this
      rw [← Nat.add_assoc] at this
      exact this
set_option maxRecDepth 100000 in
theorem open_nums {H : Type} {enc : TypeId × Value → H} {w : World} {base : Nat} {spare : Nat → Bool} {held : Bool} {fuel : Nat} {cs : List Value} {x : DataW H × List MemPlace}
    (hf : DataW.trod enc Try.prog w base spare held fuel 22 cs = some x) : ∃ (a : Option Addr) (gs : List Int) (cap : Nat), cs = [.slice a gs.length cap] ∧ NumsIn w a gs ∧ (a = none → cap = 0) := by
  rcases Go.ChangeShapes.open_ints Try.underlying22 Try.underlying3 cellsInt hf with ⟨hcs, hx⟩ | ⟨a', len, cap', zs, hcs, _, hl, hm, hz, hx, hcell, hwz⟩
  · exact ⟨none, [], 0, hcs, .inl rfl, fun _ => rfl⟩
  · have hlm : len ≤ zs.length := by rw [hz]; split <;> omega
    by_cases hn : len = 0
    · subst hn
      exact ⟨some a', [], cap', hcs, .inl rfl, fun e => nomatch e⟩
    obtain ⟨b, off, spot⟩ := a'
    have hs : spot = none := by
      have := World.cell?_spot (hcell 0 (by omega))
      simpa [Addr.add] using this
    subst hs
    have hlen : (zs.take len).length = len := by simp; omega
    refine ⟨some ⟨b, off, none⟩, zs.take len, cap', by rw [hlen]; exact hcs, .inr ⟨b, off, rfl, ?_, fun i z hi => ?_⟩, fun e => nomatch e⟩
    · have := World.block_lt_of_cell? w _ (hcell 0 (by omega))
      simpa [Addr.add] using this
    · have hin : i < len := by
        have := (List.getElem?_eq_some_iff.1 hi).1
        simp at this; omega
      have h1 : zs[i]? = some z := by rw [List.getElem?_take, if_pos hin] at hi; exact hi
      have h2 := hcell i (by omega)
      rw [Addr.add_mid, List.getD_eq_getElem?_getD, h1] at h2
      exact h2
set_option maxRecDepth 100000 in
theorem open_graph {H : Type} {enc : TypeId × Value → H} {w : World} {base b0 : Nat} {spare : Nat → Bool} {held : Bool} {r : Go.Reach} {v : Value} {d : DataW H} {p : List MemPlace}
    (hv : Value.okWide Try.prog w r b0 40 v) (h : DataW.Trod enc Try.prog w base spare held 40 v d p) : ∃ (a c : Option Addr) (bs : List Int) (raw : Raw) (cap cap' : Nat), v = .agg (graphV a bs.length cap c raw.length cap') ∧ NumsIn w a bs ∧ EdgesIn w c raw ∧ (a = none → cap = 0) := by
  obtain ⟨cs, rfl, hsz⟩ := okWide_struct Try.underlying40 hv
  rw [cellsGraph] at hsz
  obtain ⟨fuel, hf⟩ := h
  obtain ⟨xs, n, _, _, hlen, hxs, hfs⟩ := DataW.trod_struct Try.underlying40 hf
  have hxl : xs.length = 2 := hxs
  have e0 : DataW.trod enc Try.prog w base spare held n 22 ((cs.toList.drop 0).take (Try.prog.cellsOf 22)) = xs[0]? := hfs 0 _ rfl
  have e1 : DataW.trod enc Try.prog w base spare held n 29 ((cs.toList.drop 1).take (Try.prog.cellsOf 29)) = xs[1]? := hfs 1 _ rfl
  rw [List.getElem?_eq_getElem (by omega), cellsInts] at e0
  rw [List.getElem?_eq_getElem (by omega), cellsEdges] at e1
  obtain ⟨a, bs, cap, f0, h1, h2⟩ := open_nums e0
  obtain ⟨c, raw, cap', f1, h3⟩ := open_edges e1
  obtain ⟨L⟩ := cs
  match L, hsz with
  | [u0, u1], hsz =>
    simp at f0 f1
    exact ⟨a, c, bs, raw, cap, cap', by rw [f0, f1]; rfl, h1, h3, h2⟩
set_option maxRecDepth 100000 in
theorem open_act {H : Type} {enc : TypeId × Value → H} {w : World} {base b0 : Nat} {spare : Nat → Bool} {held : Bool} {r : Go.Reach} {v : Value} {d : DataW H} {p : List MemPlace}
    (hv : Value.okWide Try.prog w r b0 31 v) (h : DataW.Trod enc Try.prog w base spare held 31 v d p) : ∃ (k x y : Int) (ce : Option Addr) (m c : Nat), v = .agg #[.int .u8 k, .int .i64 x, .int .i64 y, .slice ce m c] ∧ 0 ≤ k ∧ k < 256 := by
  obtain ⟨cs, rfl, hsz⟩ := okWide_struct Try.underlying31 hv
  rw [cellsAct] at hsz
  obtain ⟨fuel, hf⟩ := h
  obtain ⟨xs, n, _, _, hlen, hxs, hfs⟩ := DataW.trod_struct Try.underlying31 hf
  have hxl : xs.length = 4 := hxs
  have e0 : DataW.trod enc Try.prog w base spare held n 5 ((cs.toList.drop 0).take (Try.prog.cellsOf 5)) = xs[0]? := hfs 0 _ rfl
  have e1 : DataW.trod enc Try.prog w base spare held n 3 ((cs.toList.drop 1).take (Try.prog.cellsOf 3)) = xs[1]? := hfs 1 _ rfl
  have e2 : DataW.trod enc Try.prog w base spare held n 3 ((cs.toList.drop 2).take (Try.prog.cellsOf 3)) = xs[2]? := hfs 2 _ rfl
  have e3 : DataW.trod enc Try.prog w base spare held n 29 ((cs.toList.drop 3).take (Try.prog.cellsOf 29)) = xs[3]? := hfs 3 _ rfl
  rw [List.getElem?_eq_getElem (by omega), cellsU8] at e0
  rw [List.getElem?_eq_getElem (by omega), cellsInt] at e1 e2
  rw [List.getElem?_eq_getElem (by omega), cellsEdges] at e3
  obtain ⟨x0, f0, _, hz0⟩ := DataW.trod_int Try.underlying5 e0
  obtain ⟨x1, f1, _, _⟩ := DataW.trod_int Try.underlying3 e1
  obtain ⟨x2, f2, _, _⟩ := DataW.trod_int Try.underlying3 e2
  obtain ⟨ce, P, cap, f3, _⟩ := open_edges e3
  have e : IntKind.u8.min = 0 := rfl
  have e2 : IntKind.u8.max = 255 := rfl
  simp [Lit.wf] at hz0
  obtain ⟨L⟩ := cs
  match L, hsz with
  | [u0, u1, u2, u3], hsz =>
    simp at f0 f1 f2 f3
    exact ⟨x0, x1, x2, ce, P.length, cap, by rw [f0, f1, f2, f3], by omega, by omega⟩
end Go.Proofs.Yteikipiigbjgbaa
