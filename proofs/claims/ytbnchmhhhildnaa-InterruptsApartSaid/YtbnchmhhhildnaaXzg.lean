/-
  Interrupts: calls that came in.
-/
import Derived.Test.YtbnchmhhhildnaaXzf
namespace Go.Proofs.Ytbnchmhhhildnaa
open Go.ChangeShapes Go.WideShapes Go.ChangeAt Go.RowKit Go.Deep Go.Joins
set_option linter.unusedVariables false

set_option maxRecDepth 100000 in
theorem trod_op {H : Type} {enc : TypeId × Value → H} {w : World} {base : Nat} {spare : Nat → Bool} {held : Bool} {fuel : Nat} {cs : List Value} {x : DataW H × List MemPlace} (hl : cs.length = 9)
    (hf : DataW.trod enc Try.prog w base spare held fuel 34 cs = some x) : ∃ o : OpR, cs = opCs o ∧ isW o.ln ∧ isW o.ix := by
  obtain ⟨xs, n, _, _, hlen, hxs, hfs⟩ := DataW.trod_struct Try.underlying34 hf
  have hxl : xs.length = 5 := hxs
  have e0 : DataW.trod enc Try.prog w base spare held n 3 ((cs.drop 0).take (Try.prog.cellsOf 3)) = xs[0]? := hfs 0 _ rfl
  have e1 : DataW.trod enc Try.prog w base spare held n 3 ((cs.drop 1).take (Try.prog.cellsOf 3)) = xs[1]? := hfs 1 _ rfl
  have e2 : DataW.trod enc Try.prog w base spare held n 3 ((cs.drop 2).take (Try.prog.cellsOf 3)) = xs[2]? := hfs 2 _ rfl
  have e3 : DataW.trod enc Try.prog w base spare held n 32 ((cs.drop 3).take (Try.prog.cellsOf 32)) = xs[3]? := hfs 3 _ rfl
  have e4 : DataW.trod enc Try.prog w base spare held n 4 ((cs.drop 8).take (Try.prog.cellsOf 4)) = xs[4]? := hfs 4 _ rfl
  rw [List.getElem?_eq_getElem (by omega), cellsInt] at e0 e1 e2
  rw [List.getElem?_eq_getElem (by omega), cellsEv] at e3
  rw [List.getElem?_eq_getElem (by omega), cellsBo] at e4
  obtain ⟨ys, n2, _, _, hlen2, hys, hgs⟩ := DataW.trod_struct Try.underlying32 e3
  have hyl : ys.length = 5 := hys
  have g0 : DataW.trod enc Try.prog w base spare held n2 3 ((((cs.drop 3).take 5).drop 0).take (Try.prog.cellsOf 3)) = ys[0]? := hgs 0 _ rfl
  have g1 : DataW.trod enc Try.prog w base spare held n2 3 ((((cs.drop 3).take 5).drop 1).take (Try.prog.cellsOf 3)) = ys[1]? := hgs 1 _ rfl
  have g2 : DataW.trod enc Try.prog w base spare held n2 3 ((((cs.drop 3).take 5).drop 2).take (Try.prog.cellsOf 3)) = ys[2]? := hgs 2 _ rfl
  have g3 : DataW.trod enc Try.prog w base spare held n2 3 ((((cs.drop 3).take 5).drop 3).take (Try.prog.cellsOf 3)) = ys[3]? := hgs 3 _ rfl
  have g4 : DataW.trod enc Try.prog w base spare held n2 2 ((((cs.drop 3).take 5).drop 4).take (Try.prog.cellsOf 2)) = ys[4]? := hgs 4 _ rfl
  rw [List.getElem?_eq_getElem (by omega), cellsInt] at g0 g1 g2 g3
  rw [List.getElem?_eq_getElem (by omega), cellsI6] at g4
  obtain ⟨x0, f0, _, _⟩ := DataW.trod_int Try.underlying3 e0
  obtain ⟨x1, f1, _, w1⟩ := DataW.trod_int Try.underlying3 e1
  obtain ⟨x2, f2, _, w2⟩ := DataW.trod_int Try.underlying3 e2
  obtain ⟨y0, q0, _, _⟩ := DataW.trod_int Try.underlying3 g0
  obtain ⟨y1, q1, _, _⟩ := DataW.trod_int Try.underlying3 g1
  obtain ⟨y2, q2, _, _⟩ := DataW.trod_int Try.underlying3 g2
  obtain ⟨y3, q3, _, _⟩ := DataW.trod_int Try.underlying3 g3
  obtain ⟨y4, q4, _, _⟩ := DataW.trod_int Try.underlying2 g4
  obtain ⟨b4, f4, _⟩ := DataW.trod_bool Try.underlying4 e4
  match cs, hl with
  | [u0, u1, u2, u3, u4, u5, u6, u7, u8], _ =>
    simp at f0 f1 f2 f4 q0 q1 q2 q3 q4
    exact ⟨⟨x0, x1, x2, y0, y1, y2, y3, y4, b4⟩, by rw [f0, f1, f2, f4, q0, q1, q2, q3, q4]; rfl, w1, w2⟩
instance instInhOpR : Inhabited OpR := ⟨⟨0, 0, 0, 0, 0, 0, 0, 0, false⟩⟩
set_option maxRecDepth 100000 in
theorem open_ops {H : Type} {enc : TypeId × Value → H} {w : World} {base : Nat} {spare : Nat → Bool} {held : Bool} {a : Option Addr} {n cap : Nat} {d : DataW H} {p : List MemPlace}
    (h : DataW.Trod enc Try.prog w base spare held 22 (.slice a n cap) d p) : ∃ P : List OpR, P.length = n ∧ OpsIn w a P := by
  obtain ⟨fuel, hf⟩ := h
  rcases open_slice Try.underlying22 hf with ⟨hcs, hx⟩ | ⟨a', len, cap', m, k, D, Pl, hcs, hb, hl, hm, hmm, hx, hi⟩
  · simp [Value.cells] at hcs
    exact ⟨[], hcs.2.1.symm, .inl rfl, by simp⟩
  · simp [Value.cells] at hcs
    obtain ⟨rfl, rfl, rfl⟩ := hcs
    by_cases hn : n = 0
    · exact ⟨[], hn.symm, .inl rfl, by simp⟩
    have hlm : n ≤ m := by rw [hmm]; split <;> omega
    have hone : ∀ i, i < n → ∃ o : OpR, (∀ j u, (opCs o)[j]? = some u → w.cell? (a'.add (i * 9 + j)) = some u) ∧ isW o.ln ∧ isW o.ix := fun i hin => by
      obtain ⟨cs', hc, ht⟩ := hi i (by omega)
      rw [cellsOp] at hc
      obtain ⟨_, hcl, hat⟩ := World.cells?_some hc
      obtain ⟨o, ho, w1, w2⟩ := trod_op hcl ht
      refine ⟨o, fun j u hu => ?_, w1, w2⟩
      have hj : j < 9 := by have := (List.getElem?_eq_some_iff.1 hu).1; exact this
      have := hat j hj
      rw [Go.Deep.add_add] at this
      rw [this, ho]
      exact hu
    obtain ⟨V, hV⟩ := choose_lt hone
    obtain ⟨b, off, spot⟩ := a'
    have hs : spot = none := by
      have := World.cell?_spot ((hV 0 (by omega)).1 0 _ rfl)
      simpa [Addr.add] using this
    subst hs
    have hPV : ∀ i o, ((List.range n).map V)[i]? = some o → i < n ∧ o = V i := fun i o hx => by
      have hin : i < n := by
        have := (List.getElem?_eq_some_iff.1 hx).1
        simpa using this
      rw [List.getElem?_map, List.getElem?_range hin] at hx
      exact ⟨hin, by simpa using hx.symm⟩
    refine ⟨(List.range n).map V, by simp, .inr ⟨b, off, rfl, ?_, fun i o hx j u hu => ?_⟩, fun o ho => ?_⟩
    · have := World.block_lt_of_cell? w _ ((hV 0 (by omega)).1 0 _ rfl)
      simpa [Addr.add] using this
    · obtain ⟨hin, rfl⟩ := hPV i o hx
      have := (hV i hin).1 j u hu
      rw [Addr.add_mid, ← Nat.add_assoc] at this
      exact this
    · obtain ⟨i, hi⟩ := List.getElem?_of_mem ho
      obtain ⟨hin, rfl⟩ := hPV i o hi
      exact (hV i hin).2
end Go.Proofs.Ytbnchmhhhildnaa
