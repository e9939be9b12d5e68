/-
  Interrupts: what came in is a call (Op); what a claim says of a world that kept its blocks.
-/
import Derived.Test.YtbnchmhhhildnaaXw
import Derived.Test.YtbnchmhhhildnaaRows
import Derived.ProofKit
import Derived.OpenShut
import Derived.ChangeOld
import Derived.Below
import Derived.SizedLaws
import Derived.Deep.Slices
import Derived.Deep.Fields
import Derived.Lib.SmallJoins
namespace Go.Proofs.Ytbnchmhhhildnaa
open Go.ChangeShapes Go.WideShapes Go.ChangeAt Go.RowKit Go.Deep Go.Joins
set_option linter.unusedVariables false

theorem ownT : ownKnob Try.prog.godebug = none := by kernel_rfl
theorem laidT : laidOutB Try.prog = true := by kernel_rfl
theorem cellsOp : Try.prog.cellsOf 34 = 9 := by kernel_rfl
theorem cellsEv : Try.prog.cellsOf 32 = 5 := by kernel_rfl
theorem cellsI6 : Try.prog.cellsOf 2 = 1 := by kernel_rfl
theorem cellsBo : Try.prog.cellsOf 4 = 1 := by kernel_rfl
theorem fr_belowT {W W' : World} (h : Fr No W W') : Below W.heap.size W W' := h.toBelow fun _ _ f => f
set_option maxRecDepth 100000 in
/-- A call as it came in. -/
theorem open_op {H : Type} {enc : TypeId × Value → H} {w : World} {base b0 : Nat} {spare : Nat → Bool} {held : Bool} {r : Go.Reach} {v : Value} {d : DataW H} {p : List MemPlace}
    (hv : Value.okWide Try.prog w r b0 34 v) (h : DataW.Trod enc Try.prog w base spare held 34 v d p) : ∃ (kd ln ix k c p d v' : Int) (fi : Bool), v = .agg (opC kd ln ix k c p d v' fi) ∧ isW ln ∧ isW ix := by
  obtain ⟨cs, rfl, hsz⟩ := okWide_struct Try.underlying34 hv
  rw [cellsOp] at hsz
  obtain ⟨fuel, hf⟩ := h
  obtain ⟨xs, n, _, _, hlen, hxs, hfs⟩ := DataW.trod_struct Try.underlying34 hf
  have hxl : xs.length = 5 := hxs
  have e0 : DataW.trod enc Try.prog w base spare held n 3 ((cs.toList.drop 0).take (Try.prog.cellsOf 3)) = xs[0]? := hfs 0 _ rfl
  have e1 : DataW.trod enc Try.prog w base spare held n 3 ((cs.toList.drop 1).take (Try.prog.cellsOf 3)) = xs[1]? := hfs 1 _ rfl
  have e2 : DataW.trod enc Try.prog w base spare held n 3 ((cs.toList.drop 2).take (Try.prog.cellsOf 3)) = xs[2]? := hfs 2 _ rfl
  have e3 : DataW.trod enc Try.prog w base spare held n 32 ((cs.toList.drop 3).take (Try.prog.cellsOf 32)) = xs[3]? := hfs 3 _ rfl
  have e4 : DataW.trod enc Try.prog w base spare held n 4 ((cs.toList.drop 8).take (Try.prog.cellsOf 4)) = xs[4]? := hfs 4 _ rfl
  rw [List.getElem?_eq_getElem (by omega), cellsInt] at e0 e1 e2
  rw [List.getElem?_eq_getElem (by omega), cellsEv] at e3
  rw [List.getElem?_eq_getElem (by omega), cellsBo] at e4
  obtain ⟨ys, n2, _, _, hlen2, hys, hgs⟩ := DataW.trod_struct Try.underlying32 e3
  have hyl : ys.length = 5 := hys
  have g0 : DataW.trod enc Try.prog w base spare held n2 3 ((((cs.toList.drop 3).take 5).drop 0).take (Try.prog.cellsOf 3)) = ys[0]? := hgs 0 _ rfl
  have g1 : DataW.trod enc Try.prog w base spare held n2 3 ((((cs.toList.drop 3).take 5).drop 1).take (Try.prog.cellsOf 3)) = ys[1]? := hgs 1 _ rfl
  have g2 : DataW.trod enc Try.prog w base spare held n2 3 ((((cs.toList.drop 3).take 5).drop 2).take (Try.prog.cellsOf 3)) = ys[2]? := hgs 2 _ rfl
  have g3 : DataW.trod enc Try.prog w base spare held n2 3 ((((cs.toList.drop 3).take 5).drop 3).take (Try.prog.cellsOf 3)) = ys[3]? := hgs 3 _ rfl
  have g4 : DataW.trod enc Try.prog w base spare held n2 2 ((((cs.toList.drop 3).take 5).drop 4).take (Try.prog.cellsOf 2)) = ys[4]? := hgs 4 _ rfl
  rw [List.getElem?_eq_getElem (by omega), cellsInt] at g0 g1 g2 g3
  rw [List.getElem?_eq_getElem (by omega), cellsI6] at g4
  obtain ⟨x0, f0, _, _⟩ := DataW.trod_int Try.underlying3 e0
  obtain ⟨x1, f1, _, w1⟩ := DataW.trod_int Try.underlying3 e1
  obtain ⟨x2, f2, _, w2⟩ := DataW.trod_int Try.underlying3 e2
  obtain ⟨y0, q0, _, _⟩ := DataW.trod_int Try.underlying3 g0
  obtain ⟨y1, q1, _, _⟩ := DataW.trod_int Try.underlying3 g1
  obtain ⟨y2, q2, _, _⟩ := DataW.trod_int Try.underlying3 g2
  obtain ⟨y3, q3, _, _⟩ := DataW.trod_int Try.underlying3 g3
  obtain ⟨y4, q4, _, _⟩ := DataW.trod_int Try.underlying2 g4
  obtain ⟨b4, f4, _⟩ := DataW.trod_bool Try.underlying4 e4
  obtain ⟨L⟩ := cs
  match L, hsz with
  | [u0, u1, u2, u3, u4, u5, u6, u7, u8], hsz =>
    simp at f0 f1 f2 f4 q0 q1 q2 q3 q4
    exact ⟨x0, x1, x2, y0, y1, y2, y3, y4, b4, by rw [f0, f1, f2, f4, q0, q1, q2, q3, q4]; rfl, w1, w2⟩
end Go.Proofs.Ytbnchmhhhildnaa
