/-
  Timers: what came in is a call (Op), or is an event; what a claim says of a world that kept its blocks.
-/
import Derived.Test.YtkjokmfhmppinaaOy
import Derived.Test.YtkjokmfhmppinaaRows
import Derived.ProofKit
import Derived.OpenShut
import Derived.ChangeOld
import Derived.Below
import Derived.SizedLaws
import Derived.Deep.Slices
import Derived.Deep.Fields
import Derived.Lib.SmallJoins
namespace Go.Proofs.Ytkjokmfhmppinaa
open Go.ChangeShapes Go.WideShapes Go.ChangeAt Go.RowKit Go.Deep Go.Joins
set_option linter.unusedVariables false

theorem ownT : ownKnob Try.prog.godebug = none := by kernel_rfl
theorem laidT : laidOutB Try.prog = true := by kernel_rfl
theorem cellsOp : Try.prog.cellsOf 33 = 11 := by kernel_rfl
theorem cellsEv : Try.prog.cellsOf 29 = 5 := by kernel_rfl
theorem cellsSp : Try.prog.cellsOf 31 = 3 := by kernel_rfl
theorem cellsIn : Try.prog.cellsOf 3 = 1 := by kernel_rfl
theorem cellsI6 : Try.prog.cellsOf 2 = 1 := by kernel_rfl
theorem fr_belowT {W W' : World} (h : Fr No W W') : Below W.heap.size W W' := h.toBelow fun _ _ f => f
set_option maxRecDepth 100000 in
/-- A call as it came in. -/
theorem open_op {H : Type} {enc : TypeId × Value → H} {w : World} {base b0 : Nat} {spare : Nat → Bool} {held : Bool} {r : Go.Reach} {v : Value} {d : DataW H} {p : List MemPlace}
    (hv : Value.okWide Try.prog w r b0 33 v) (h : DataW.Trod enc Try.prog w base spare held 33 v d p) : ∃ (kd ix k c p d v' f i t now : Int), v = .agg #[.int .i64 kd, .int .i64 ix, .int .i64 k, .int .i64 c, .int .i64 p, .int .i64 d, .int .i64 v', .int .i64 f, .int .i64 i, .int .i64 t, .int .i64 now] := by
  obtain ⟨cs, rfl, hsz⟩ := okWide_struct Try.underlying33 hv
  rw [cellsOp] at hsz
  obtain ⟨fuel, hf⟩ := h
  obtain ⟨xs, n, _, _, hlen, hxs, hfs⟩ := DataW.trod_struct Try.underlying33 hf
  have hxl : xs.length = 5 := hxs
  have e0 : DataW.trod enc Try.prog w base spare held n 3 ((cs.toList.drop 0).take (Try.prog.cellsOf 3)) = xs[0]? := hfs 0 _ rfl
  have e1 : DataW.trod enc Try.prog w base spare held n 3 ((cs.toList.drop 1).take (Try.prog.cellsOf 3)) = xs[1]? := hfs 1 _ rfl
  have e2 : DataW.trod enc Try.prog w base spare held n 29 ((cs.toList.drop 2).take (Try.prog.cellsOf 29)) = xs[2]? := hfs 2 _ rfl
  have e3 : DataW.trod enc Try.prog w base spare held n 31 ((cs.toList.drop 7).take (Try.prog.cellsOf 31)) = xs[3]? := hfs 3 _ rfl
  have e4 : DataW.trod enc Try.prog w base spare held n 2 ((cs.toList.drop 10).take (Try.prog.cellsOf 2)) = xs[4]? := hfs 4 _ rfl
  rw [List.getElem?_eq_getElem (by omega), cellsIn] at e0 e1
  rw [List.getElem?_eq_getElem (by omega), cellsEv] at e2
  rw [List.getElem?_eq_getElem (by omega), cellsSp] at e3
  rw [List.getElem?_eq_getElem (by omega), cellsI6] at e4
  obtain ⟨ys, n2, _, _, hlen2, hys, hgs⟩ := DataW.trod_struct Try.underlying29 e2
  have hyl : ys.length = 5 := hys
  have g0 : DataW.trod enc Try.prog w base spare held n2 3 ((((cs.toList.drop 2).take 5).drop 0).take (Try.prog.cellsOf 3)) = ys[0]? := hgs 0 _ rfl
  have g1 : DataW.trod enc Try.prog w base spare held n2 3 ((((cs.toList.drop 2).take 5).drop 1).take (Try.prog.cellsOf 3)) = ys[1]? := hgs 1 _ rfl
  have g2 : DataW.trod enc Try.prog w base spare held n2 3 ((((cs.toList.drop 2).take 5).drop 2).take (Try.prog.cellsOf 3)) = ys[2]? := hgs 2 _ rfl
  have g3 : DataW.trod enc Try.prog w base spare held n2 3 ((((cs.toList.drop 2).take 5).drop 3).take (Try.prog.cellsOf 3)) = ys[3]? := hgs 3 _ rfl
  have g4 : DataW.trod enc Try.prog w base spare held n2 2 ((((cs.toList.drop 2).take 5).drop 4).take (Try.prog.cellsOf 2)) = ys[4]? := hgs 4 _ rfl
  rw [List.getElem?_eq_getElem (by omega), cellsIn] at g0 g1 g2 g3
  rw [List.getElem?_eq_getElem (by omega), cellsI6] at g4
  obtain ⟨zs, n3, _, _, hlen3, hzs, hks⟩ := DataW.trod_struct Try.underlying31 e3
  have hzl : zs.length = 3 := hzs
  have k0 : DataW.trod enc Try.prog w base spare held n3 2 ((((cs.toList.drop 7).take 3).drop 0).take (Try.prog.cellsOf 2)) = zs[0]? := hks 0 _ rfl
  have k1 : DataW.trod enc Try.prog w base spare held n3 2 ((((cs.toList.drop 7).take 3).drop 1).take (Try.prog.cellsOf 2)) = zs[1]? := hks 1 _ rfl
  have k2 : DataW.trod enc Try.prog w base spare held n3 2 ((((cs.toList.drop 7).take 3).drop 2).take (Try.prog.cellsOf 2)) = zs[2]? := hks 2 _ rfl
  rw [List.getElem?_eq_getElem (by omega), cellsI6] at k0 k1 k2
  obtain ⟨x0, f0, _, _⟩ := DataW.trod_int Try.underlying3 e0
  obtain ⟨x1, f1, _, _⟩ := DataW.trod_int Try.underlying3 e1
  obtain ⟨y0, q0, _, _⟩ := DataW.trod_int Try.underlying3 g0
  obtain ⟨y1, q1, _, _⟩ := DataW.trod_int Try.underlying3 g1
  obtain ⟨y2, q2, _, _⟩ := DataW.trod_int Try.underlying3 g2
  obtain ⟨y3, q3, _, _⟩ := DataW.trod_int Try.underlying3 g3
  obtain ⟨y4, q4, _, _⟩ := DataW.trod_int Try.underlying2 g4
  obtain ⟨z0, r0, _, _⟩ := DataW.trod_int Try.underlying2 k0
  obtain ⟨z1, r1, _, _⟩ := DataW.trod_int Try.underlying2 k1
  obtain ⟨z2, r2, _, _⟩ := DataW.trod_int Try.underlying2 k2
  obtain ⟨x4, f4, _, _⟩ := DataW.trod_int Try.underlying2 e4
  obtain ⟨L⟩ := cs
  match L, hsz with
  | [u0, u1, u2, u3, u4, u5, u6, u7, u8, u9, u10], hsz =>
    simp at f0 f1 f4 q0 q1 q2 q3 q4 r0 r1 r2
    exact ⟨x0, x1, y0, y1, y2, y3, y4, z0, z1, z2, x4, by rw [f0, f1, f4, q0, q1, q2, q3, q4, r0, r1, r2]⟩
end Go.Proofs.Ytkjokmfhmppinaa
