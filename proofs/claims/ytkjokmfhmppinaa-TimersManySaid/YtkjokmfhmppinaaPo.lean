/-
  Timers: an event that came in.
-/
import Derived.Test.YtkjokmfhmppinaaPn
import Derived.Test.YtkjokmfhmppinaaPd
namespace Go.Proofs.Ytkjokmfhmppinaa
open Go.ChangeShapes Go.WideShapes Go.ChangeAt Go.RowKit Go.Deep Go.Joins
set_option linter.unusedVariables false

set_option maxRecDepth 100000 in
theorem open_event {H : Type} {enc : TypeId × Value → H} {w : World} {base b0 : Nat} {spare : Nat → Bool} {held : Bool} {r : Go.Reach} {v : Value} {d : DataW H} {p : List MemPlace}
    (hv : Value.okWide Try.prog w r b0 29 v) (h : DataW.Trod enc Try.prog w base spare held 29 v d p) : ∃ k c p' d' v' : Int, v = .agg #[.int .i64 k, .int .i64 c, .int .i64 p', .int .i64 d', .int .i64 v'] := by
  obtain ⟨cs, rfl, hsz⟩ := okWide_struct Try.underlying29 hv
  rw [cellsEv] at hsz
  obtain ⟨fuel, hf⟩ := h
  obtain ⟨xs, n, _, _, hlen, hxs, hfs⟩ := DataW.trod_struct Try.underlying29 hf
  have hxl : xs.length = 5 := hxs
  have e0 : DataW.trod enc Try.prog w base spare held n 3 ((cs.toList.drop 0).take (Try.prog.cellsOf 3)) = xs[0]? := hfs 0 _ rfl
  have e1 : DataW.trod enc Try.prog w base spare held n 3 ((cs.toList.drop 1).take (Try.prog.cellsOf 3)) = xs[1]? := hfs 1 _ rfl
  have e2 : DataW.trod enc Try.prog w base spare held n 3 ((cs.toList.drop 2).take (Try.prog.cellsOf 3)) = xs[2]? := hfs 2 _ rfl
  have e3 : DataW.trod enc Try.prog w base spare held n 3 ((cs.toList.drop 3).take (Try.prog.cellsOf 3)) = xs[3]? := hfs 3 _ rfl
  have e4 : DataW.trod enc Try.prog w base spare held n 2 ((cs.toList.drop 4).take (Try.prog.cellsOf 2)) = xs[4]? := hfs 4 _ rfl
  rw [List.getElem?_eq_getElem (by omega), cellsIn] at e0 e1 e2 e3
  rw [List.getElem?_eq_getElem (by omega), cellsI6] at e4
  obtain ⟨x0, f0, _, _⟩ := DataW.trod_int Try.underlying3 e0
  obtain ⟨x1, f1, _, _⟩ := DataW.trod_int Try.underlying3 e1
  obtain ⟨x2, f2, _, _⟩ := DataW.trod_int Try.underlying3 e2
  obtain ⟨x3, f3, _, _⟩ := DataW.trod_int Try.underlying3 e3
  obtain ⟨x4, f4, _, _⟩ := DataW.trod_int Try.underlying2 e4
  obtain ⟨L⟩ := cs
  match L, hsz with
  | [u0, u1, u2, u3, u4], hsz =>
    simp at f0 f1 f2 f3 f4
    exact ⟨x0, x1, x2, x3, x4, by rw [f0, f1, f2, f3, f4]⟩
end Go.Proofs.Ytkjokmfhmppinaa
