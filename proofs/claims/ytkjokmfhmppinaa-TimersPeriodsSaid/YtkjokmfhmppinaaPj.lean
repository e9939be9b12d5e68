/-
  Timers: times, and a specification, that came in.
-/
import Derived.Test.YtkjokmfhmppinaaPi
namespace Go.Proofs.Ytkjokmfhmppinaa
open Go.ChangeShapes Go.WideShapes Go.ChangeAt Go.RowKit Go.Deep Go.Joins
set_option linter.unusedVariables false

set_option maxRecDepth 100000 in
theorem open_times {H : Type} {enc : TypeId × Value → H} {w : World} {base : Nat} {spare : Nat → Bool} {held : Bool} {a : Option Addr} {n cap : Nat} {d : DataW H} {p : List MemPlace}
    (h : DataW.Trod enc Try.prog w base spare held 60 (.slice a n cap) d p) : ∃ ts : List Int, ts.length = n ∧ TimesIn w a ts := by
  obtain ⟨fuel, hf⟩ := h
  rcases Go.ChangeShapes.open_ints Try.underlying60 Try.underlying2 cellsI6 hf with ⟨hcs, hx⟩ | ⟨a', len, cap', zs, hcs, _, hl, hm, hz, hx, hcell, hwz⟩
  · simp [Value.cells] at hcs
    exact ⟨[], hcs.2.1.symm, .inl rfl⟩
  · simp [Value.cells] at hcs
    obtain ⟨rfl, rfl, rfl⟩ := hcs
    have hlm : n ≤ zs.length := by rw [hz]; split <;> omega
    by_cases hn : n = 0
    · exact ⟨[], hn.symm, .inl rfl⟩
    obtain ⟨b, off, spot⟩ := a'
    have hs : spot = none := by
      have := World.cell?_spot (hcell 0 (by omega))
      simpa [Addr.add] using this
    subst hs
    refine ⟨zs.take n, by simp; omega, .inr ⟨b, off, rfl, ?_, fun i z hi => ?_⟩⟩
    · have := World.block_lt_of_cell? w _ (hcell 0 (by omega))
      simpa [Addr.add] using this
    · have hin : i < n := by
        have := (List.getElem?_eq_some_iff.1 hi).1
        simp at this; omega
      have h1 : zs[i]? = some z := by rw [List.getElem?_take, if_pos hin] at hi; exact hi
      have h2 := hcell i (by omega)
      rw [Addr.add_mid, List.getD_eq_getElem?_getD, h1] at h2
      exact h2
set_option maxRecDepth 100000 in
theorem open_spec {H : Type} {enc : TypeId × Value → H} {w : World} {base b0 : Nat} {spare : Nat → Bool} {held : Bool} {r : Go.Reach} {v : Value} {d : DataW H} {p : List MemPlace}
    (hv : Value.okWide Try.prog w r b0 31 v) (h : DataW.Trod enc Try.prog w base spare held 31 v d p) : ∃ f i t : Int, v = .agg #[.int .i64 f, .int .i64 i, .int .i64 t] := by
  obtain ⟨cs, rfl, hsz⟩ := okWide_struct Try.underlying31 hv
  rw [cellsSp] at hsz
  obtain ⟨fuel, hf⟩ := h
  obtain ⟨xs, n, _, _, hlen, hxs, hfs⟩ := DataW.trod_struct Try.underlying31 hf
  have hxl : xs.length = 3 := hxs
  have e0 : DataW.trod enc Try.prog w base spare held n 2 ((cs.toList.drop 0).take (Try.prog.cellsOf 2)) = xs[0]? := hfs 0 _ rfl
  have e1 : DataW.trod enc Try.prog w base spare held n 2 ((cs.toList.drop 1).take (Try.prog.cellsOf 2)) = xs[1]? := hfs 1 _ rfl
  have e2 : DataW.trod enc Try.prog w base spare held n 2 ((cs.toList.drop 2).take (Try.prog.cellsOf 2)) = xs[2]? := hfs 2 _ rfl
  rw [List.getElem?_eq_getElem (by omega), cellsI6] at e0 e1 e2
  obtain ⟨x0, f0, _, _⟩ := DataW.trod_int Try.underlying2 e0
  obtain ⟨x1, f1, _, _⟩ := DataW.trod_int Try.underlying2 e1
  obtain ⟨x2, f2, _, _⟩ := DataW.trod_int Try.underlying2 e2
  obtain ⟨L⟩ := cs
  match L, hsz with
  | [u0, u1, u2], hsz =>
    simp at f0 f1 f2
    exact ⟨x0, x1, x2, by rw [f0, f1, f2]⟩
end Go.Proofs.Ytkjokmfhmppinaa
