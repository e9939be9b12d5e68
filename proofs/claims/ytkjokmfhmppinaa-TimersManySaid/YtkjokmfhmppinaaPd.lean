/-
  Timers: specifications, and times, that came in.
-/
import Derived.Test.YtkjokmfhmppinaaPc
namespace Go.Proofs.Ytkjokmfhmppinaa
open Go.ChangeShapes Go.WideShapes Go.ChangeAt Go.RowKit Go.Deep Go.Joins
set_option linter.unusedVariables false

set_option maxRecDepth 100000 in
theorem open_specs {H : Type} {enc : TypeId × Value → H} {w : World} {base : Nat} {spare : Nat → Bool} {held : Bool} {a : Option Addr} {n cap : Nat} {d : DataW H} {p : List MemPlace}
    (h : DataW.Trod enc Try.prog w base spare held 48 (.slice a n cap) d p) : ∃ P : List Spc, P.length = n ∧ SpIn w a P := by
  obtain ⟨fuel, hf⟩ := h
  rcases open_slice Try.underlying48 hf with ⟨hcs, hx⟩ | ⟨a', len, cap', m, k, D, Pl, hcs, hb, hl, hm, hmm, hx, hi⟩
  · simp [Value.cells] at hcs
    exact ⟨[], hcs.2.1.symm, .inl rfl⟩
  · simp [Value.cells] at hcs
    obtain ⟨rfl, rfl, rfl⟩ := hcs
    by_cases hn : n = 0
    · exact ⟨[], hn.symm, .inl rfl⟩
    have hlm : n ≤ m := by rw [hmm]; split <;> omega
    have hone : ∀ i, i < n → ∃ x : Spc, w.cell? (a'.add (i * 3 + 0)) = some (.int .i64 x.1) ∧ w.cell? (a'.add (i * 3 + 1)) = some (.int .i64 x.2.1) ∧ w.cell? (a'.add (i * 3 + 2)) = some (.int .i64 x.2.2) := fun i hin => by
      obtain ⟨cs', hc, ht⟩ := hi i (by omega)
      rw [cellsSp] at hc
      obtain ⟨_, hcl, hat⟩ := World.cells?_some hc
      obtain ⟨xs, q, _, _, _, hxs, hfs⟩ := DataW.trod_struct Try.underlying31 ht
      have hxl : xs.length = 3 := hxs
      have e0 : DataW.trod enc Try.prog w base spare held q 2 ((cs'.drop 0).take (Try.prog.cellsOf 2)) = xs[0]? := hfs 0 _ rfl
      have e1 : DataW.trod enc Try.prog w base spare held q 2 ((cs'.drop 1).take (Try.prog.cellsOf 2)) = xs[1]? := hfs 1 _ rfl
      have e2 : DataW.trod enc Try.prog w base spare held q 2 ((cs'.drop 2).take (Try.prog.cellsOf 2)) = xs[2]? := hfs 2 _ rfl
      rw [List.getElem?_eq_getElem (by omega), cellsI6] at e0 e1 e2
      obtain ⟨x0, f0, _, _⟩ := DataW.trod_int Try.underlying2 e0
      obtain ⟨x1, f1, _, _⟩ := DataW.trod_int Try.underlying2 e1
      obtain ⟨x2, f2, _, _⟩ := DataW.trod_int Try.underlying2 e2
      match cs', hcl with
      | [u0, u1, u2], _ =>
        simp at f0 f1 f2
        subst f0 f1 f2
        have a0 := hat 0 (by omega)
        have a1 := hat 1 (by omega)
        have a2 := hat 2 (by omega)
        rw [Go.Deep.add_add] at a0 a1 a2
        exact ⟨(x0, x1, x2), a0, a1, a2⟩
    obtain ⟨V, hV⟩ := choose_lt hone
    obtain ⟨b, off, spot⟩ := a'
    have hs : spot = none := by
      have := World.cell?_spot (hV 0 (by omega)).1
      simpa [Addr.add] using this
    subst hs
    refine ⟨(List.range n).map V, by simp, .inr ⟨b, off, rfl, ?_, fun i x hx => ?_⟩⟩
    · have := World.block_lt_of_cell? w _ (hV 0 (by omega)).1
      simpa [Addr.add] using this
    · have hin : i < n := by
        have := (List.getElem?_eq_some_iff.1 hx).1
        simpa using this
      have hxV : x = V i := by
        rw [List.getElem?_map, List.getElem?_range hin] at hx
        simpa using hx.symm
      subst hxV
      have := hV i hin
      rw [Addr.add_mid, Addr.add_mid, Addr.add_mid] at this
      obtain ⟨h0, h1, h2⟩ := this
      rw [← Nat.add_assoc] at h0 h1 h2
      intro j v hj
      match j, hj with
      | 0, hj => cases hj; exact h0
      | 1, hj => cases hj; exact h1
      | 2, hj => cases hj; exact h2
end Go.Proofs.Ytkjokmfhmppinaa
