/- Acts that came in as an argument. -/
import Derived.Test.YtbjpaemldnoinaaYy
import Derived.Test.YtbjpaemldnoinaaRows
import Derived.ProofKit
import Derived.OpenShut
import Derived.ChangeOld
import Derived.Below
import Derived.SizedLaws
import Derived.Deep.Slices
import Derived.Deep.Fields
import Derived.Lib.SmallJoins
namespace Go.Proofs.Ytbjpaemldnoinaa
open Go.ChangeShapes Go.WideShapes Go.ChangeAt Go.RowKit Go.Deep Go.Joins
set_option linter.unusedVariables false

theorem own : ownKnob Try.prog.godebug = none := by kernel_rfl
theorem laidOut : laidOutB Try.prog = true := by kernel_rfl
theorem cellsAct : Try.prog.cellsOf 32 = 6 := by kernel_rfl
theorem cellsU8 : Try.prog.cellsOf 5 = 1 := by kernel_rfl
theorem cellsInt : Try.prog.cellsOf 3 = 1 := by kernel_rfl
theorem cellsBool : Try.prog.cellsOf 4 = 1 := by kernel_rfl
instance : Inhabited ActR := ⟨⟨0, 0, 0, 0, 0, false⟩⟩

set_option maxRecDepth 100000 in
/-- A list of Acts that came in: it is empty, or its Acts' cells lie in a row. -/
theorem open_acts {H : Type} {enc : TypeId × Value → H} {w : World} {base : Nat} {spare : Nat → Bool} {held : Bool} {a : Option Addr} {n cap : Nat} {d : DataW H} {p : List MemPlace}
    (h : DataW.Trod enc Try.prog w base spare held 22 (.slice a n cap) d p) : ∃ A : List ActR, A.length = n ∧ ActsIn w a A := by
  obtain ⟨fuel, hf⟩ := h
  rcases open_slice Try.underlying22 hf with ⟨hcs, hx⟩ | ⟨a', len, cap', m, k, D, Pl, hcs, hb, hl, hm, hmm, hx, hi⟩
  · simp [Value.cells] at hcs
    exact ⟨[], hcs.2.1.symm, by simp, .inl rfl⟩
  · simp [Value.cells] at hcs
    obtain ⟨rfl, rfl, rfl⟩ := hcs
    by_cases hn : n = 0
    · exact ⟨[], hn.symm, by simp, .inl rfl⟩
    have hlm : n ≤ m := by rw [hmm]; split <;> omega
    have hone : ∀ i, i < n → ∃ x : ActR, w.cell? (a'.add (i * 6 + 0)) = some (.int .u8 x.d) ∧ w.cell? (a'.add (i * 6 + 1)) = some (.int .i64 x.t) ∧ w.cell? (a'.add (i * 6 + 2)) = some (.int .i64 x.p) ∧ w.cell? (a'.add (i * 6 + 3)) = some (.int .i64 x.m) ∧ w.cell? (a'.add (i * 6 + 4)) = some (.int .i64 x.n) ∧ w.cell? (a'.add (i * 6 + 5)) = some (.bool x.f) ∧ 0 ≤ x.d ∧ x.d < 256 := fun i hin => by
      obtain ⟨cs', hc, ht⟩ := hi i (by omega)
      rw [cellsAct] at hc
      obtain ⟨_, hcl, hat⟩ := World.cells?_some hc
      obtain ⟨xs, q, _, _, _, hxs, hfs⟩ := DataW.trod_struct Try.underlying32 ht
      have hxl : xs.length = 6 := hxs
      have e0 : DataW.trod enc Try.prog w base spare held q 5 ((cs'.drop 0).take (Try.prog.cellsOf 5)) = xs[0]? := hfs 0 _ rfl
      have e1 : DataW.trod enc Try.prog w base spare held q 3 ((cs'.drop 1).take (Try.prog.cellsOf 3)) = xs[1]? := hfs 1 _ rfl
      have e2 : DataW.trod enc Try.prog w base spare held q 3 ((cs'.drop 2).take (Try.prog.cellsOf 3)) = xs[2]? := hfs 2 _ rfl
      have e3 : DataW.trod enc Try.prog w base spare held q 3 ((cs'.drop 3).take (Try.prog.cellsOf 3)) = xs[3]? := hfs 3 _ rfl
      have e4 : DataW.trod enc Try.prog w base spare held q 3 ((cs'.drop 4).take (Try.prog.cellsOf 3)) = xs[4]? := hfs 4 _ rfl
      have e5 : DataW.trod enc Try.prog w base spare held q 4 ((cs'.drop 5).take (Try.prog.cellsOf 4)) = xs[5]? := hfs 5 _ rfl
      rw [List.getElem?_eq_getElem (by omega), cellsU8] at e0
      rw [List.getElem?_eq_getElem (by omega), cellsInt] at e1 e2 e3 e4
      rw [List.getElem?_eq_getElem (by omega), cellsBool] at e5
      obtain ⟨x0, f0, _, hz⟩ := DataW.trod_int Try.underlying5 e0
      have hz0 : 0 ≤ x0 ∧ x0 < 256 := by
        have e : IntKind.u8.min = 0 := rfl
        have e2 : IntKind.u8.max = 255 := rfl
        simp [Lit.wf] at hz
        omega
      obtain ⟨x1, f1, _, _⟩ := DataW.trod_int Try.underlying3 e1
      obtain ⟨x2, f2, _, _⟩ := DataW.trod_int Try.underlying3 e2
      obtain ⟨x3, f3, _, _⟩ := DataW.trod_int Try.underlying3 e3
      obtain ⟨x4, f4, _, _⟩ := DataW.trod_int Try.underlying3 e4
      obtain ⟨x5, f5, _⟩ := DataW.trod_bool Try.underlying4 e5
      match cs', hcl with
      | [u0, u1, u2, u3, u4, u5], _ =>
        simp at f0 f1 f2 f3 f4 f5
        subst f0 f1 f2 f3 f4 f5
        have a0 := hat 0 (by omega)
        have a1 := hat 1 (by omega)
        have a2 := hat 2 (by omega)
        have a3 := hat 3 (by omega)
        have a4 := hat 4 (by omega)
        have a5 := hat 5 (by omega)
        rw [Go.Deep.add_add] at a0 a1 a2 a3 a4 a5
        exact ⟨⟨x0, x1, x2, x3, x4, x5⟩, a0, a1, a2, a3, a4, a5, hz0.1, hz0.2⟩
    obtain ⟨V, hV⟩ := choose_lt hone
    obtain ⟨b, off, spot⟩ := a'
    have hs : spot = none := by
      have := World.cell?_spot (hV 0 (by omega)).1
      simpa [Addr.add] using this
    subst hs
    refine ⟨(List.range n).map V, by simp, fun x hx => ?_, .inr ⟨b, off, rfl, ?_, fun i x hx => ?_⟩⟩
    · obtain ⟨i, hi, rfl⟩ := List.mem_map.1 hx
      exact (hV i (List.mem_range.1 hi)).2.2.2.2.2.2
    · have := World.block_lt_of_cell? w _ (hV 0 (by omega)).1
      simpa [Addr.add] using this
    · have hin : i < n := by
        have := (List.getElem?_eq_some_iff.1 hx).1
        simpa using this
      have hxV : x = V i := by
        rw [List.getElem?_map, List.getElem?_range hin] at hx
        simpa using hx.symm
      subst hxV
      have := hV i hin
      rw [Addr.add_mid, Addr.add_mid, Addr.add_mid, Addr.add_mid, Addr.add_mid, Addr.add_mid] at this
      obtain ⟨h0, h1, h2, h3, h4, h5, _⟩ := this
      rw [← Nat.add_assoc] at h0 h1 h2 h3 h4 h5
      intro j v hj
      match j, hj with
      | 0, hj => cases hj; exact h0
      | 1, hj => cases hj; exact h1
      | 2, hj => cases hj; exact h2
      | 3, hj => cases hj; exact h3
      | 4, hj => cases hj; exact h4
      | 5, hj => cases hj; exact h5

end Go.Proofs.Ytbjpaemldnoinaa
