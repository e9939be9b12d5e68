/- Acts of SporadicPlays that came in as an argument. -/
import Derived.Test.YtibmmonboeifhaaWm
import Derived.Test.YtibmmonboeifhaaUn
namespace Go.Proofs.Ytibmmonboeifhaa
open Go.ChangeShapes Go.WideShapes Go.ChangeAt Go.RowKit Go.Deep Go.Joins
set_option linter.unusedVariables false

theorem cellsActS : Try.prog.cellsOf 58 = 4 := by kernel_rfl
instance : Inhabited ActS := ⟨⟨0, 0, 0, 0⟩⟩

set_option maxRecDepth 100000 in
theorem open_actsS {H : Type} {enc : TypeId × Value → H} {w : World} {base : Nat} {spare : Nat → Bool} {held : Bool} {a : Option Addr} {n cap : Nat} {d : DataW H} {p : List MemPlace}
    (h : DataW.Trod enc Try.prog w base spare held 46 (.slice a n cap) d p) : ∃ A : List ActS, A.length = n ∧ ActsS w a A := by
  obtain ⟨fuel, hf⟩ := h
  rcases open_slice Try.underlying46 hf with ⟨hcs, hx⟩ | ⟨a', len, cap', m, k, D, Pl, hcs, hb, hl, hm, hmm, hx, hi⟩
  · simp [Value.cells] at hcs
    exact ⟨[], hcs.2.1.symm, by simp, .inl rfl⟩
  · simp [Value.cells] at hcs
    obtain ⟨rfl, rfl, rfl⟩ := hcs
    by_cases hn : n = 0
    · exact ⟨[], hn.symm, by simp, .inl rfl⟩
    have hlm : n ≤ m := by rw [hmm]; split <;> omega
    have hone : ∀ i, i < n → ∃ x : ActS, w.cell? (a'.add (i * 4 + 0)) = some (.int .u8 x.d) ∧ w.cell? (a'.add (i * 4 + 1)) = some (.int .u8 x.gp) ∧ w.cell? (a'.add (i * 4 + 2)) = some (.int .i64 x.raw) ∧ w.cell? (a'.add (i * 4 + 3)) = some (.int .i64 x.nm) ∧ (0 ≤ x.d ∧ x.d < 256) ∧ 0 ≤ x.gp ∧ x.gp < 256 := fun i hin => by
      obtain ⟨cs', hc, ht⟩ := hi i (by omega)
      rw [cellsActS] at hc
      obtain ⟨_, hcl, hat⟩ := World.cells?_some hc
      obtain ⟨xs, q, _, _, _, hxs, hfs⟩ := DataW.trod_struct Try.underlying58 ht
      have hxl : xs.length = 4 := hxs
      have e0 : DataW.trod enc Try.prog w base spare held q 5 ((cs'.drop 0).take (Try.prog.cellsOf 5)) = xs[0]? := hfs 0 _ rfl
      have e1 : DataW.trod enc Try.prog w base spare held q 5 ((cs'.drop 1).take (Try.prog.cellsOf 5)) = xs[1]? := hfs 1 _ rfl
      have e2 : DataW.trod enc Try.prog w base spare held q 2 ((cs'.drop 2).take (Try.prog.cellsOf 2)) = xs[2]? := hfs 2 _ rfl
      have e3 : DataW.trod enc Try.prog w base spare held q 3 ((cs'.drop 3).take (Try.prog.cellsOf 3)) = xs[3]? := hfs 3 _ rfl
      rw [List.getElem?_eq_getElem (by omega), cellsU8] at e0 e1
      rw [List.getElem?_eq_getElem (by omega), cellsI64] at e2
      rw [List.getElem?_eq_getElem (by omega), cellsInt] at e3
      obtain ⟨x0, f0, _, hz⟩ := DataW.trod_int Try.underlying5 e0
      have hz0 : 0 ≤ x0 ∧ x0 < 256 := by
        have e : IntKind.u8.min = 0 := rfl
        have e2 : IntKind.u8.max = 255 := rfl
        simp [Lit.wf] at hz
        omega
      obtain ⟨x1, f1, _, hy⟩ := DataW.trod_int Try.underlying5 e1
      have hz1 : 0 ≤ x1 ∧ x1 < 256 := by
        have e : IntKind.u8.min = 0 := rfl
        have e2 : IntKind.u8.max = 255 := rfl
        simp [Lit.wf] at hy
        omega
      obtain ⟨x2, f2, _, _⟩ := DataW.trod_int Try.underlying2 e2
      obtain ⟨x3, f3, _, _⟩ := DataW.trod_int Try.underlying3 e3
      match cs', hcl with
      | [u0, u1, u2, u3], _ =>
        simp at f0 f1 f2 f3
        subst f0 f1 f2 f3
        have a0 := hat 0 (by omega)
        have a1 := hat 1 (by omega)
        have a2 := hat 2 (by omega)
        have a3 := hat 3 (by omega)
        rw [Go.Deep.add_add] at a0 a1 a2 a3
        exact ⟨⟨x0, x1, x2, x3⟩, a0, a1, a2, a3, hz0, hz1⟩
    obtain ⟨V, hV⟩ := choose_lt hone
    obtain ⟨b, off, spot⟩ := a'
    have hs : spot = none := by
      have := World.cell?_spot (hV 0 (by omega)).1
      simpa [Addr.add] using this
    subst hs
    refine ⟨(List.range n).map V, by simp, fun x hx => ?_, .inr ⟨b, off, rfl, ?_, fun i x hx => ?_⟩⟩
    · obtain ⟨i, hi, rfl⟩ := List.mem_map.1 hx
      exact (hV i (List.mem_range.1 hi)).2.2.2.2
    · have := World.block_lt_of_cell? w _ (hV 0 (by omega)).1
      simpa [Addr.add] using this
    · have hin : i < n := by
        have := (List.getElem?_eq_some_iff.1 hx).1
        simpa using this
      have hxV : x = V i := by
        rw [List.getElem?_map, List.getElem?_range hin] at hx
        simpa using hx.symm
      subst hxV
      have := hV i hin
      rw [Addr.add_mid, Addr.add_mid, Addr.add_mid, Addr.add_mid] at this
      obtain ⟨h0, h1, h2, h3, _⟩ := this
      rw [← Nat.add_assoc] at h0 h1 h2 h3
      intro j v hj
      match j, hj with
      | 0, hj => cases hj; exact h0
      | 1, hj => cases hj; exact h1
      | 2, hj => cases hj; exact h2
      | 3, hj => cases hj; exact h3

end Go.Proofs.Ytibmmonboeifhaa
