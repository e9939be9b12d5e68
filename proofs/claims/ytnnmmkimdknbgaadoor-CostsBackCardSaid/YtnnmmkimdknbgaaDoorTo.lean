/- A costs.Table that came in as an argument: its value is the cells of two numbers and a list of 24. -/
import Derived.Test.YtnnmmkimdknbgaaDoorCt
import Derived.Test.YtnnmmkimdknbgaaDoorRows
import Derived.WalkKit
import Derived.ProofKit
import Derived.OpenShut
import Derived.ChangeOld
import Derived.Lib.SmallJoins
namespace Go.Proofs.YtnnmmkimdknbgaaDoor
open Go.ChangeShapes Go.WideShapes Go.ChangeAt Go.RowKit Go.Joins
set_option linter.unusedVariables false

theorem ints_of : ∀ L : List Value, (∀ v ∈ L, ∃ z, v = Value.int .i64 z) → ∃ l : List Int, L = l.map (Value.int .i64)
  | [], _ => ⟨[], rfl⟩
  | v :: L, h => by
    obtain ⟨z, hz⟩ := h v (by simp)
    obtain ⟨l, hl⟩ := ints_of L (fun u hu => h u (by simp [hu]))
    exact ⟨z :: l, by rw [hz, hl]; rfl⟩

theorem cellsTab : Tryd.prog.cellsOf 24 = 26 := by kernel_rfl
theorem cellsI64 : Tryd.prog.cellsOf 2 = 1 := by kernel_rfl
theorem cellsArr : Tryd.prog.cellsOf 22 = 24 := by kernel_rfl

theorem open_tab {H : Type} {enc : TypeId × Value → H} {w : World} {base b0 : Nat} {spare : Nat → Bool} {held : Bool} {r : Reach} {v : Value} {d : DataW H} {p : List MemPlace}
    (hv : Value.okWide Tryd.prog w r b0 24 v) (h : DataW.Trod enc Tryd.prog w base spare held 24 v d p) : ∃ (s c : Int) (l : List Int), l.length = 24 ∧ v = .agg (tabA s c l) := by
  obtain ⟨cs, rfl, hsz⟩ := okWide_struct Tryd.underlying24 hv
  rw [cellsTab] at hsz
  obtain ⟨fuel, hf⟩ := h
  obtain ⟨xs, n, _, _, hlen, hxs, hfs⟩ := DataW.trod_struct Tryd.underlying24 hf
  have hxl : xs.length = 3 := hxs
  have e0 : DataW.trod enc Tryd.prog w base spare held n 2 ((cs.toList.drop 0).take (Tryd.prog.cellsOf 2)) = xs[0]? := hfs 0 _ rfl
  have e1 : DataW.trod enc Tryd.prog w base spare held n 2 ((cs.toList.drop 1).take (Tryd.prog.cellsOf 2)) = xs[1]? := hfs 1 _ rfl
  have e2 : DataW.trod enc Tryd.prog w base spare held n 22 ((cs.toList.drop 2).take (Tryd.prog.cellsOf 22)) = xs[2]? := hfs 2 _ rfl
  rw [List.getElem?_eq_getElem (by omega), cellsI64] at e0 e1
  rw [List.getElem?_eq_getElem (by omega), cellsArr] at e2
  obtain ⟨s, f0, _, _⟩ := DataW.trod_int Tryd.underlying2 e0
  obtain ⟨c, f1, _, _⟩ := DataW.trod_int Tryd.underlying2 e1
  obtain ⟨ys, m, _, _, hl2, hyl, hel⟩ := DataW.trod_array Tryd.underlying22 e2
  have hall : ∀ i, i < 24 → ∃ z, cs.toList[2 + i]? = some (Value.int .i64 z) := fun i hi => by
    have h1 := hel i hi
    rw [List.getElem?_eq_getElem (by omega), cellsI64, Nat.mul_one] at h1
    obtain ⟨z, g, _, _⟩ := DataW.trod_int Tryd.underlying2 h1
    have := congrArg (·[0]?) g
    simp [List.getElem?_drop, hi] at this
    exact ⟨z, by simpa using this⟩
  obtain ⟨L⟩ := cs
  match L, hsz with
  | a :: b :: L, hsz =>
    have hL : L.length = 24 := by simpa using hsz
    obtain ⟨l, hl⟩ := ints_of L (fun u hu => by
      obtain ⟨i, hi, rfl⟩ := List.mem_iff_getElem.1 hu
      obtain ⟨z, hz⟩ := hall i (by omega)
      refine ⟨z, ?_⟩
      simp only [show 2 + i = i + 2 from by omega, List.getElem?_cons_succ, List.getElem?_eq_getElem hi, Option.some.injEq] at hz
      exact hz)
    subst hl
    simp at f0 f1
    exact ⟨s, c, l, by simpa using hL, by rw [f0, f1]; rfl⟩
end Go.Proofs.YtnnmmkimdknbgaaDoor
