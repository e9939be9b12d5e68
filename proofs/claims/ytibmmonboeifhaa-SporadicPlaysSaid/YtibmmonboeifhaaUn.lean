/- Parameters and gaps that came in as arguments. -/
import Derived.Test.YtibmmonboeifhaaUm
import Derived.Test.YtibmmonboeifhaaRows
import Derived.ProofKit
import Derived.OpenShut
import Derived.ChangeOld
import Derived.ChangeSlices
import Derived.Below
import Derived.SizedLaws
import Derived.Deep.Slices
import Derived.Deep.Fields
import Derived.Lib.SmallJoins
namespace Go.Proofs.Ytibmmonboeifhaa
open Go.ChangeShapes Go.WideShapes Go.ChangeAt Go.RowKit Go.Deep Go.Joins
set_option linter.unusedVariables false

theorem cellsPar : Try.prog.cellsOf 45 = 4 := by kernel_rfl
theorem cellsI64 : Try.prog.cellsOf 2 = 1 := by kernel_rfl
theorem cellsInt : Try.prog.cellsOf 3 = 1 := by kernel_rfl
theorem cellsU8 : Try.prog.cellsOf 5 = 1 := by kernel_rfl
set_option maxRecDepth 100000 in
theorem open_par {H : Type} {enc : TypeId × Value → H} {w : World} {base b0 : Nat} {spare : Nat → Bool} {held : Bool} {r : Reach} {v : Value} {d : DataW H} {p : List MemPlace}
    (hv : Value.okWide Try.prog w r b0 45 v) (h : DataW.Trod enc Try.prog w base spare held 45 v d p) : ∃ (b q n l : Int), v = .agg (parA b q n l) := by
  obtain ⟨cs, rfl, hsz⟩ := okWide_struct Try.underlying45 hv
  rw [cellsPar] at hsz
  obtain ⟨fuel, hf⟩ := h
  obtain ⟨xs, n, _, _, hlen, hxs, hfs⟩ := DataW.trod_struct Try.underlying45 hf
  have hxl : xs.length = 4 := hxs
  have e0 : DataW.trod enc Try.prog w base spare held n 2 ((cs.toList.drop 0).take (Try.prog.cellsOf 2)) = xs[0]? := hfs 0 _ rfl
  have e1 : DataW.trod enc Try.prog w base spare held n 2 ((cs.toList.drop 1).take (Try.prog.cellsOf 2)) = xs[1]? := hfs 1 _ rfl
  have e2 : DataW.trod enc Try.prog w base spare held n 3 ((cs.toList.drop 2).take (Try.prog.cellsOf 3)) = xs[2]? := hfs 2 _ rfl
  have e3 : DataW.trod enc Try.prog w base spare held n 3 ((cs.toList.drop 3).take (Try.prog.cellsOf 3)) = xs[3]? := hfs 3 _ rfl
  rw [List.getElem?_eq_getElem (by omega), cellsI64] at e0 e1
  rw [List.getElem?_eq_getElem (by omega), cellsInt] at e2 e3
  obtain ⟨a0, f0, _, _⟩ := DataW.trod_int Try.underlying2 e0
  obtain ⟨a1, f1, _, _⟩ := DataW.trod_int Try.underlying2 e1
  obtain ⟨a2, f2, _, _⟩ := DataW.trod_int Try.underlying3 e2
  obtain ⟨a3, f3, _, _⟩ := DataW.trod_int Try.underlying3 e3
  obtain ⟨L⟩ := cs
  match L, hsz with
  | [x0, x1, x2, x3], hsz =>
    simp at f0 f1 f2 f3
    exact ⟨a0, a1, a2, a3, by rw [f0, f1, f2, f3]; rfl⟩

/-- Bytes that came in. -/
def BytesIn (w : World) (a : Option Addr) (gs : List Int) : Prop := (∀ z ∈ gs, 0 ≤ z ∧ z < 256) ∧ (gs = [] ∨ ∃ b off, a = some ⟨b, off, none⟩ ∧ b < w.heap.size ∧ ∀ i z, gs[i]? = some z → w.cell? ⟨b, off + i, none⟩ = some (.int .u8 z))
theorem BytesIn.get {w w2 : World} {a : Option Addr} {gs : List Int} {i : Nat} (h : BytesIn w a gs) (hb : Below w.heap.size w w2) (hi : i < gs.length) : ∃ b off z, a = some ⟨b, off, none⟩ ∧ gs[i]? = some z ∧ w2.cell? ⟨b, off + i, none⟩ = some (.int .u8 z) ∧ 0 ≤ z ∧ z < 256 := by
  have hx : gs[i]? = some gs[i] := List.getElem?_eq_getElem hi
  rcases h.2 with h' | ⟨b, off, rfl, hlt, h'⟩
  · rw [h'] at hi; cases hi
  · exact ⟨b, off, _, rfl, hx, by rw [hb.cell (p := ⟨b, _, none⟩) hlt]; exact h' i _ hx, h.1 _ (List.getElem_mem hi)⟩
set_option maxRecDepth 100000 in
theorem open_gaps {H : Type} {enc : TypeId × Value → H} {w : World} {base : Nat} {spare : Nat → Bool} {held : Bool} {a : Option Addr} {n cap : Nat} {d : DataW H} {p : List MemPlace}
    (h : DataW.Trod enc Try.prog w base spare held 68 (.slice a n cap) d p) : ∃ gs : List Int, gs.length = n ∧ BytesIn w a gs := by
  obtain ⟨fuel, hf⟩ := h
  rcases Go.ChangeShapes.open_ints Try.underlying68 Try.underlying5 cellsU8 hf with ⟨hcs, hx⟩ | ⟨a', len, cap', zs, hcs, _, hl, hm, hz, hx, hcell, hwz⟩
  · simp [Value.cells] at hcs
    exact ⟨[], hcs.2.1.symm, by simp, .inl rfl⟩
  · simp [Value.cells] at hcs
    obtain ⟨rfl, rfl, rfl⟩ := hcs
    have hlm : n ≤ zs.length := by rw [hz]; split <;> omega
    by_cases hn : n = 0
    · exact ⟨[], hn.symm, by simp, .inl rfl⟩
    obtain ⟨b, off, spot⟩ := a'
    have hs : spot = none := by
      have := World.cell?_spot (hcell 0 (by omega))
      simpa [Addr.add] using this
    subst hs
    refine ⟨zs.take n, by simp; omega, fun z hz => ?_, .inr ⟨b, off, rfl, ?_, fun i z hi => ?_⟩⟩
    · have hw := hwz z (List.mem_of_mem_take hz)
      have e : IntKind.u8.min = 0 := rfl
      have e2 : IntKind.u8.max = 255 := rfl
      simp [Lit.wf] at hw
      omega
    · have := World.block_lt_of_cell? w _ (hcell 0 (by omega))
      simpa [Addr.add] using this
    · have hin : i < n := by
        have := (List.getElem?_eq_some_iff.1 hi).1
        simp at this; omega
      have h1 : zs[i]? = some z := by rw [List.getElem?_take, if_pos hin] at hi; exact hi
      have h2 := hcell i (by omega)
      rw [Addr.add_mid, List.getD_eq_getElem?_getD, h1] at h2
      exact h2
end Go.Proofs.Ytibmmonboeifhaa
