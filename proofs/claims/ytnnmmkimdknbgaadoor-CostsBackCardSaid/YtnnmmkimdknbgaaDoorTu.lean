/- What the given rows list: the names and the powers of ten lie where the program's text lays them. -/
import Derived.Test.YtnnmmkimdknbgaaDoorTt
import Derived.Test.YtnnmmkimdknbgaaDoorTo
import Derived.Test.YtnnmmkimdknbgaaDoorCards
import Derived.Test.YtnnmmkimdknbgaaDoorTie
import Derived.WalkKit
import Derived.ProofKit
import Derived.OpenShut
import Derived.ShutString
import Derived.Below
import Derived.ChangeOld
import Derived.Deep.DeepHandedRow
import Derived.Lib.LaidTab
namespace Go.Proofs.YtnnmmkimdknbgaaDoor
open Go.ChangeShapes Go.WideShapes Go.ChangeAt Go.RowKit
set_option linter.unusedVariables false

theorem ownD : ownKnob Tryd.prog.godebug = none := by kernel_rfl
theorem laidOutD : laidOutB Tryd.prog = true := by kernel_rfl
theorem gNames : Tryd.prog.globalNamed "orpiment/costs.names" = some 0 := by kernel_rfl
theorem gNamesType : (Tryd.prog.globals[0]?).map (·.type) = some 86 := by kernel_rfl
theorem gPow : Tryd.prog.globalNamed "internal/strconv.uint64pow10" = some 1 := by kernel_rfl
theorem gPowType : (Tryd.prog.globals[1]?).map (·.type) = some 95 := by kernel_rfl
theorem cellsNames : Tryd.prog.cellsOf 86 = 24 := by kernel_rfl
theorem cellsStr : Tryd.prog.cellsOf 9 = 1 := by kernel_rfl

/-- An array of strings that reads as a table holds the table's strings, cell for cell. -/
theorem cells_of_strs {H : Type} {enc : TypeId × Value → H} {P : Program} {w : World} {base : Nat} {sp : Nat → Bool} {held : Bool} {fuel : Nat} {t e : TypeId} {n : Nat} {cs : List Value} {bs : List (List UInt8)} {p : List MemPlace}
    (ht : P.underlying t = some (.array n e)) (he : P.underlying e = some .string) (hce : P.cellsOf e = 1) (hct : P.cellsOf t = n)
    (h : DataW.trod enc P w base sp held fuel t cs = some (.agg (bs.map fun b => .lit (.string b)), p)) : cs = bs.map fun b => Value.string ⟨b.toArray⟩ := by
  obtain ⟨xs, m, rfl, hx, hlen, hn, hel⟩ := DataW.trod_array ht h
  simp only [Prod.mk.injEq, DataW.agg.injEq] at hx
  have hbl : bs.length = n := by
    have := congrArg List.length hx.1
    simp at this
    omega
  apply List.ext_getElem?
  intro i
  by_cases hi : i < n
  · have h1 := hel i hi
    rw [hce, Nat.mul_one, List.getElem?_eq_getElem (by omega : i < xs.length)] at h1
    obtain ⟨s, e0, e1, _⟩ := DataW.trod_string he h1
    have h3 : (bs.map fun b => (DataW.lit (.string b) : DataW H))[i]? = (xs.map (·.1))[i]? := by rw [hx.1]
    rw [List.getElem?_map, List.getElem?_map, List.getElem?_eq_getElem (by omega : i < xs.length), List.getElem?_eq_getElem (by omega : i < bs.length)] at h3
    simp only [Option.map_some, Option.some.injEq, e1, DataW.lit.injEq, Lit.string.injEq] at h3
    have h4 : cs[i]? = some (.string s) := by
      have := congrArg (·[0]?) e0
      simpa [List.getElem?_take, List.getElem?_drop] using this
    rw [h4, List.getElem?_map, List.getElem?_eq_getElem (by omega : i < bs.length), Option.map_some, h3]
  · rw [List.getElem?_eq_none (by omega), List.getElem?_eq_none (by simp; omega)]

/-- What the rows' list gives. -/
theorem laid_gives {W : World} (h : laidMet Tryd.prog [("math/bits.deBruijn32tab", Rows.laid_math_bits_deBruijn32tab), ("math/bits.deBruijn64tab", Rows.laid_math_bits_deBruijn64tab), ("internal/strconv.uint64pow10", Rows.laid_internal_strconv_uint64pow10), ("orpiment/costs.names", Rows.laid_orpiment_costs_names)] W) : NamesAt W ∧ P10 W := by
  obtain ⟨ps, ⟨g1, t1, cs1, f1, p1, q1, -, -, -, -, ⟨g2, t2, cs2, f2, p2, q2, -, -, -, -, ⟨g3, t3, cs3, f3, p3, q3, hg3, ht3, hvar3, hd3, ⟨g4, t4, cs4, f4, p4, q4, hg4, ht4, hvar4, hd4, _, _⟩, _⟩, _⟩, _⟩, _⟩ := h
  obtain rfl := Option.some.inj (gNames.symm.trans hg4)
  obtain rfl := Option.some.inj (gNamesType.symm.trans ht4)
  obtain rfl := Option.some.inj (gPow.symm.trans hg3)
  obtain rfl := Option.some.inj (gPowType.symm.trans ht3)
  constructor
  · have e := cells_of_strs (bs := nmB) Tryd.underlying86 Tryd.underlying9 cellsStr cellsNames hd4
    intro k hk
    have h1 := World.var?_cell hg4 hvar4 k
    have h2 : cs4[k]? = some (.string (nm k)) := by
      rw [← Array.getElem?_toList, e, List.getElem?_map, List.getElem?_eq_getElem (show k < nmB.length from hk), Option.map_some]
      simp [nm, List.getD, List.getElem?_eq_getElem (show k < nmB.length from hk)]
    rw [h2] at h1
    exact h1
  · have e := Lib.cells_of_tab (k := .u64) (zs := Lib.pow10Tab) Tryd.underlying95 Tryd.underlying88 (by kernel_rfl) (by kernel_rfl) hd3
    show Lib.TabIs _ _ _ _ _
    unfold Lib.TabIs
    rw [hvar3, ← e]

/-- A block of a world, laid anew. -/
def lay (w : World) (g : Nat) (cs : Array Value) : World := { w with heap := w.heap.modify g fun
  | .cells _ t frozen => .cells cs t frozen
  | o => o }
def bytesOf : DataW Unit → Array Value
  | .agg xs => (xs.map fun
    | .lit (.int k n) => Value.int k n
    | _ => undef).toArray
  | _ => #[]
/-- A world for the witness: the settled one, the variables holding what their initialisers lay. -/
noncomputable def laidWorldD (os : Os) : World :=
  lay (lay (lay (lay (World.holding Tryd.prog os ⟨#[], #[], []⟩) 3 (bytesOf Rows.laid_math_bits_deBruijn32tab)) 4 (bytesOf Rows.laid_math_bits_deBruijn64tab)) 1 (bytesOf Rows.laid_internal_strconv_uint64pow10)) 0 (nmB.map fun b => Value.string ⟨b.toArray⟩).toArray
def zero24 : List Int := [0, 0, 0, 0, 0, 0, 0, 0, 0, 0, 0, 0, 0, 0, 0, 0, 0, 0, 0, 0, 0, 0, 0, 0]
end Go.Proofs.YtnnmmkimdknbgaaDoor
