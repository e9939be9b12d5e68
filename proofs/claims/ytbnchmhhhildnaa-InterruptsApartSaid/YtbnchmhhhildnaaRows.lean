/-
  No cell of these rows narrows 'for every input' (looked for: loops, veiled, ifaces, maps, wideKeys, modest, calm, conditions, laid).
  DERIVED. THE GIVEN ROWS OF THIS SEAT. 6 by the template 'for every input the law returns true; each argument reads behind the call as it read before'; 0 by the template 'total and deterministic' (their statements: YtbnchmhhhildnaaTotals.lean).
  GIVEN WITH THE SEED: the statements are not yours to turn. If you find one false, say at which input.
  Laid BY PROGRAM, IN A SANDBOX (cutbox-rows.mjs): the forced cells as the released guide's own fill.sh prints them over the translation 555fdb23bb55bb0e… (all of the seat's roots in one cut). By AI agents, Wed Nov 11 2026. No macro, syntax, notation, axiom, sorry.
-/
import Derived.Test.YtbnchmhhhildnaaChecked
import GoSem.Claim
import GoSem.ClaimJoined
import GoSem.ClaimMapViews
import Derived.JoinedTies
import Derived.KernelRfl
namespace Go.Proofs.Ytbnchmhhhildnaa
/- THE CELL 'sum', in the pinned program and in every row, IS THE sha256 OF THE DUMP (.gsa) THAT YtbnchmhhhildnaaProg.lean LOADS. Nothing in Lean hashes anything: it is a label: what it is worth is what the hold of that sum in a sandbox is worth. -/
noncomputable def Try.pinned : Pinned := { name := "ytbnchmhhhildnaa", sum := "555fdb23bb55bb0e00efde05a970137b7db3493cb9dde9818ac262576e62942e", checked := Try.checked }
namespace Rows
def none {H : Type} : Left H := { results := [], args := [] }

/-- 'orpimentlaw08.InterruptsCalls': WHATEVER THE INPUT: true; the input reads as it did. -/
def interruptsCallsSpec : ChangeSpec := { name := "interruptsCalls", fn := fun _ => fun
  | [d1, d2] => { results := [.lit (.bool true)], args := [d1, d2] }
  | _ => none }
def interruptsCallsRow : OpenClaim := { program := "ytbnchmhhhildnaa", sum := "555fdb23bb55bb0e00efde05a970137b7db3493cb9dde9818ac262576e62942e", func := "orpiment/orpimentlaw08.InterruptsCalls", spec := "interruptsCalls", inPlace := ["slices.overlaps[int]"], unfollowed := true, recurses := true, plainKeys := false, apart := false }
def InterruptsCallsSaid : Prop := interruptsCallsRow.holds Try.pinned (OpenSpec.ofChange interruptsCallsSpec)

/-- ITS FALSE NEIGHBOUR: 'it returns false'. Refute it at one input. -/
def interruptsCallsWrong : ChangeSpec := { name := "interruptsCalls", fn := fun _ => fun
  | [d1, d2] => { results := [.lit (.bool false)], args := [d1, d2] }
  | _ => none }
def InterruptsCallsWrongFalsely : Prop := interruptsCallsRow.holds Try.pinned (OpenSpec.ofChange interruptsCallsWrong)

/-- 'orpimentlaw08.InterruptsLines': WHATEVER THE INPUT: true; the input reads as it did. -/
def interruptsLinesSpec : ChangeSpec := { name := "interruptsLines", fn := fun _ => fun
  | [d1, d2, d3] => { results := [.lit (.bool true)], args := [d1, d2, d3] }
  | _ => none }
def interruptsLinesRow : OpenClaim := { program := "ytbnchmhhhildnaa", sum := "555fdb23bb55bb0e00efde05a970137b7db3493cb9dde9818ac262576e62942e", func := "orpiment/orpimentlaw08.InterruptsLines", spec := "interruptsLines", inPlace := ["slices.overlaps[int]"], unfollowed := true, recurses := true, plainKeys := false, apart := false }
def InterruptsLinesSaid : Prop := interruptsLinesRow.holds Try.pinned (OpenSpec.ofChange interruptsLinesSpec)

/-- ITS FALSE NEIGHBOUR: 'it returns false'. Refute it at one input. -/
def interruptsLinesWrong : ChangeSpec := { name := "interruptsLines", fn := fun _ => fun
  | [d1, d2, d3] => { results := [.lit (.bool false)], args := [d1, d2, d3] }
  | _ => none }
def InterruptsLinesWrongFalsely : Prop := interruptsLinesRow.holds Try.pinned (OpenSpec.ofChange interruptsLinesWrong)

/-- 'orpimentlaw08.InterruptsMasked': WHATEVER THE INPUT: true; the input reads as it did. -/
def interruptsMaskedSpec : ChangeSpec := { name := "interruptsMasked", fn := fun _ => fun
  | [d1, d2] => { results := [.lit (.bool true)], args := [d1, d2] }
  | _ => none }
def interruptsMaskedRow : OpenClaim := { program := "ytbnchmhhhildnaa", sum := "555fdb23bb55bb0e00efde05a970137b7db3493cb9dde9818ac262576e62942e", func := "orpiment/orpimentlaw08.InterruptsMasked", spec := "interruptsMasked", inPlace := ["slices.overlaps[int]"], unfollowed := true, recurses := true, plainKeys := false, apart := false }
def InterruptsMaskedSaid : Prop := interruptsMaskedRow.holds Try.pinned (OpenSpec.ofChange interruptsMaskedSpec)

/-- ITS FALSE NEIGHBOUR: 'it returns false'. Refute it at one input. -/
def interruptsMaskedWrong : ChangeSpec := { name := "interruptsMasked", fn := fun _ => fun
  | [d1, d2] => { results := [.lit (.bool false)], args := [d1, d2] }
  | _ => none }
def InterruptsMaskedWrongFalsely : Prop := interruptsMaskedRow.holds Try.pinned (OpenSpec.ofChange interruptsMaskedWrong)

/-- 'orpimentlaw08.InterruptsApart': WHATEVER THE INPUT: true; the input reads as it did. -/
def interruptsApartSpec : ChangeSpec := { name := "interruptsApart", fn := fun _ => fun
  | [d1, d2] => { results := [.lit (.bool true)], args := [d1, d2] }
  | _ => none }
def interruptsApartRow : OpenClaim := { program := "ytbnchmhhhildnaa", sum := "555fdb23bb55bb0e00efde05a970137b7db3493cb9dde9818ac262576e62942e", func := "orpiment/orpimentlaw08.InterruptsApart", spec := "interruptsApart", inPlace := ["slices.overlaps[int]"], unfollowed := true, recurses := true, plainKeys := false, apart := false }
def InterruptsApartSaid : Prop := interruptsApartRow.holds Try.pinned (OpenSpec.ofChange interruptsApartSpec)

/-- ITS FALSE NEIGHBOUR: 'it returns false'. Refute it at one input. -/
def interruptsApartWrong : ChangeSpec := { name := "interruptsApart", fn := fun _ => fun
  | [d1, d2] => { results := [.lit (.bool false)], args := [d1, d2] }
  | _ => none }
def InterruptsApartWrongFalsely : Prop := interruptsApartRow.holds Try.pinned (OpenSpec.ofChange interruptsApartWrong)

/-- 'orpimentlaw08.InterruptsNested': WHATEVER THE INPUT: true; the input reads as it did. -/
def interruptsNestedSpec : ChangeSpec := { name := "interruptsNested", fn := fun _ => fun
  | [d1, d2, d3] => { results := [.lit (.bool true)], args := [d1, d2, d3] }
  | _ => none }
def interruptsNestedRow : OpenClaim := { program := "ytbnchmhhhildnaa", sum := "555fdb23bb55bb0e00efde05a970137b7db3493cb9dde9818ac262576e62942e", func := "orpiment/orpimentlaw08.InterruptsNested", spec := "interruptsNested", inPlace := ["slices.overlaps[int]"], unfollowed := true, recurses := true, plainKeys := false, apart := false }
def InterruptsNestedSaid : Prop := interruptsNestedRow.holds Try.pinned (OpenSpec.ofChange interruptsNestedSpec)

/-- ITS FALSE NEIGHBOUR: 'it returns false'. Refute it at one input. -/
def interruptsNestedWrong : ChangeSpec := { name := "interruptsNested", fn := fun _ => fun
  | [d1, d2, d3] => { results := [.lit (.bool false)], args := [d1, d2, d3] }
  | _ => none }
def InterruptsNestedWrongFalsely : Prop := interruptsNestedRow.holds Try.pinned (OpenSpec.ofChange interruptsNestedWrong)

/-- 'orpimentlaw08.InterruptsNil': WHATEVER THE INPUT: true; the input reads as it did. -/
def interruptsNilSpec : ChangeSpec := { name := "interruptsNil", fn := fun _ => fun
  | [d] => { results := [.lit (.bool true)], args := [d] }
  | _ => none }
def interruptsNilRow : OpenClaim := { program := "ytbnchmhhhildnaa", sum := "555fdb23bb55bb0e00efde05a970137b7db3493cb9dde9818ac262576e62942e", func := "orpiment/orpimentlaw08.InterruptsNil", spec := "interruptsNil", inPlace := ["slices.overlaps[int]"], unfollowed := true, recurses := true, plainKeys := false, apart := false }
def InterruptsNilSaid : Prop := interruptsNilRow.holds Try.pinned (OpenSpec.ofChange interruptsNilSpec)

/-- ITS FALSE NEIGHBOUR: 'it returns false'. Refute it at one input. -/
def interruptsNilWrong : ChangeSpec := { name := "interruptsNil", fn := fun _ => fun
  | [d] => { results := [.lit (.bool false)], args := [d] }
  | _ => none }
def InterruptsNilWrongFalsely : Prop := interruptsNilRow.holds Try.pinned (OpenSpec.ofChange interruptsNilWrong)

/- THE SECOND FORM. 'bulk': how many values and letters a reading holds, each counted each time it is reached (what is shared counts as often as it is met; a slice's spare places count too). A statement '..UptoSaid' is the law's where the arguments, and the package variables that the reading takes, are together of bulk at most 1048576: NARROWER than '..Said'. Prove '..Said' where nothing that the law and all that it calls make is longer than what came in: it says more and counts as full. Else prove '..UptoSaid'. A law counts once. -/
mutual
def uptoBulk {H : Type} : DataW H → Nat
  | .lit (.string bytes) => bytes.length + 1
  | .lit _ => 1
  | .nil => 1
  | .ptr d => uptoBulk d + 1
  | .slice elems spare => uptoBulkAll elems + uptoBulkAll spare + 1
  | .agg parts => uptoBulkAll parts + 1
  | .iface _ d => uptoBulk d + 1
  | .map entries => uptoBulkEntries entries + 1
  | .held _ => 1
def uptoBulkAll {H : Type} : List (DataW H) → Nat
  | [] => 0
  | d :: r => uptoBulk d + uptoBulkAll r
def uptoBulkEntries {H : Type} : List (Lit × DataW H) → Nat
  | [] => 0
  | x :: r => uptoBulkEntry x + uptoBulkEntries r
def uptoBulkEntry {H : Type} : Lit × DataW H → Nat
  | (.string bytes, d) => bytes.length + uptoBulk d + 1
  | (_, d) => uptoBulk d + 1
 end
def uptoSmall : (H : Type) → List (DataW H) → Bool := fun _ ds => decide (uptoBulkAll ds ≤ 1048576)
def OpenSpec.upto (s : _root_.Go.ChangeSpec) : _root_.Go.OpenSpec := { _root_.Go.OpenSpec.ofChange s with cond := some uptoSmall }

/-- 'orpimentlaw08.InterruptsCalls', WHERE WHAT IT READS IS OF BULK AT MOST 1048576: true; the input reads as it did. -/
def interruptsCallsUptoRow : OpenClaim := { program := "ytbnchmhhhildnaa", sum := "555fdb23bb55bb0e00efde05a970137b7db3493cb9dde9818ac262576e62942e", func := "orpiment/orpimentlaw08.InterruptsCalls", spec := "interruptsCalls", inPlace := ["slices.overlaps[int]"], unfollowed := true, recurses := true, plainKeys := false, apart := false, narrowed := true }
def InterruptsCallsUptoSaid : Prop := interruptsCallsUptoRow.holds Try.pinned (OpenSpec.upto interruptsCallsSpec)

/-- 'orpimentlaw08.InterruptsLines', WHERE WHAT IT READS IS OF BULK AT MOST 1048576: true; the input reads as it did. -/
def interruptsLinesUptoRow : OpenClaim := { program := "ytbnchmhhhildnaa", sum := "555fdb23bb55bb0e00efde05a970137b7db3493cb9dde9818ac262576e62942e", func := "orpiment/orpimentlaw08.InterruptsLines", spec := "interruptsLines", inPlace := ["slices.overlaps[int]"], unfollowed := true, recurses := true, plainKeys := false, apart := false, narrowed := true }
def InterruptsLinesUptoSaid : Prop := interruptsLinesUptoRow.holds Try.pinned (OpenSpec.upto interruptsLinesSpec)

/-- 'orpimentlaw08.InterruptsMasked', WHERE WHAT IT READS IS OF BULK AT MOST 1048576: true; the input reads as it did. -/
def interruptsMaskedUptoRow : OpenClaim := { program := "ytbnchmhhhildnaa", sum := "555fdb23bb55bb0e00efde05a970137b7db3493cb9dde9818ac262576e62942e", func := "orpiment/orpimentlaw08.InterruptsMasked", spec := "interruptsMasked", inPlace := ["slices.overlaps[int]"], unfollowed := true, recurses := true, plainKeys := false, apart := false, narrowed := true }
def InterruptsMaskedUptoSaid : Prop := interruptsMaskedUptoRow.holds Try.pinned (OpenSpec.upto interruptsMaskedSpec)

/-- 'orpimentlaw08.InterruptsApart', WHERE WHAT IT READS IS OF BULK AT MOST 1048576: true; the input reads as it did. -/
def interruptsApartUptoRow : OpenClaim := { program := "ytbnchmhhhildnaa", sum := "555fdb23bb55bb0e00efde05a970137b7db3493cb9dde9818ac262576e62942e", func := "orpiment/orpimentlaw08.InterruptsApart", spec := "interruptsApart", inPlace := ["slices.overlaps[int]"], unfollowed := true, recurses := true, plainKeys := false, apart := false, narrowed := true }
def InterruptsApartUptoSaid : Prop := interruptsApartUptoRow.holds Try.pinned (OpenSpec.upto interruptsApartSpec)

/-- 'orpimentlaw08.InterruptsNested', WHERE WHAT IT READS IS OF BULK AT MOST 1048576: true; the input reads as it did. -/
def interruptsNestedUptoRow : OpenClaim := { program := "ytbnchmhhhildnaa", sum := "555fdb23bb55bb0e00efde05a970137b7db3493cb9dde9818ac262576e62942e", func := "orpiment/orpimentlaw08.InterruptsNested", spec := "interruptsNested", inPlace := ["slices.overlaps[int]"], unfollowed := true, recurses := true, plainKeys := false, apart := false, narrowed := true }
def InterruptsNestedUptoSaid : Prop := interruptsNestedUptoRow.holds Try.pinned (OpenSpec.upto interruptsNestedSpec)

/-- 'orpimentlaw08.InterruptsNil', WHERE WHAT IT READS IS OF BULK AT MOST 1048576: true; the input reads as it did. -/
def interruptsNilUptoRow : OpenClaim := { program := "ytbnchmhhhildnaa", sum := "555fdb23bb55bb0e00efde05a970137b7db3493cb9dde9818ac262576e62942e", func := "orpiment/orpimentlaw08.InterruptsNil", spec := "interruptsNil", inPlace := ["slices.overlaps[int]"], unfollowed := true, recurses := true, plainKeys := false, apart := false, narrowed := true }
def InterruptsNilUptoSaid : Prop := interruptsNilUptoRow.holds Try.pinned (OpenSpec.upto interruptsNilSpec)

end Rows
end Go.Proofs.Ytbnchmhhhildnaa
