/-
  No cell of these rows narrows 'for every input' (looked for: loops, veiled, ifaces, maps, wideKeys, modest, calm, conditions, laid).
  DERIVED. THE GIVEN ROWS OF THIS SEAT. 6 by the template 'for every input the law returns true; each argument reads behind the call as it read before'; 0 by the template 'total and deterministic' (their statements: YtibmmonboeifhaaTotals.lean).
  GIVEN WITH THE SEED: the statements are not yours to turn. If you find one false, say at which input.
  Laid BY PROGRAM, IN A SANDBOX (cutbox-rows.mjs): the forced cells as the released guide's own fill.sh prints them over the translation acda018b60c7480f… (all of the seat's roots in one cut). By AI agents, Wed Nov 11 2026. No macro, syntax, notation, axiom, sorry.
-/
import Derived.Test.YtibmmonboeifhaaChecked
import GoSem.Claim
import GoSem.ClaimJoined
import GoSem.ClaimMapViews
import Derived.JoinedTies
import Derived.KernelRfl
namespace Go.Proofs.Ytibmmonboeifhaa
/- THE CELL 'sum', in the pinned program and in every row, IS THE sha256 OF THE DUMP (.gsa) THAT YtibmmonboeifhaaProg.lean LOADS. Nothing in Lean hashes anything: it is a label: what it is worth is what the hold of that sum in a sandbox is worth. -/
noncomputable def Try.pinned : Pinned := { name := "ytibmmonboeifhaa", sum := "acda018b60c7480f639a264fcf716524599224de78fbf289a4b0c78631b1f7c1", checked := Try.checked }
namespace Rows
def none {H : Type} : Left H := { results := [], args := [] }

/-- 'orpimentlaw02.ReadyPlays': WHATEVER THE INPUT: true; the input reads as it did. -/
def readyPlaysSpec : ChangeSpec := { name := "readyPlays", fn := fun _ => fun
  | [d] => { results := [.lit (.bool true)], args := [d] }
  | _ => none }
def readyPlaysRow : OpenClaim := { program := "ytibmmonboeifhaa", sum := "acda018b60c7480f639a264fcf716524599224de78fbf289a4b0c78631b1f7c1", func := "orpiment/orpimentlaw02.ReadyPlays", spec := "readyPlays", unfollowed := true, recurses := true, apart := false }
def ReadyPlaysSaid : Prop := readyPlaysRow.holds Try.pinned (OpenSpec.ofChange readyPlaysSpec)

/-- ITS FALSE NEIGHBOUR: 'it returns false'. Refute it at one input. -/
def readyPlaysWrong : ChangeSpec := { name := "readyPlays", fn := fun _ => fun
  | [d] => { results := [.lit (.bool false)], args := [d] }
  | _ => none }
def ReadyPlaysWrongFalsely : Prop := readyPlaysRow.holds Try.pinned (OpenSpec.ofChange readyPlaysWrong)

/-- 'orpimentlaw02.ReadyFIFO': WHATEVER THE INPUT: true; the input reads as it did. -/
def readyFIFOSpec : ChangeSpec := { name := "readyFIFO", fn := fun _ => fun
  | [d1, d2] => { results := [.lit (.bool true)], args := [d1, d2] }
  | _ => none }
def readyFIFORow : OpenClaim := { program := "ytibmmonboeifhaa", sum := "acda018b60c7480f639a264fcf716524599224de78fbf289a4b0c78631b1f7c1", func := "orpiment/orpimentlaw02.ReadyFIFO", spec := "readyFIFO", unfollowed := true, recurses := true, apart := false }
def ReadyFIFOSaid : Prop := readyFIFORow.holds Try.pinned (OpenSpec.ofChange readyFIFOSpec)

/-- ITS FALSE NEIGHBOUR: 'it returns false'. Refute it at one input. -/
def readyFIFOWrong : ChangeSpec := { name := "readyFIFO", fn := fun _ => fun
  | [d1, d2] => { results := [.lit (.bool false)], args := [d1, d2] }
  | _ => none }
def ReadyFIFOWrongFalsely : Prop := readyFIFORow.holds Try.pinned (OpenSpec.ofChange readyFIFOWrong)

/-- 'orpimentlaw02.ReadyRotates': WHATEVER THE INPUT: true; the input reads as it did. -/
def readyRotatesSpec : ChangeSpec := { name := "readyRotates", fn := fun _ => fun
  | [d1, d2] => { results := [.lit (.bool true)], args := [d1, d2] }
  | _ => none }
def readyRotatesRow : OpenClaim := { program := "ytibmmonboeifhaa", sum := "acda018b60c7480f639a264fcf716524599224de78fbf289a4b0c78631b1f7c1", func := "orpiment/orpimentlaw02.ReadyRotates", spec := "readyRotates", unfollowed := true, recurses := true, apart := false }
def ReadyRotatesSaid : Prop := readyRotatesRow.holds Try.pinned (OpenSpec.ofChange readyRotatesSpec)

/-- ITS FALSE NEIGHBOUR: 'it returns false'. Refute it at one input. -/
def readyRotatesWrong : ChangeSpec := { name := "readyRotates", fn := fun _ => fun
  | [d1, d2] => { results := [.lit (.bool false)], args := [d1, d2] }
  | _ => none }
def ReadyRotatesWrongFalsely : Prop := readyRotatesRow.holds Try.pinned (OpenSpec.ofChange readyRotatesWrong)

/-- 'orpimentlaw03.SporadicPlays': WHATEVER THE INPUT: true; the input reads as it did. -/
def sporadicPlaysSpec : ChangeSpec := { name := "sporadicPlays", fn := fun _ => fun
  | [d1, d2] => { results := [.lit (.bool true)], args := [d1, d2] }
  | _ => none }
def sporadicPlaysRow : OpenClaim := { program := "ytibmmonboeifhaa", sum := "acda018b60c7480f639a264fcf716524599224de78fbf289a4b0c78631b1f7c1", func := "orpiment/orpimentlaw03.SporadicPlays", spec := "sporadicPlays", unfollowed := true, recurses := true, apart := false }
def SporadicPlaysSaid : Prop := sporadicPlaysRow.holds Try.pinned (OpenSpec.ofChange sporadicPlaysSpec)

/-- ITS FALSE NEIGHBOUR: 'it returns false'. Refute it at one input. -/
def sporadicPlaysWrong : ChangeSpec := { name := "sporadicPlays", fn := fun _ => fun
  | [d1, d2] => { results := [.lit (.bool false)], args := [d1, d2] }
  | _ => none }
def SporadicPlaysWrongFalsely : Prop := sporadicPlaysRow.holds Try.pinned (OpenSpec.ofChange sporadicPlaysWrong)

/-- 'orpimentlaw03.SporadicBounds': WHATEVER THE INPUT: true; the input reads as it did. -/
def sporadicBoundsSpec : ChangeSpec := { name := "sporadicBounds", fn := fun _ => fun
  | [d1, d2] => { results := [.lit (.bool true)], args := [d1, d2] }
  | _ => none }
def sporadicBoundsRow : OpenClaim := { program := "ytibmmonboeifhaa", sum := "acda018b60c7480f639a264fcf716524599224de78fbf289a4b0c78631b1f7c1", func := "orpiment/orpimentlaw03.SporadicBounds", spec := "sporadicBounds", unfollowed := true, recurses := true, apart := false }
def SporadicBoundsSaid : Prop := sporadicBoundsRow.holds Try.pinned (OpenSpec.ofChange sporadicBoundsSpec)

/-- ITS FALSE NEIGHBOUR: 'it returns false'. Refute it at one input. -/
def sporadicBoundsWrong : ChangeSpec := { name := "sporadicBounds", fn := fun _ => fun
  | [d1, d2] => { results := [.lit (.bool false)], args := [d1, d2] }
  | _ => none }
def SporadicBoundsWrongFalsely : Prop := sporadicBoundsRow.holds Try.pinned (OpenSpec.ofChange sporadicBoundsWrong)

/-- 'orpimentlaw03.SporadicSums': WHATEVER THE INPUT: true; the input reads as it did. -/
def sporadicSumsSpec : ChangeSpec := { name := "sporadicSums", fn := fun _ => fun
  | [d1, d2] => { results := [.lit (.bool true)], args := [d1, d2] }
  | _ => none }
def sporadicSumsRow : OpenClaim := { program := "ytibmmonboeifhaa", sum := "acda018b60c7480f639a264fcf716524599224de78fbf289a4b0c78631b1f7c1", func := "orpiment/orpimentlaw03.SporadicSums", spec := "sporadicSums", unfollowed := true, recurses := true, apart := false }
def SporadicSumsSaid : Prop := sporadicSumsRow.holds Try.pinned (OpenSpec.ofChange sporadicSumsSpec)

/-- ITS FALSE NEIGHBOUR: 'it returns false'. Refute it at one input. -/
def sporadicSumsWrong : ChangeSpec := { name := "sporadicSums", fn := fun _ => fun
  | [d1, d2] => { results := [.lit (.bool false)], args := [d1, d2] }
  | _ => none }
def SporadicSumsWrongFalsely : Prop := sporadicSumsRow.holds Try.pinned (OpenSpec.ofChange sporadicSumsWrong)

/- THE SECOND FORM. 'bulk': how many values and letters a reading holds, each counted each time it is reached (what is shared counts as often as it is met; a slice's spare places count too). A statement '..UptoSaid' is the law's where the arguments, and the package variables that the reading takes, are together of bulk at most 1048576: NARROWER than '..Said'. Prove '..Said' where nothing that the law and all that it calls make is longer than what came in: it says more and counts as full. Else prove '..UptoSaid'. A law counts once. -/
mutual
def uptoBulk {H : Type} : DataW H → Nat
  | .lit (.string bytes) => bytes.length + 1
  | .lit _ => 1
  | .nil => 1
  | .ptr d => uptoBulk d + 1
  | .slice elems spare => uptoBulkAll elems + uptoBulkAll spare + 1
  | .agg parts => uptoBulkAll parts + 1
  | .iface _ d => uptoBulk d + 1
  | .map entries => uptoBulkEntries entries + 1
  | .held _ => 1
def uptoBulkAll {H : Type} : List (DataW H) → Nat
  | [] => 0
  | d :: r => uptoBulk d + uptoBulkAll r
def uptoBulkEntries {H : Type} : List (Lit × DataW H) → Nat
  | [] => 0
  | x :: r => uptoBulkEntry x + uptoBulkEntries r
def uptoBulkEntry {H : Type} : Lit × DataW H → Nat
  | (.string bytes, d) => bytes.length + uptoBulk d + 1
  | (_, d) => uptoBulk d + 1
 end
def uptoSmall : (H : Type) → List (DataW H) → Bool := fun _ ds => decide (uptoBulkAll ds ≤ 1048576)
def OpenSpec.upto (s : _root_.Go.ChangeSpec) : _root_.Go.OpenSpec := { _root_.Go.OpenSpec.ofChange s with cond := some uptoSmall }

/-- 'orpimentlaw02.ReadyPlays', WHERE WHAT IT READS IS OF BULK AT MOST 1048576: true; the input reads as it did. -/
def readyPlaysUptoRow : OpenClaim := { program := "ytibmmonboeifhaa", sum := "acda018b60c7480f639a264fcf716524599224de78fbf289a4b0c78631b1f7c1", func := "orpiment/orpimentlaw02.ReadyPlays", spec := "readyPlays", unfollowed := true, recurses := true, apart := false, narrowed := true }
def ReadyPlaysUptoSaid : Prop := readyPlaysUptoRow.holds Try.pinned (OpenSpec.upto readyPlaysSpec)

/-- 'orpimentlaw02.ReadyFIFO', WHERE WHAT IT READS IS OF BULK AT MOST 1048576: true; the input reads as it did. -/
def readyFIFOUptoRow : OpenClaim := { program := "ytibmmonboeifhaa", sum := "acda018b60c7480f639a264fcf716524599224de78fbf289a4b0c78631b1f7c1", func := "orpiment/orpimentlaw02.ReadyFIFO", spec := "readyFIFO", unfollowed := true, recurses := true, apart := false, narrowed := true }
def ReadyFIFOUptoSaid : Prop := readyFIFOUptoRow.holds Try.pinned (OpenSpec.upto readyFIFOSpec)

/-- 'orpimentlaw02.ReadyRotates', WHERE WHAT IT READS IS OF BULK AT MOST 1048576: true; the input reads as it did. -/
def readyRotatesUptoRow : OpenClaim := { program := "ytibmmonboeifhaa", sum := "acda018b60c7480f639a264fcf716524599224de78fbf289a4b0c78631b1f7c1", func := "orpiment/orpimentlaw02.ReadyRotates", spec := "readyRotates", unfollowed := true, recurses := true, apart := false, narrowed := true }
def ReadyRotatesUptoSaid : Prop := readyRotatesUptoRow.holds Try.pinned (OpenSpec.upto readyRotatesSpec)

/-- 'orpimentlaw03.SporadicPlays', WHERE WHAT IT READS IS OF BULK AT MOST 1048576: true; the input reads as it did. -/
def sporadicPlaysUptoRow : OpenClaim := { program := "ytibmmonboeifhaa", sum := "acda018b60c7480f639a264fcf716524599224de78fbf289a4b0c78631b1f7c1", func := "orpiment/orpimentlaw03.SporadicPlays", spec := "sporadicPlays", unfollowed := true, recurses := true, apart := false, narrowed := true }
def SporadicPlaysUptoSaid : Prop := sporadicPlaysUptoRow.holds Try.pinned (OpenSpec.upto sporadicPlaysSpec)

/-- 'orpimentlaw03.SporadicBounds', WHERE WHAT IT READS IS OF BULK AT MOST 1048576: true; the input reads as it did. -/
def sporadicBoundsUptoRow : OpenClaim := { program := "ytibmmonboeifhaa", sum := "acda018b60c7480f639a264fcf716524599224de78fbf289a4b0c78631b1f7c1", func := "orpiment/orpimentlaw03.SporadicBounds", spec := "sporadicBounds", unfollowed := true, recurses := true, apart := false, narrowed := true }
def SporadicBoundsUptoSaid : Prop := sporadicBoundsUptoRow.holds Try.pinned (OpenSpec.upto sporadicBoundsSpec)

/-- 'orpimentlaw03.SporadicSums', WHERE WHAT IT READS IS OF BULK AT MOST 1048576: true; the input reads as it did. -/
def sporadicSumsUptoRow : OpenClaim := { program := "ytibmmonboeifhaa", sum := "acda018b60c7480f639a264fcf716524599224de78fbf289a4b0c78631b1f7c1", func := "orpiment/orpimentlaw03.SporadicSums", spec := "sporadicSums", unfollowed := true, recurses := true, apart := false, narrowed := true }
def SporadicSumsUptoSaid : Prop := sporadicSumsUptoRow.holds Try.pinned (OpenSpec.upto sporadicSumsSpec)

end Rows
end Go.Proofs.Ytibmmonboeifhaa
