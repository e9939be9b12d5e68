/-
  No cell of these rows narrows 'for every input' (looked for: loops, veiled, ifaces, maps, wideKeys, modest, calm, conditions, laid).
  DERIVED. THE GIVEN ROWS OF THIS SEAT. 6 by the template 'for every input the law returns true; each argument reads behind the call as it read before'; 0 by the template 'total and deterministic' (their statements: YtjaaljcdaamcjaaGreatTotals.lean).
  GIVEN WITH THE SEED: the statements are not yours to turn. If you find one false, say at which input.
  Laid BY PROGRAM, IN A SANDBOX (cutbox-rows.mjs): the forced cells as the released guide's own fill.sh prints them over the translation cfc07f4d434d5861… (all of the seat's roots in one cut). By AI agents, Wed Nov 11 2026. No macro, syntax, notation, axiom, sorry.
-/
import Derived.Test.YtjaaljcdaamcjaaGreatChecked
import GoSem.Claim
import GoSem.ClaimJoined
import GoSem.ClaimMapViews
import Derived.JoinedTies
import Derived.KernelRfl
namespace Go.Proofs.YtjaaljcdaamcjaaGreat
/- THE CELL 'sum', in the pinned program and in every row, IS THE sha256 OF THE DUMP (.gsa) THAT YtjaaljcdaamcjaaGreatProg.lean LOADS. Nothing in Lean hashes anything: it is a label: what it is worth is what the hold of that sum in a sandbox is worth. -/
noncomputable def Tryz.pinned : Pinned := { name := "ytjaaljcdaamcjaagreat", sum := "cfc07f4d434d58612c0e5227a7d571b6253c5352a37e0b7d4eb383c470af5a74", checked := Tryz.checked }
namespace Rows
def none {H : Type} : Left H := { results := [], args := [] }

/-- 'orpimentlaw06.SchedPlays': WHATEVER THE INPUT: true; the input reads as it did. -/
def schedPlaysSpec : ChangeSpec := { name := "schedPlays", fn := fun _ => fun
  | [d1, d2] => { results := [.lit (.bool true)], args := [d1, d2] }
  | _ => none }
def schedPlaysRow : OpenClaim := { program := "ytjaaljcdaamcjaagreat", sum := "cfc07f4d434d58612c0e5227a7d571b6253c5352a37e0b7d4eb383c470af5a74", func := "orpiment/orpimentlaw06.SchedPlays", spec := "schedPlays", unfollowed := true, recurses := true, apart := false }
def SchedPlaysSaid : Prop := schedPlaysRow.holds Tryz.pinned (OpenSpec.ofChange schedPlaysSpec)

/-- ITS FALSE NEIGHBOUR: 'it returns false'. Refute it at one input. -/
def schedPlaysWrong : ChangeSpec := { name := "schedPlays", fn := fun _ => fun
  | [d1, d2] => { results := [.lit (.bool false)], args := [d1, d2] }
  | _ => none }
def SchedPlaysWrongFalsely : Prop := schedPlaysRow.holds Tryz.pinned (OpenSpec.ofChange schedPlaysWrong)

/-- 'orpimentlaw06.SchedTicks': WHATEVER THE INPUT: true; the input reads as it did. -/
def schedTicksSpec : ChangeSpec := { name := "schedTicks", fn := fun _ => fun
  | [d1, d2] => { results := [.lit (.bool true)], args := [d1, d2] }
  | _ => none }
def schedTicksRow : OpenClaim := { program := "ytjaaljcdaamcjaagreat", sum := "cfc07f4d434d58612c0e5227a7d571b6253c5352a37e0b7d4eb383c470af5a74", func := "orpiment/orpimentlaw06.SchedTicks", spec := "schedTicks", unfollowed := true, recurses := true, apart := false }
def SchedTicksSaid : Prop := schedTicksRow.holds Tryz.pinned (OpenSpec.ofChange schedTicksSpec)

/-- ITS FALSE NEIGHBOUR: 'it returns false'. Refute it at one input. -/
def schedTicksWrong : ChangeSpec := { name := "schedTicks", fn := fun _ => fun
  | [d1, d2] => { results := [.lit (.bool false)], args := [d1, d2] }
  | _ => none }
def SchedTicksWrongFalsely : Prop := schedTicksRow.holds Tryz.pinned (OpenSpec.ofChange schedTicksWrong)

/-- 'orpimentlaw06.SchedRules': WHATEVER THE INPUT: true; the input reads as it did. -/
def schedRulesSpec : ChangeSpec := { name := "schedRules", fn := fun _ => fun
  | [d1, d2] => { results := [.lit (.bool true)], args := [d1, d2] }
  | _ => none }
def schedRulesRow : OpenClaim := { program := "ytjaaljcdaamcjaagreat", sum := "cfc07f4d434d58612c0e5227a7d571b6253c5352a37e0b7d4eb383c470af5a74", func := "orpiment/orpimentlaw06.SchedRules", spec := "schedRules", unfollowed := true, recurses := true, apart := false }
def SchedRulesSaid : Prop := schedRulesRow.holds Tryz.pinned (OpenSpec.ofChange schedRulesSpec)

/-- ITS FALSE NEIGHBOUR: 'it returns false'. Refute it at one input. -/
def schedRulesWrong : ChangeSpec := { name := "schedRules", fn := fun _ => fun
  | [d1, d2] => { results := [.lit (.bool false)], args := [d1, d2] }
  | _ => none }
def SchedRulesWrongFalsely : Prop := schedRulesRow.holds Tryz.pinned (OpenSpec.ofChange schedRulesWrong)

/-- 'orpimentlaw06.SchedRounds': WHATEVER THE INPUT: true; the input reads as it did. -/
def schedRoundsSpec : ChangeSpec := { name := "schedRounds", fn := fun _ => fun
  | [d1, d2] => { results := [.lit (.bool true)], args := [d1, d2] }
  | _ => none }
def schedRoundsRow : OpenClaim := { program := "ytjaaljcdaamcjaagreat", sum := "cfc07f4d434d58612c0e5227a7d571b6253c5352a37e0b7d4eb383c470af5a74", func := "orpiment/orpimentlaw06.SchedRounds", spec := "schedRounds", unfollowed := true, recurses := true, apart := false }
def SchedRoundsSaid : Prop := schedRoundsRow.holds Tryz.pinned (OpenSpec.ofChange schedRoundsSpec)

/-- ITS FALSE NEIGHBOUR: 'it returns false'. Refute it at one input. -/
def schedRoundsWrong : ChangeSpec := { name := "schedRounds", fn := fun _ => fun
  | [d1, d2] => { results := [.lit (.bool false)], args := [d1, d2] }
  | _ => none }
def SchedRoundsWrongFalsely : Prop := schedRoundsRow.holds Tryz.pinned (OpenSpec.ofChange schedRoundsWrong)

/-- 'orpimentlaw06.SchedNil': WHATEVER THE INPUT: true; the input reads as it did. -/
def schedNilSpec : ChangeSpec := { name := "schedNil", fn := fun _ => fun
  | [d] => { results := [.lit (.bool true)], args := [d] }
  | _ => none }
def schedNilRow : OpenClaim := { program := "ytjaaljcdaamcjaagreat", sum := "cfc07f4d434d58612c0e5227a7d571b6253c5352a37e0b7d4eb383c470af5a74", func := "orpiment/orpimentlaw06.SchedNil", spec := "schedNil", unfollowed := true, recurses := true, apart := false }
def SchedNilSaid : Prop := schedNilRow.holds Tryz.pinned (OpenSpec.ofChange schedNilSpec)

/-- ITS FALSE NEIGHBOUR: 'it returns false'. Refute it at one input. -/
def schedNilWrong : ChangeSpec := { name := "schedNil", fn := fun _ => fun
  | [d] => { results := [.lit (.bool false)], args := [d] }
  | _ => none }
def SchedNilWrongFalsely : Prop := schedNilRow.holds Tryz.pinned (OpenSpec.ofChange schedNilWrong)

/-- 'orpimenttop.TopShares': WHATEVER THE INPUT: true; the input reads as it did. -/
def topSharesSpec : ChangeSpec := { name := "topShares", fn := fun _ => fun
  | [d1, d2] => { results := [.lit (.bool true)], args := [d1, d2] }
  | _ => none }
def topSharesRow : OpenClaim := { program := "ytjaaljcdaamcjaagreat", sum := "cfc07f4d434d58612c0e5227a7d571b6253c5352a37e0b7d4eb383c470af5a74", func := "orpiment/orpimenttop.TopShares", spec := "topShares", unfollowed := true, recurses := true, apart := false }
def TopSharesSaid : Prop := topSharesRow.holds Tryz.pinned (OpenSpec.ofChange topSharesSpec)

/-- ITS FALSE NEIGHBOUR: 'it returns false'. Refute it at one input. -/
def topSharesWrong : ChangeSpec := { name := "topShares", fn := fun _ => fun
  | [d1, d2] => { results := [.lit (.bool false)], args := [d1, d2] }
  | _ => none }
def TopSharesWrongFalsely : Prop := topSharesRow.holds Tryz.pinned (OpenSpec.ofChange topSharesWrong)

/- THE SECOND FORM. 'bulk': how many values and letters a reading holds, each counted each time it is reached (what is shared counts as often as it is met; a slice's spare places count too). A statement '..UptoSaid' is the law's where the arguments, and the package variables that the reading takes, are together of bulk at most 1048576: NARROWER than '..Said'. Prove '..Said' where nothing that the law and all that it calls make is longer than what came in: it says more and counts as full. Else prove '..UptoSaid'. A law counts once. -/
mutual
def uptoBulk {H : Type} : DataW H → Nat
  | .lit (.string bytes) => bytes.length + 1
  | .lit _ => 1
  | .nil => 1
  | .ptr d => uptoBulk d + 1
  | .slice elems spare => uptoBulkAll elems + uptoBulkAll spare + 1
  | .agg parts => uptoBulkAll parts + 1
  | .iface _ d => uptoBulk d + 1
  | .map entries => uptoBulkEntries entries + 1
  | .held _ => 1
def uptoBulkAll {H : Type} : List (DataW H) → Nat
  | [] => 0
  | d :: r => uptoBulk d + uptoBulkAll r
def uptoBulkEntries {H : Type} : List (Lit × DataW H) → Nat
  | [] => 0
  | x :: r => uptoBulkEntry x + uptoBulkEntries r
def uptoBulkEntry {H : Type} : Lit × DataW H → Nat
  | (.string bytes, d) => bytes.length + uptoBulk d + 1
  | (_, d) => uptoBulk d + 1
 end
def uptoSmall : (H : Type) → List (DataW H) → Bool := fun _ ds => decide (uptoBulkAll ds ≤ 1048576)
def OpenSpec.upto (s : _root_.Go.ChangeSpec) : _root_.Go.OpenSpec := { _root_.Go.OpenSpec.ofChange s with cond := some uptoSmall }

/-- 'orpimentlaw06.SchedPlays', WHERE WHAT IT READS IS OF BULK AT MOST 1048576: true; the input reads as it did. -/
def schedPlaysUptoRow : OpenClaim := { program := "ytjaaljcdaamcjaagreat", sum := "cfc07f4d434d58612c0e5227a7d571b6253c5352a37e0b7d4eb383c470af5a74", func := "orpiment/orpimentlaw06.SchedPlays", spec := "schedPlays", unfollowed := true, recurses := true, apart := false, narrowed := true }
def SchedPlaysUptoSaid : Prop := schedPlaysUptoRow.holds Tryz.pinned (OpenSpec.upto schedPlaysSpec)

/-- 'orpimentlaw06.SchedTicks', WHERE WHAT IT READS IS OF BULK AT MOST 1048576: true; the input reads as it did. -/
def schedTicksUptoRow : OpenClaim := { program := "ytjaaljcdaamcjaagreat", sum := "cfc07f4d434d58612c0e5227a7d571b6253c5352a37e0b7d4eb383c470af5a74", func := "orpiment/orpimentlaw06.SchedTicks", spec := "schedTicks", unfollowed := true, recurses := true, apart := false, narrowed := true }
def SchedTicksUptoSaid : Prop := schedTicksUptoRow.holds Tryz.pinned (OpenSpec.upto schedTicksSpec)

/-- 'orpimentlaw06.SchedRules', WHERE WHAT IT READS IS OF BULK AT MOST 1048576: true; the input reads as it did. -/
def schedRulesUptoRow : OpenClaim := { program := "ytjaaljcdaamcjaagreat", sum := "cfc07f4d434d58612c0e5227a7d571b6253c5352a37e0b7d4eb383c470af5a74", func := "orpiment/orpimentlaw06.SchedRules", spec := "schedRules", unfollowed := true, recurses := true, apart := false, narrowed := true }
def SchedRulesUptoSaid : Prop := schedRulesUptoRow.holds Tryz.pinned (OpenSpec.upto schedRulesSpec)

/-- 'orpimentlaw06.SchedRounds', WHERE WHAT IT READS IS OF BULK AT MOST 1048576: true; the input reads as it did. -/
def schedRoundsUptoRow : OpenClaim := { program := "ytjaaljcdaamcjaagreat", sum := "cfc07f4d434d58612c0e5227a7d571b6253c5352a37e0b7d4eb383c470af5a74", func := "orpiment/orpimentlaw06.SchedRounds", spec := "schedRounds", unfollowed := true, recurses := true, apart := false, narrowed := true }
def SchedRoundsUptoSaid : Prop := schedRoundsUptoRow.holds Tryz.pinned (OpenSpec.upto schedRoundsSpec)

/-- 'orpimentlaw06.SchedNil', WHERE WHAT IT READS IS OF BULK AT MOST 1048576: true; the input reads as it did. -/
def schedNilUptoRow : OpenClaim := { program := "ytjaaljcdaamcjaagreat", sum := "cfc07f4d434d58612c0e5227a7d571b6253c5352a37e0b7d4eb383c470af5a74", func := "orpiment/orpimentlaw06.SchedNil", spec := "schedNil", unfollowed := true, recurses := true, apart := false, narrowed := true }
def SchedNilUptoSaid : Prop := schedNilUptoRow.holds Tryz.pinned (OpenSpec.upto schedNilSpec)

/-- 'orpimenttop.TopShares', WHERE WHAT IT READS IS OF BULK AT MOST 1048576: true; the input reads as it did. -/
def topSharesUptoRow : OpenClaim := { program := "ytjaaljcdaamcjaagreat", sum := "cfc07f4d434d58612c0e5227a7d571b6253c5352a37e0b7d4eb383c470af5a74", func := "orpiment/orpimenttop.TopShares", spec := "topShares", unfollowed := true, recurses := true, apart := false, narrowed := true }
def TopSharesUptoSaid : Prop := topSharesUptoRow.holds Tryz.pinned (OpenSpec.upto topSharesSpec)

end Rows
end Go.Proofs.YtjaaljcdaamcjaaGreat
