/-
  No cell of these rows narrows 'for every input' (looked for: loops, veiled, ifaces, maps, wideKeys, modest, calm, conditions, laid).
  DERIVED. THE GIVEN ROWS OF THIS SEAT. 7 by the template 'for every input the law returns true; each argument reads behind the call as it read before'; 0 by the template 'total and deterministic' (their statements: YtkgbaaaklijopaaTotals.lean).
  GIVEN WITH THE SEED: the statements are not yours to turn. If you find one false, say at which input.
  Laid BY PROGRAM, IN A SANDBOX (cutbox-rows.mjs): the forced cells as the released guide's own fill.sh prints them over the translation 5253dbc9860a616f… (all of the seat's roots in one cut). By AI agents, Wed Nov 11 2026. No macro, syntax, notation, axiom, sorry.
-/
import Derived.Test.YtkgbaaaklijopaaChecked
import GoSem.Claim
import GoSem.ClaimJoined
import GoSem.ClaimMapViews
import Derived.JoinedTies
import Derived.KernelRfl
namespace Go.Proofs.Ytkgbaaaklijopaa
/- THE CELL 'sum', in the pinned program and in every row, IS THE sha256 OF THE DUMP (.gsa) THAT YtkgbaaaklijopaaProg.lean LOADS. Nothing in Lean hashes anything: it is a label: what it is worth is what the hold of that sum in a sandbox is worth. -/
noncomputable def Try.pinned : Pinned := { name := "ytkgbaaaklijopaa", sum := "5253dbc9860a616f8c0a43d53a18a6f4c3af1db29021f7a0e1961edb8b21b070", checked := Try.checked }
namespace Rows
def none {H : Type} : Left H := { results := [], args := [] }

/-- 'wylaw.GroupPlays': WHATEVER THE INPUT: true; the input reads as it did. -/
def groupPlaysSpec : ChangeSpec := { name := "groupPlays", fn := fun _ => fun
  | [d1, d2, d3] => { results := [.lit (.bool true)], args := [d1, d2, d3] }
  | _ => none }
def groupPlaysRow : OpenClaim := { program := "ytkgbaaaklijopaa", sum := "5253dbc9860a616f8c0a43d53a18a6f4c3af1db29021f7a0e1961edb8b21b070", func := "withy/wylaw.GroupPlays", spec := "groupPlays", recurses := true, apart := false }
def GroupPlaysSaid : Prop := groupPlaysRow.holds Try.pinned (OpenSpec.ofChange groupPlaysSpec)

/-- ITS FALSE NEIGHBOUR: 'it returns false'. Refute it at one input. -/
def groupPlaysWrong : ChangeSpec := { name := "groupPlays", fn := fun _ => fun
  | [d1, d2, d3] => { results := [.lit (.bool false)], args := [d1, d2, d3] }
  | _ => none }
def GroupPlaysWrongFalsely : Prop := groupPlaysRow.holds Try.pinned (OpenSpec.ofChange groupPlaysWrong)

/-- 'wykeep.GroupFollows': WHATEVER THE INPUT: true; the input reads as it did. -/
def groupFollowsSpec : ChangeSpec := { name := "groupFollows", fn := fun _ => fun
  | [d1, d2] => { results := [.lit (.bool true)], args := [d1, d2] }
  | _ => none }
def groupFollowsRow : OpenClaim := { program := "ytkgbaaaklijopaa", sum := "5253dbc9860a616f8c0a43d53a18a6f4c3af1db29021f7a0e1961edb8b21b070", func := "withy/wykeep.GroupFollows", spec := "groupFollows", recurses := true, apart := false }
def GroupFollowsSaid : Prop := groupFollowsRow.holds Try.pinned (OpenSpec.ofChange groupFollowsSpec)

/-- ITS FALSE NEIGHBOUR: 'it returns false'. Refute it at one input. -/
def groupFollowsWrong : ChangeSpec := { name := "groupFollows", fn := fun _ => fun
  | [d1, d2] => { results := [.lit (.bool false)], args := [d1, d2] }
  | _ => none }
def GroupFollowsWrongFalsely : Prop := groupFollowsRow.holds Try.pinned (OpenSpec.ofChange groupFollowsWrong)

/-- 'wykeep.GroupSure': WHATEVER THE INPUT: true; the input reads as it did. -/
def groupSureSpec : ChangeSpec := { name := "groupSure", fn := fun _ => fun
  | [d1, d2] => { results := [.lit (.bool true)], args := [d1, d2] }
  | _ => none }
def groupSureRow : OpenClaim := { program := "ytkgbaaaklijopaa", sum := "5253dbc9860a616f8c0a43d53a18a6f4c3af1db29021f7a0e1961edb8b21b070", func := "withy/wykeep.GroupSure", spec := "groupSure", recurses := true, apart := false }
def GroupSureSaid : Prop := groupSureRow.holds Try.pinned (OpenSpec.ofChange groupSureSpec)

/-- ITS FALSE NEIGHBOUR: 'it returns false'. Refute it at one input. -/
def groupSureWrong : ChangeSpec := { name := "groupSure", fn := fun _ => fun
  | [d1, d2] => { results := [.lit (.bool false)], args := [d1, d2] }
  | _ => none }
def GroupSureWrongFalsely : Prop := groupSureRow.holds Try.pinned (OpenSpec.ofChange groupSureWrong)

/-- 'wykeep.GroupTwice': WHATEVER THE INPUT: true; the input reads as it did. -/
def groupTwiceSpec : ChangeSpec := { name := "groupTwice", fn := fun _ => fun
  | [d1, d2] => { results := [.lit (.bool true)], args := [d1, d2] }
  | _ => none }
def groupTwiceRow : OpenClaim := { program := "ytkgbaaaklijopaa", sum := "5253dbc9860a616f8c0a43d53a18a6f4c3af1db29021f7a0e1961edb8b21b070", func := "withy/wykeep.GroupTwice", spec := "groupTwice", recurses := true, apart := false }
def GroupTwiceSaid : Prop := groupTwiceRow.holds Try.pinned (OpenSpec.ofChange groupTwiceSpec)

/-- ITS FALSE NEIGHBOUR: 'it returns false'. Refute it at one input. -/
def groupTwiceWrong : ChangeSpec := { name := "groupTwice", fn := fun _ => fun
  | [d1, d2] => { results := [.lit (.bool false)], args := [d1, d2] }
  | _ => none }
def GroupTwiceWrongFalsely : Prop := groupTwiceRow.holds Try.pinned (OpenSpec.ofChange groupTwiceWrong)

/-- 'wykeep.GroupGaps': WHATEVER THE INPUT: true; the input reads as it did. -/
def groupGapsSpec : ChangeSpec := { name := "groupGaps", fn := fun _ => fun
  | [d1, d2, d3] => { results := [.lit (.bool true)], args := [d1, d2, d3] }
  | _ => none }
def groupGapsRow : OpenClaim := { program := "ytkgbaaaklijopaa", sum := "5253dbc9860a616f8c0a43d53a18a6f4c3af1db29021f7a0e1961edb8b21b070", func := "withy/wykeep.GroupGaps", spec := "groupGaps", recurses := true, apart := false }
def GroupGapsSaid : Prop := groupGapsRow.holds Try.pinned (OpenSpec.ofChange groupGapsSpec)

/-- ITS FALSE NEIGHBOUR: 'it returns false'. Refute it at one input. -/
def groupGapsWrong : ChangeSpec := { name := "groupGaps", fn := fun _ => fun
  | [d1, d2, d3] => { results := [.lit (.bool false)], args := [d1, d2, d3] }
  | _ => none }
def GroupGapsWrongFalsely : Prop := groupGapsRow.holds Try.pinned (OpenSpec.ofChange groupGapsWrong)

/-- 'wykeep.GroupTold': WHATEVER THE INPUT: true; the input reads as it did. -/
def groupToldSpec : ChangeSpec := { name := "groupTold", fn := fun _ => fun
  | [d1, d2, d3] => { results := [.lit (.bool true)], args := [d1, d2, d3] }
  | _ => none }
def groupToldRow : OpenClaim := { program := "ytkgbaaaklijopaa", sum := "5253dbc9860a616f8c0a43d53a18a6f4c3af1db29021f7a0e1961edb8b21b070", func := "withy/wykeep.GroupTold", spec := "groupTold", recurses := true, apart := false }
def GroupToldSaid : Prop := groupToldRow.holds Try.pinned (OpenSpec.ofChange groupToldSpec)

/-- ITS FALSE NEIGHBOUR: 'it returns false'. Refute it at one input. -/
def groupToldWrong : ChangeSpec := { name := "groupTold", fn := fun _ => fun
  | [d1, d2, d3] => { results := [.lit (.bool false)], args := [d1, d2, d3] }
  | _ => none }
def GroupToldWrongFalsely : Prop := groupToldRow.holds Try.pinned (OpenSpec.ofChange groupToldWrong)

/-- 'wykeep.GroupOne': WHATEVER THE INPUT: true; the input reads as it did. -/
def groupOneSpec : ChangeSpec := { name := "groupOne", fn := fun _ => fun
  | [d] => { results := [.lit (.bool true)], args := [d] }
  | _ => none }
def groupOneRow : OpenClaim := { program := "ytkgbaaaklijopaa", sum := "5253dbc9860a616f8c0a43d53a18a6f4c3af1db29021f7a0e1961edb8b21b070", func := "withy/wykeep.GroupOne", spec := "groupOne", recurses := true, apart := false }
def GroupOneSaid : Prop := groupOneRow.holds Try.pinned (OpenSpec.ofChange groupOneSpec)

/-- ITS FALSE NEIGHBOUR: 'it returns false'. Refute it at one input. -/
def groupOneWrong : ChangeSpec := { name := "groupOne", fn := fun _ => fun
  | [d] => { results := [.lit (.bool false)], args := [d] }
  | _ => none }
def GroupOneWrongFalsely : Prop := groupOneRow.holds Try.pinned (OpenSpec.ofChange groupOneWrong)

/- THE SECOND FORM. 'bulk': how many values and letters a reading holds, each counted each time it is reached (what is shared counts as often as it is met; a slice's spare places count too). A statement '..UptoSaid' is the law's where the arguments, and the package variables that the reading takes, are together of bulk at most 1048576: NARROWER than '..Said'. Prove '..Said' where nothing that the law and all that it calls make is longer than what came in: it says more and counts as full. Else prove '..UptoSaid'. A law counts once. -/
mutual
def uptoBulk {H : Type} : DataW H → Nat
  | .lit (.string bytes) => bytes.length + 1
  | .lit _ => 1
  | .nil => 1
  | .ptr d => uptoBulk d + 1
  | .slice elems spare => uptoBulkAll elems + uptoBulkAll spare + 1
  | .agg parts => uptoBulkAll parts + 1
  | .iface _ d => uptoBulk d + 1
  | .map entries => uptoBulkEntries entries + 1
  | .held _ => 1
def uptoBulkAll {H : Type} : List (DataW H) → Nat
  | [] => 0
  | d :: r => uptoBulk d + uptoBulkAll r
def uptoBulkEntries {H : Type} : List (Lit × DataW H) → Nat
  | [] => 0
  | x :: r => uptoBulkEntry x + uptoBulkEntries r
def uptoBulkEntry {H : Type} : Lit × DataW H → Nat
  | (.string bytes, d) => bytes.length + uptoBulk d + 1
  | (_, d) => uptoBulk d + 1
 end
def uptoSmall : (H : Type) → List (DataW H) → Bool := fun _ ds => decide (uptoBulkAll ds ≤ 1048576)
def OpenSpec.upto (s : _root_.Go.ChangeSpec) : _root_.Go.OpenSpec := { _root_.Go.OpenSpec.ofChange s with cond := some uptoSmall }

/-- 'wylaw.GroupPlays', WHERE WHAT IT READS IS OF BULK AT MOST 1048576: true; the input reads as it did. -/
def groupPlaysUptoRow : OpenClaim := { program := "ytkgbaaaklijopaa", sum := "5253dbc9860a616f8c0a43d53a18a6f4c3af1db29021f7a0e1961edb8b21b070", func := "withy/wylaw.GroupPlays", spec := "groupPlays", recurses := true, apart := false, narrowed := true }
def GroupPlaysUptoSaid : Prop := groupPlaysUptoRow.holds Try.pinned (OpenSpec.upto groupPlaysSpec)

/-- 'wykeep.GroupFollows', WHERE WHAT IT READS IS OF BULK AT MOST 1048576: true; the input reads as it did. -/
def groupFollowsUptoRow : OpenClaim := { program := "ytkgbaaaklijopaa", sum := "5253dbc9860a616f8c0a43d53a18a6f4c3af1db29021f7a0e1961edb8b21b070", func := "withy/wykeep.GroupFollows", spec := "groupFollows", recurses := true, apart := false, narrowed := true }
def GroupFollowsUptoSaid : Prop := groupFollowsUptoRow.holds Try.pinned (OpenSpec.upto groupFollowsSpec)

/-- 'wykeep.GroupSure', WHERE WHAT IT READS IS OF BULK AT MOST 1048576: true; the input reads as it did. -/
def groupSureUptoRow : OpenClaim := { program := "ytkgbaaaklijopaa", sum := "5253dbc9860a616f8c0a43d53a18a6f4c3af1db29021f7a0e1961edb8b21b070", func := "withy/wykeep.GroupSure", spec := "groupSure", recurses := true, apart := false, narrowed := true }
def GroupSureUptoSaid : Prop := groupSureUptoRow.holds Try.pinned (OpenSpec.upto groupSureSpec)

/-- 'wykeep.GroupTwice', WHERE WHAT IT READS IS OF BULK AT MOST 1048576: true; the input reads as it did. -/
def groupTwiceUptoRow : OpenClaim := { program := "ytkgbaaaklijopaa", sum := "5253dbc9860a616f8c0a43d53a18a6f4c3af1db29021f7a0e1961edb8b21b070", func := "withy/wykeep.GroupTwice", spec := "groupTwice", recurses := true, apart := false, narrowed := true }
def GroupTwiceUptoSaid : Prop := groupTwiceUptoRow.holds Try.pinned (OpenSpec.upto groupTwiceSpec)

/-- 'wykeep.GroupGaps', WHERE WHAT IT READS IS OF BULK AT MOST 1048576: true; the input reads as it did. -/
def groupGapsUptoRow : OpenClaim := { program := "ytkgbaaaklijopaa", sum := "5253dbc9860a616f8c0a43d53a18a6f4c3af1db29021f7a0e1961edb8b21b070", func := "withy/wykeep.GroupGaps", spec := "groupGaps", recurses := true, apart := false, narrowed := true }
def GroupGapsUptoSaid : Prop := groupGapsUptoRow.holds Try.pinned (OpenSpec.upto groupGapsSpec)

/-- 'wykeep.GroupTold', WHERE WHAT IT READS IS OF BULK AT MOST 1048576: true; the input reads as it did. -/
def groupToldUptoRow : OpenClaim := { program := "ytkgbaaaklijopaa", sum := "5253dbc9860a616f8c0a43d53a18a6f4c3af1db29021f7a0e1961edb8b21b070", func := "withy/wykeep.GroupTold", spec := "groupTold", recurses := true, apart := false, narrowed := true }
def GroupToldUptoSaid : Prop := groupToldUptoRow.holds Try.pinned (OpenSpec.upto groupToldSpec)

/-- 'wykeep.GroupOne', WHERE WHAT IT READS IS OF BULK AT MOST 1048576: true; the input reads as it did. -/
def groupOneUptoRow : OpenClaim := { program := "ytkgbaaaklijopaa", sum := "5253dbc9860a616f8c0a43d53a18a6f4c3af1db29021f7a0e1961edb8b21b070", func := "withy/wykeep.GroupOne", spec := "groupOne", recurses := true, apart := false, narrowed := true }
def GroupOneUptoSaid : Prop := groupOneUptoRow.holds Try.pinned (OpenSpec.upto groupOneSpec)

end Rows
end Go.Proofs.Ytkgbaaaklijopaa
