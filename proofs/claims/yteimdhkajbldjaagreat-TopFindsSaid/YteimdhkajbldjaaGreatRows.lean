/-
  No cell of these rows narrows 'for every input' (looked for: loops, veiled, ifaces, maps, wideKeys, modest, calm, conditions, laid).
  DERIVED. THE GIVEN ROWS OF THIS SEAT. 8 by the template 'for every input the law returns true; each argument reads behind the call as it read before'; 0 by the template 'total and deterministic' (their statements: YteimdhkajbldjaaGreatTotals.lean).
  GIVEN WITH THE SEED: the statements are not yours to turn. If you find one false, say at which input.
  Laid BY PROGRAM, IN A SANDBOX (cutbox-rows.mjs): the forced cells as the released guide's own fill.sh prints them over the translation 7baa5a5be04669be… (all of the seat's roots in one cut). By AI agents, Wed Nov 11 2026. No macro, syntax, notation, axiom, sorry.
-/
import Derived.Test.YteimdhkajbldjaaGreatChecked
import GoSem.Claim
import GoSem.ClaimJoined
import GoSem.ClaimMapViews
import Derived.JoinedTies
import Derived.KernelRfl
namespace Go.Proofs.YteimdhkajbldjaaGreat
/- THE CELL 'sum', in the pinned program and in every row, IS THE sha256 OF THE DUMP (.gsa) THAT YteimdhkajbldjaaGreatProg.lean LOADS. Nothing in Lean hashes anything: it is a label: what it is worth is what the hold of that sum in a sandbox is worth. -/
noncomputable def Tryz.pinned : Pinned := { name := "yteimdhkajbldjaagreat", sum := "7baa5a5be04669bef46980526aacab53e06298c23a349171b38c745932d34b54", checked := Tryz.checked }
namespace Rows
def none {H : Type} : Left H := { results := [], args := [] }

/-- 'wykeep.ServerHides': WHATEVER THE INPUT: true; the input reads as it did. -/
def serverHidesSpec : ChangeSpec := { name := "serverHides", fn := fun _ => fun
  | [d1, d2] => { results := [.lit (.bool true)], args := [d1, d2] }
  | _ => none }
def serverHidesRow : OpenClaim := { program := "yteimdhkajbldjaagreat", sum := "7baa5a5be04669bef46980526aacab53e06298c23a349171b38c745932d34b54", func := "withy/wykeep.ServerHides", spec := "serverHides", unfollowed := true, recurses := true, plainKeys := false, apart := false }
def ServerHidesSaid : Prop := serverHidesRow.holds Tryz.pinned (OpenSpec.ofChange serverHidesSpec)

/-- ITS FALSE NEIGHBOUR: 'it returns false'. Refute it at one input. -/
def serverHidesWrong : ChangeSpec := { name := "serverHides", fn := fun _ => fun
  | [d1, d2] => { results := [.lit (.bool false)], args := [d1, d2] }
  | _ => none }
def ServerHidesWrongFalsely : Prop := serverHidesRow.holds Tryz.pinned (OpenSpec.ofChange serverHidesWrong)

/-- 'wykeep.ServerWrites': WHATEVER THE INPUT: true; the input reads as it did. -/
def serverWritesSpec : ChangeSpec := { name := "serverWrites", fn := fun _ => fun
  | [d] => { results := [.lit (.bool true)], args := [d] }
  | _ => none }
def serverWritesRow : OpenClaim := { program := "yteimdhkajbldjaagreat", sum := "7baa5a5be04669bef46980526aacab53e06298c23a349171b38c745932d34b54", func := "withy/wykeep.ServerWrites", spec := "serverWrites", unfollowed := true, recurses := true, plainKeys := false, apart := false }
def ServerWritesSaid : Prop := serverWritesRow.holds Tryz.pinned (OpenSpec.ofChange serverWritesSpec)

/-- ITS FALSE NEIGHBOUR: 'it returns false'. Refute it at one input. -/
def serverWritesWrong : ChangeSpec := { name := "serverWrites", fn := fun _ => fun
  | [d] => { results := [.lit (.bool false)], args := [d] }
  | _ => none }
def ServerWritesWrongFalsely : Prop := serverWritesRow.holds Tryz.pinned (OpenSpec.ofChange serverWritesWrong)

/-- 'wykeep.ServerAsks': WHATEVER THE INPUT: true; the input reads as it did. -/
def serverAsksSpec : ChangeSpec := { name := "serverAsks", fn := fun _ => fun
  | [d1, d2] => { results := [.lit (.bool true)], args := [d1, d2] }
  | _ => none }
def serverAsksRow : OpenClaim := { program := "yteimdhkajbldjaagreat", sum := "7baa5a5be04669bef46980526aacab53e06298c23a349171b38c745932d34b54", func := "withy/wykeep.ServerAsks", spec := "serverAsks", unfollowed := true, recurses := true, plainKeys := false, apart := false }
def ServerAsksSaid : Prop := serverAsksRow.holds Tryz.pinned (OpenSpec.ofChange serverAsksSpec)

/-- ITS FALSE NEIGHBOUR: 'it returns false'. Refute it at one input. -/
def serverAsksWrong : ChangeSpec := { name := "serverAsks", fn := fun _ => fun
  | [d1, d2] => { results := [.lit (.bool false)], args := [d1, d2] }
  | _ => none }
def ServerAsksWrongFalsely : Prop := serverAsksRow.holds Tryz.pinned (OpenSpec.ofChange serverAsksWrong)

/-- 'wykeep.ServerWrong': WHATEVER THE INPUT: true; the input reads as it did. -/
def serverWrongSpec : ChangeSpec := { name := "serverWrong", fn := fun _ => fun
  | [d1, d2] => { results := [.lit (.bool true)], args := [d1, d2] }
  | _ => none }
def serverWrongRow : OpenClaim := { program := "yteimdhkajbldjaagreat", sum := "7baa5a5be04669bef46980526aacab53e06298c23a349171b38c745932d34b54", func := "withy/wykeep.ServerWrong", spec := "serverWrong", unfollowed := true, recurses := true, plainKeys := false, apart := false }
def ServerWrongSaid : Prop := serverWrongRow.holds Tryz.pinned (OpenSpec.ofChange serverWrongSpec)

/-- ITS FALSE NEIGHBOUR: 'it returns false'. Refute it at one input. -/
def serverWrongWrong : ChangeSpec := { name := "serverWrong", fn := fun _ => fun
  | [d1, d2] => { results := [.lit (.bool false)], args := [d1, d2] }
  | _ => none }
def ServerWrongWrongFalsely : Prop := serverWrongRow.holds Tryz.pinned (OpenSpec.ofChange serverWrongWrong)

/-- 'wykeep.ServerApart': WHATEVER THE INPUT: true; the input reads as it did. -/
def serverApartSpec : ChangeSpec := { name := "serverApart", fn := fun _ => fun
  | [d1, d2, d3] => { results := [.lit (.bool true)], args := [d1, d2, d3] }
  | _ => none }
def serverApartRow : OpenClaim := { program := "yteimdhkajbldjaagreat", sum := "7baa5a5be04669bef46980526aacab53e06298c23a349171b38c745932d34b54", func := "withy/wykeep.ServerApart", spec := "serverApart", unfollowed := true, recurses := true, plainKeys := false, apart := false }
def ServerApartSaid : Prop := serverApartRow.holds Tryz.pinned (OpenSpec.ofChange serverApartSpec)

/-- ITS FALSE NEIGHBOUR: 'it returns false'. Refute it at one input. -/
def serverApartWrong : ChangeSpec := { name := "serverApart", fn := fun _ => fun
  | [d1, d2, d3] => { results := [.lit (.bool false)], args := [d1, d2, d3] }
  | _ => none }
def ServerApartWrongFalsely : Prop := serverApartRow.holds Tryz.pinned (OpenSpec.ofChange serverApartWrong)

/-- 'wykeep.ListsOwn': WHATEVER THE INPUT: true; the input reads as it did. -/
def listsOwnSpec : ChangeSpec := { name := "listsOwn", fn := fun _ => fun
  | [d1, d2, d3, d4, d5, d6, d7] => { results := [.lit (.bool true)], args := [d1, d2, d3, d4, d5, d6, d7] }
  | _ => none }
def listsOwnRow : OpenClaim := { program := "yteimdhkajbldjaagreat", sum := "7baa5a5be04669bef46980526aacab53e06298c23a349171b38c745932d34b54", func := "withy/wykeep.ListsOwn", spec := "listsOwn", inPlace := ["slices.overlaps[string]"], unfollowed := true, recurses := true, plainKeys := false, apart := false }
def ListsOwnSaid : Prop := listsOwnRow.holds Tryz.pinned (OpenSpec.ofChange listsOwnSpec)

/-- ITS FALSE NEIGHBOUR: 'it returns false'. Refute it at one input. -/
def listsOwnWrong : ChangeSpec := { name := "listsOwn", fn := fun _ => fun
  | [d1, d2, d3, d4, d5, d6, d7] => { results := [.lit (.bool false)], args := [d1, d2, d3, d4, d5, d6, d7] }
  | _ => none }
def ListsOwnWrongFalsely : Prop := listsOwnRow.holds Tryz.pinned (OpenSpec.ofChange listsOwnWrong)

/-- 'wytop.TopHides': WHATEVER THE INPUT: true; the input reads as it did. -/
def topHidesSpec : ChangeSpec := { name := "topHides", fn := fun _ => fun
  | [d1, d2, d3] => { results := [.lit (.bool true)], args := [d1, d2, d3] }
  | _ => none }
def topHidesRow : OpenClaim := { program := "yteimdhkajbldjaagreat", sum := "7baa5a5be04669bef46980526aacab53e06298c23a349171b38c745932d34b54", func := "withy/wytop.TopHides", spec := "topHides", unfollowed := true, recurses := true, plainKeys := false, apart := false }
def TopHidesSaid : Prop := topHidesRow.holds Tryz.pinned (OpenSpec.ofChange topHidesSpec)

/-- ITS FALSE NEIGHBOUR: 'it returns false'. Refute it at one input. -/
def topHidesWrong : ChangeSpec := { name := "topHides", fn := fun _ => fun
  | [d1, d2, d3] => { results := [.lit (.bool false)], args := [d1, d2, d3] }
  | _ => none }
def TopHidesWrongFalsely : Prop := topHidesRow.holds Tryz.pinned (OpenSpec.ofChange topHidesWrong)

/-- 'wytop.TopFinds': WHATEVER THE INPUT: true; the input reads as it did. -/
def topFindsSpec : ChangeSpec := { name := "topFinds", fn := fun _ => fun
  | [d1, d2, d3] => { results := [.lit (.bool true)], args := [d1, d2, d3] }
  | _ => none }
def topFindsRow : OpenClaim := { program := "yteimdhkajbldjaagreat", sum := "7baa5a5be04669bef46980526aacab53e06298c23a349171b38c745932d34b54", func := "withy/wytop.TopFinds", spec := "topFinds", inPlace := ["slices.overlaps[string]"], unfollowed := true, recurses := true, plainKeys := false, apart := false }
def TopFindsSaid : Prop := topFindsRow.holds Tryz.pinned (OpenSpec.ofChange topFindsSpec)

/-- ITS FALSE NEIGHBOUR: 'it returns false'. Refute it at one input. -/
def topFindsWrong : ChangeSpec := { name := "topFinds", fn := fun _ => fun
  | [d1, d2, d3] => { results := [.lit (.bool false)], args := [d1, d2, d3] }
  | _ => none }
def TopFindsWrongFalsely : Prop := topFindsRow.holds Tryz.pinned (OpenSpec.ofChange topFindsWrong)

/- THE SECOND FORM. 'bulk': how many values and letters a reading holds, each counted each time it is reached (what is shared counts as often as it is met; a slice's spare places count too). A statement '..UptoSaid' is the law's where the arguments, and the package variables that the reading takes, are together of bulk at most 1048576: NARROWER than '..Said'. Prove '..Said' where nothing that the law and all that it calls make is longer than what came in: it says more and counts as full. Else prove '..UptoSaid'. A law counts once. -/
mutual
def uptoBulk {H : Type} : DataW H → Nat
  | .lit (.string bytes) => bytes.length + 1
  | .lit _ => 1
  | .nil => 1
  | .ptr d => uptoBulk d + 1
  | .slice elems spare => uptoBulkAll elems + uptoBulkAll spare + 1
  | .agg parts => uptoBulkAll parts + 1
  | .iface _ d => uptoBulk d + 1
  | .map entries => uptoBulkEntries entries + 1
  | .held _ => 1
def uptoBulkAll {H : Type} : List (DataW H) → Nat
  | [] => 0
  | d :: r => uptoBulk d + uptoBulkAll r
def uptoBulkEntries {H : Type} : List (Lit × DataW H) → Nat
  | [] => 0
  | x :: r => uptoBulkEntry x + uptoBulkEntries r
def uptoBulkEntry {H : Type} : Lit × DataW H → Nat
  | (.string bytes, d) => bytes.length + uptoBulk d + 1
  | (_, d) => uptoBulk d + 1
 end
def uptoSmall : (H : Type) → List (DataW H) → Bool := fun _ ds => decide (uptoBulkAll ds ≤ 1048576)
def OpenSpec.upto (s : _root_.Go.ChangeSpec) : _root_.Go.OpenSpec := { _root_.Go.OpenSpec.ofChange s with cond := some uptoSmall }

/-- 'wykeep.ServerHides', WHERE WHAT IT READS IS OF BULK AT MOST 1048576: true; the input reads as it did. -/
def serverHidesUptoRow : OpenClaim := { program := "yteimdhkajbldjaagreat", sum := "7baa5a5be04669bef46980526aacab53e06298c23a349171b38c745932d34b54", func := "withy/wykeep.ServerHides", spec := "serverHides", unfollowed := true, recurses := true, plainKeys := false, apart := false, narrowed := true }
def ServerHidesUptoSaid : Prop := serverHidesUptoRow.holds Tryz.pinned (OpenSpec.upto serverHidesSpec)

/-- 'wykeep.ServerWrites', WHERE WHAT IT READS IS OF BULK AT MOST 1048576: true; the input reads as it did. -/
def serverWritesUptoRow : OpenClaim := { program := "yteimdhkajbldjaagreat", sum := "7baa5a5be04669bef46980526aacab53e06298c23a349171b38c745932d34b54", func := "withy/wykeep.ServerWrites", spec := "serverWrites", unfollowed := true, recurses := true, plainKeys := false, apart := false, narrowed := true }
def ServerWritesUptoSaid : Prop := serverWritesUptoRow.holds Tryz.pinned (OpenSpec.upto serverWritesSpec)

/-- 'wykeep.ServerAsks', WHERE WHAT IT READS IS OF BULK AT MOST 1048576: true; the input reads as it did. -/
def serverAsksUptoRow : OpenClaim := { program := "yteimdhkajbldjaagreat", sum := "7baa5a5be04669bef46980526aacab53e06298c23a349171b38c745932d34b54", func := "withy/wykeep.ServerAsks", spec := "serverAsks", unfollowed := true, recurses := true, plainKeys := false, apart := false, narrowed := true }
def ServerAsksUptoSaid : Prop := serverAsksUptoRow.holds Tryz.pinned (OpenSpec.upto serverAsksSpec)

/-- 'wykeep.ServerWrong', WHERE WHAT IT READS IS OF BULK AT MOST 1048576: true; the input reads as it did. -/
def serverWrongUptoRow : OpenClaim := { program := "yteimdhkajbldjaagreat", sum := "7baa5a5be04669bef46980526aacab53e06298c23a349171b38c745932d34b54", func := "withy/wykeep.ServerWrong", spec := "serverWrong", unfollowed := true, recurses := true, plainKeys := false, apart := false, narrowed := true }
def ServerWrongUptoSaid : Prop := serverWrongUptoRow.holds Tryz.pinned (OpenSpec.upto serverWrongSpec)

/-- 'wykeep.ServerApart', WHERE WHAT IT READS IS OF BULK AT MOST 1048576: true; the input reads as it did. -/
def serverApartUptoRow : OpenClaim := { program := "yteimdhkajbldjaagreat", sum := "7baa5a5be04669bef46980526aacab53e06298c23a349171b38c745932d34b54", func := "withy/wykeep.ServerApart", spec := "serverApart", unfollowed := true, recurses := true, plainKeys := false, apart := false, narrowed := true }
def ServerApartUptoSaid : Prop := serverApartUptoRow.holds Tryz.pinned (OpenSpec.upto serverApartSpec)

/-- 'wykeep.ListsOwn', WHERE WHAT IT READS IS OF BULK AT MOST 1048576: true; the input reads as it did. -/
def listsOwnUptoRow : OpenClaim := { program := "yteimdhkajbldjaagreat", sum := "7baa5a5be04669bef46980526aacab53e06298c23a349171b38c745932d34b54", func := "withy/wykeep.ListsOwn", spec := "listsOwn", inPlace := ["slices.overlaps[string]"], unfollowed := true, recurses := true, plainKeys := false, apart := false, narrowed := true }
def ListsOwnUptoSaid : Prop := listsOwnUptoRow.holds Tryz.pinned (OpenSpec.upto listsOwnSpec)

/-- 'wytop.TopHides', WHERE WHAT IT READS IS OF BULK AT MOST 1048576: true; the input reads as it did. -/
def topHidesUptoRow : OpenClaim := { program := "yteimdhkajbldjaagreat", sum := "7baa5a5be04669bef46980526aacab53e06298c23a349171b38c745932d34b54", func := "withy/wytop.TopHides", spec := "topHides", unfollowed := true, recurses := true, plainKeys := false, apart := false, narrowed := true }
def TopHidesUptoSaid : Prop := topHidesUptoRow.holds Tryz.pinned (OpenSpec.upto topHidesSpec)

/-- 'wytop.TopFinds', WHERE WHAT IT READS IS OF BULK AT MOST 1048576: true; the input reads as it did. -/
def topFindsUptoRow : OpenClaim := { program := "yteimdhkajbldjaagreat", sum := "7baa5a5be04669bef46980526aacab53e06298c23a349171b38c745932d34b54", func := "withy/wytop.TopFinds", spec := "topFinds", inPlace := ["slices.overlaps[string]"], unfollowed := true, recurses := true, plainKeys := false, apart := false, narrowed := true }
def TopFindsUptoSaid : Prop := topFindsUptoRow.holds Tryz.pinned (OpenSpec.upto topFindsSpec)

end Rows
end Go.Proofs.YteimdhkajbldjaaGreat
