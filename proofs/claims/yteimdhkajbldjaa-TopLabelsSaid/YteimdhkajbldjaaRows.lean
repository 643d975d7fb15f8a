/-
  No cell of these rows narrows 'for every input' (looked for: loops, veiled, ifaces, maps, wideKeys, modest, calm, conditions, laid).
  DERIVED. THE GIVEN ROWS OF THIS SEAT. 6 by the template 'for every input the law returns true; each argument reads behind the call as it read before'; 0 by the template 'total and deterministic' (their statements: YteimdhkajbldjaaTotals.lean).
  GIVEN WITH THE SEED: the statements are not yours to turn. If you find one false, say at which input.
  Laid BY PROGRAM, IN A SANDBOX (cutbox-rows.mjs): the forced cells as the released guide's own fill.sh prints them over the translation 83ac66d04aa854ef… (all of the seat's roots in one cut). By AI agents, Wed Nov 11 2026. No macro, syntax, notation, axiom, sorry.
-/
import Derived.Test.YteimdhkajbldjaaChecked
import GoSem.Claim
import GoSem.ClaimJoined
import GoSem.ClaimMapViews
import Derived.JoinedTies
import Derived.KernelRfl
namespace Go.Proofs.Yteimdhkajbldjaa
/- THE CELL 'sum', in the pinned program and in every row, IS THE sha256 OF THE DUMP (.gsa) THAT YteimdhkajbldjaaProg.lean LOADS. Nothing in Lean hashes anything: it is a label: what it is worth is what the hold of that sum in a sandbox is worth. -/
noncomputable def Try.pinned : Pinned := { name := "yteimdhkajbldjaa", sum := "83ac66d04aa854ef58491a83837485704b74ad66fa1947853180b66b55f1033d", checked := Try.checked }
namespace Rows
def none {H : Type} : Left H := { results := [], args := [] }

/-- 'wykeep.ServerTells': WHATEVER THE INPUT: true; the input reads as it did. -/
def serverTellsSpec : ChangeSpec := { name := "serverTells", fn := fun _ => fun
  | [d] => { results := [.lit (.bool true)], args := [d] }
  | _ => none }
def serverTellsRow : OpenClaim := { program := "yteimdhkajbldjaa", sum := "83ac66d04aa854ef58491a83837485704b74ad66fa1947853180b66b55f1033d", func := "withy/wykeep.ServerTells", spec := "serverTells", unfollowed := true, recurses := true, plainKeys := false, apart := false }
def ServerTellsSaid : Prop := serverTellsRow.holds Try.pinned (OpenSpec.ofChange serverTellsSpec)

/-- ITS FALSE NEIGHBOUR: 'it returns false'. Refute it at one input. -/
def serverTellsWrong : ChangeSpec := { name := "serverTells", fn := fun _ => fun
  | [d] => { results := [.lit (.bool false)], args := [d] }
  | _ => none }
def ServerTellsWrongFalsely : Prop := serverTellsRow.holds Try.pinned (OpenSpec.ofChange serverTellsWrong)

/-- 'wykeep.ServerNeed': WHATEVER THE INPUT: true; the input reads as it did. -/
def serverNeedSpec : ChangeSpec := { name := "serverNeed", fn := fun _ => fun
  | [d] => { results := [.lit (.bool true)], args := [d] }
  | _ => none }
def serverNeedRow : OpenClaim := { program := "yteimdhkajbldjaa", sum := "83ac66d04aa854ef58491a83837485704b74ad66fa1947853180b66b55f1033d", func := "withy/wykeep.ServerNeed", spec := "serverNeed", unfollowed := true, recurses := true, plainKeys := false, apart := false }
def ServerNeedSaid : Prop := serverNeedRow.holds Try.pinned (OpenSpec.ofChange serverNeedSpec)

/-- ITS FALSE NEIGHBOUR: 'it returns false'. Refute it at one input. -/
def serverNeedWrong : ChangeSpec := { name := "serverNeed", fn := fun _ => fun
  | [d] => { results := [.lit (.bool false)], args := [d] }
  | _ => none }
def ServerNeedWrongFalsely : Prop := serverNeedRow.holds Try.pinned (OpenSpec.ofChange serverNeedWrong)

/-- 'wykeep.ServerDenies': WHATEVER THE INPUT: true; the input reads as it did. -/
def serverDeniesSpec : ChangeSpec := { name := "serverDenies", fn := fun _ => fun
  | [d1, d2] => { results := [.lit (.bool true)], args := [d1, d2] }
  | _ => none }
def serverDeniesRow : OpenClaim := { program := "yteimdhkajbldjaa", sum := "83ac66d04aa854ef58491a83837485704b74ad66fa1947853180b66b55f1033d", func := "withy/wykeep.ServerDenies", spec := "serverDenies", unfollowed := true, recurses := true, plainKeys := false, apart := false }
def ServerDeniesSaid : Prop := serverDeniesRow.holds Try.pinned (OpenSpec.ofChange serverDeniesSpec)

/-- ITS FALSE NEIGHBOUR: 'it returns false'. Refute it at one input. -/
def serverDeniesWrong : ChangeSpec := { name := "serverDenies", fn := fun _ => fun
  | [d1, d2] => { results := [.lit (.bool false)], args := [d1, d2] }
  | _ => none }
def ServerDeniesWrongFalsely : Prop := serverDeniesRow.holds Try.pinned (OpenSpec.ofChange serverDeniesWrong)

/-- 'wykeep.ServerReads': WHATEVER THE INPUT: true; the input reads as it did. -/
def serverReadsSpec : ChangeSpec := { name := "serverReads", fn := fun _ => fun
  | [d1, d2, d3] => { results := [.lit (.bool true)], args := [d1, d2, d3] }
  | _ => none }
def serverReadsRow : OpenClaim := { program := "yteimdhkajbldjaa", sum := "83ac66d04aa854ef58491a83837485704b74ad66fa1947853180b66b55f1033d", func := "withy/wykeep.ServerReads", spec := "serverReads", unfollowed := true, recurses := true, plainKeys := false, apart := false }
def ServerReadsSaid : Prop := serverReadsRow.holds Try.pinned (OpenSpec.ofChange serverReadsSpec)

/-- ITS FALSE NEIGHBOUR: 'it returns false'. Refute it at one input. -/
def serverReadsWrong : ChangeSpec := { name := "serverReads", fn := fun _ => fun
  | [d1, d2, d3] => { results := [.lit (.bool false)], args := [d1, d2, d3] }
  | _ => none }
def ServerReadsWrongFalsely : Prop := serverReadsRow.holds Try.pinned (OpenSpec.ofChange serverReadsWrong)

/-- 'wykeep.ServerRoles': WHATEVER THE INPUT: true; the input reads as it did. -/
def serverRolesSpec : ChangeSpec := { name := "serverRoles", fn := fun _ => fun
  | [d] => { results := [.lit (.bool true)], args := [d] }
  | _ => none }
def serverRolesRow : OpenClaim := { program := "yteimdhkajbldjaa", sum := "83ac66d04aa854ef58491a83837485704b74ad66fa1947853180b66b55f1033d", func := "withy/wykeep.ServerRoles", spec := "serverRoles", unfollowed := true, recurses := true, plainKeys := false, apart := false }
def ServerRolesSaid : Prop := serverRolesRow.holds Try.pinned (OpenSpec.ofChange serverRolesSpec)

/-- ITS FALSE NEIGHBOUR: 'it returns false'. Refute it at one input. -/
def serverRolesWrong : ChangeSpec := { name := "serverRoles", fn := fun _ => fun
  | [d] => { results := [.lit (.bool false)], args := [d] }
  | _ => none }
def ServerRolesWrongFalsely : Prop := serverRolesRow.holds Try.pinned (OpenSpec.ofChange serverRolesWrong)

/-- 'wytop.TopLabels': WHATEVER THE INPUT: true; the input reads as it did. -/
def topLabelsSpec : ChangeSpec := { name := "topLabels", fn := fun _ => fun
  | [d1, d2, d3, d4] => { results := [.lit (.bool true)], args := [d1, d2, d3, d4] }
  | _ => none }
def topLabelsRow : OpenClaim := { program := "yteimdhkajbldjaa", sum := "83ac66d04aa854ef58491a83837485704b74ad66fa1947853180b66b55f1033d", func := "withy/wytop.TopLabels", spec := "topLabels", unfollowed := true, recurses := true, plainKeys := false, apart := false }
def TopLabelsSaid : Prop := topLabelsRow.holds Try.pinned (OpenSpec.ofChange topLabelsSpec)

/-- ITS FALSE NEIGHBOUR: 'it returns false'. Refute it at one input. -/
def topLabelsWrong : ChangeSpec := { name := "topLabels", fn := fun _ => fun
  | [d1, d2, d3, d4] => { results := [.lit (.bool false)], args := [d1, d2, d3, d4] }
  | _ => none }
def TopLabelsWrongFalsely : Prop := topLabelsRow.holds Try.pinned (OpenSpec.ofChange topLabelsWrong)

/- THE SECOND FORM. 'bulk': how many values and letters a reading holds, each counted each time it is reached (what is shared counts as often as it is met; a slice's spare places count too). A statement '..UptoSaid' is the law's where the arguments, and the package variables that the reading takes, are together of bulk at most 1048576: NARROWER than '..Said'. Prove '..Said' where nothing that the law and all that it calls make is longer than what came in: it says more and counts as full. Else prove '..UptoSaid'. A law counts once. -/
mutual
def uptoBulk {H : Type} : DataW H → Nat
  | .lit (.string bytes) => bytes.length + 1
  | .lit _ => 1
  | .nil => 1
  | .ptr d => uptoBulk d + 1
  | .slice elems spare => uptoBulkAll elems + uptoBulkAll spare + 1
  | .agg parts => uptoBulkAll parts + 1
  | .iface _ d => uptoBulk d + 1
  | .map entries => uptoBulkEntries entries + 1
  | .held _ => 1
def uptoBulkAll {H : Type} : List (DataW H) → Nat
  | [] => 0
  | d :: r => uptoBulk d + uptoBulkAll r
def uptoBulkEntries {H : Type} : List (Lit × DataW H) → Nat
  | [] => 0
  | x :: r => uptoBulkEntry x + uptoBulkEntries r
def uptoBulkEntry {H : Type} : Lit × DataW H → Nat
  | (.string bytes, d) => bytes.length + uptoBulk d + 1
  | (_, d) => uptoBulk d + 1
 end
def uptoSmall : (H : Type) → List (DataW H) → Bool := fun _ ds => decide (uptoBulkAll ds ≤ 1048576)
def OpenSpec.upto (s : _root_.Go.ChangeSpec) : _root_.Go.OpenSpec := { _root_.Go.OpenSpec.ofChange s with cond := some uptoSmall }

/-- 'wykeep.ServerTells', WHERE WHAT IT READS IS OF BULK AT MOST 1048576: true; the input reads as it did. -/
def serverTellsUptoRow : OpenClaim := { program := "yteimdhkajbldjaa", sum := "83ac66d04aa854ef58491a83837485704b74ad66fa1947853180b66b55f1033d", func := "withy/wykeep.ServerTells", spec := "serverTells", unfollowed := true, recurses := true, plainKeys := false, apart := false, narrowed := true }
def ServerTellsUptoSaid : Prop := serverTellsUptoRow.holds Try.pinned (OpenSpec.upto serverTellsSpec)

/-- 'wykeep.ServerNeed', WHERE WHAT IT READS IS OF BULK AT MOST 1048576: true; the input reads as it did. -/
def serverNeedUptoRow : OpenClaim := { program := "yteimdhkajbldjaa", sum := "83ac66d04aa854ef58491a83837485704b74ad66fa1947853180b66b55f1033d", func := "withy/wykeep.ServerNeed", spec := "serverNeed", unfollowed := true, recurses := true, plainKeys := false, apart := false, narrowed := true }
def ServerNeedUptoSaid : Prop := serverNeedUptoRow.holds Try.pinned (OpenSpec.upto serverNeedSpec)

/-- 'wykeep.ServerDenies', WHERE WHAT IT READS IS OF BULK AT MOST 1048576: true; the input reads as it did. -/
def serverDeniesUptoRow : OpenClaim := { program := "yteimdhkajbldjaa", sum := "83ac66d04aa854ef58491a83837485704b74ad66fa1947853180b66b55f1033d", func := "withy/wykeep.ServerDenies", spec := "serverDenies", unfollowed := true, recurses := true, plainKeys := false, apart := false, narrowed := true }
def ServerDeniesUptoSaid : Prop := serverDeniesUptoRow.holds Try.pinned (OpenSpec.upto serverDeniesSpec)

/-- 'wykeep.ServerReads', WHERE WHAT IT READS IS OF BULK AT MOST 1048576: true; the input reads as it did. -/
def serverReadsUptoRow : OpenClaim := { program := "yteimdhkajbldjaa", sum := "83ac66d04aa854ef58491a83837485704b74ad66fa1947853180b66b55f1033d", func := "withy/wykeep.ServerReads", spec := "serverReads", unfollowed := true, recurses := true, plainKeys := false, apart := false, narrowed := true }
def ServerReadsUptoSaid : Prop := serverReadsUptoRow.holds Try.pinned (OpenSpec.upto serverReadsSpec)

/-- 'wykeep.ServerRoles', WHERE WHAT IT READS IS OF BULK AT MOST 1048576: true; the input reads as it did. -/
def serverRolesUptoRow : OpenClaim := { program := "yteimdhkajbldjaa", sum := "83ac66d04aa854ef58491a83837485704b74ad66fa1947853180b66b55f1033d", func := "withy/wykeep.ServerRoles", spec := "serverRoles", unfollowed := true, recurses := true, plainKeys := false, apart := false, narrowed := true }
def ServerRolesUptoSaid : Prop := serverRolesUptoRow.holds Try.pinned (OpenSpec.upto serverRolesSpec)

/-- 'wytop.TopLabels', WHERE WHAT IT READS IS OF BULK AT MOST 1048576: true; the input reads as it did. -/
def topLabelsUptoRow : OpenClaim := { program := "yteimdhkajbldjaa", sum := "83ac66d04aa854ef58491a83837485704b74ad66fa1947853180b66b55f1033d", func := "withy/wytop.TopLabels", spec := "topLabels", unfollowed := true, recurses := true, plainKeys := false, apart := false, narrowed := true }
def TopLabelsUptoSaid : Prop := topLabelsUptoRow.holds Try.pinned (OpenSpec.upto topLabelsSpec)

end Rows
end Go.Proofs.Yteimdhkajbldjaa
