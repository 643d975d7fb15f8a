/-
  No cell of these rows narrows 'for every input' (looked for: loops, veiled, ifaces, maps, wideKeys, modest, calm, conditions, laid).
  DERIVED. THE GIVEN ROWS OF THIS SEAT. 6 by the template 'for every input the law returns true; each argument reads behind the call as it read before'; 0 by the template 'total and deterministic' (their statements: YtpjmhajhmkfolaaTotals.lean).
  GIVEN WITH THE SEED: the statements are not yours to turn. If you find one false, say at which input.
  Laid BY PROGRAM, IN A SANDBOX (cutbox-rows.mjs): the forced cells as the released guide's own fill.sh prints them over the translation 0ed49dd1f2b2e870… (all of the seat's roots in one cut). By AI agents, Wed Nov 11 2026. No macro, syntax, notation, axiom, sorry.
-/
import Derived.Test.YtpjmhajhmkfolaaChecked
import GoSem.Claim
import GoSem.ClaimJoined
import GoSem.ClaimMapViews
import Derived.JoinedTies
import Derived.KernelRfl
namespace Go.Proofs.Ytpjmhajhmkfolaa
/- THE CELL 'sum', in the pinned program and in every row, IS THE sha256 OF THE DUMP (.gsa) THAT YtpjmhajhmkfolaaProg.lean LOADS. Nothing in Lean hashes anything: it is a label: what it is worth is what the hold of that sum in a sandbox is worth. -/
noncomputable def Try.pinned : Pinned := { name := "ytpjmhajhmkfolaa", sum := "0ed49dd1f2b2e870f6d41c2fb4387c1bcbf0b37e7c7ffaf8544bf184451f24ad", checked := Try.checked }
namespace Rows
def none {H : Type} : Left H := { results := [], args := [] }

/-- 'wylaw.RuleSays': WHATEVER THE INPUT: true; the input reads as it did. -/
def ruleSaysSpec : ChangeSpec := { name := "ruleSays", fn := fun _ => fun
  | [d1, d2, d3, d4, d5] => { results := [.lit (.bool true)], args := [d1, d2, d3, d4, d5] }
  | _ => none }
def ruleSaysRow : OpenClaim := { program := "ytpjmhajhmkfolaa", sum := "0ed49dd1f2b2e870f6d41c2fb4387c1bcbf0b37e7c7ffaf8544bf184451f24ad", func := "withy/wylaw.RuleSays", spec := "ruleSays", recurses := true, apart := false }
def RuleSaysSaid : Prop := ruleSaysRow.holds Try.pinned (OpenSpec.ofChange ruleSaysSpec)

/-- ITS FALSE NEIGHBOUR: 'it returns false'. Refute it at one input. -/
def ruleSaysWrong : ChangeSpec := { name := "ruleSays", fn := fun _ => fun
  | [d1, d2, d3, d4, d5] => { results := [.lit (.bool false)], args := [d1, d2, d3, d4, d5] }
  | _ => none }
def RuleSaysWrongFalsely : Prop := ruleSaysRow.holds Try.pinned (OpenSpec.ofChange ruleSaysWrong)

/-- 'wykeep.RuleMore': WHATEVER THE INPUT: true; the input reads as it did. -/
def ruleMoreSpec : ChangeSpec := { name := "ruleMore", fn := fun _ => fun
  | [d1, d2, d3, d4, d5] => { results := [.lit (.bool true)], args := [d1, d2, d3, d4, d5] }
  | _ => none }
def ruleMoreRow : OpenClaim := { program := "ytpjmhajhmkfolaa", sum := "0ed49dd1f2b2e870f6d41c2fb4387c1bcbf0b37e7c7ffaf8544bf184451f24ad", func := "withy/wykeep.RuleMore", spec := "ruleMore", apart := false }
def RuleMoreSaid : Prop := ruleMoreRow.holds Try.pinned (OpenSpec.ofChange ruleMoreSpec)

/-- ITS FALSE NEIGHBOUR: 'it returns false'. Refute it at one input. -/
def ruleMoreWrong : ChangeSpec := { name := "ruleMore", fn := fun _ => fun
  | [d1, d2, d3, d4, d5] => { results := [.lit (.bool false)], args := [d1, d2, d3, d4, d5] }
  | _ => none }
def RuleMoreWrongFalsely : Prop := ruleMoreRow.holds Try.pinned (OpenSpec.ofChange ruleMoreWrong)

/-- 'wykeep.RuleParts': WHATEVER THE INPUT: true; the input reads as it did. -/
def rulePartsSpec : ChangeSpec := { name := "ruleParts", fn := fun _ => fun
  | [d1, d2, d3, d4, d5] => { results := [.lit (.bool true)], args := [d1, d2, d3, d4, d5] }
  | _ => none }
def rulePartsRow : OpenClaim := { program := "ytpjmhajhmkfolaa", sum := "0ed49dd1f2b2e870f6d41c2fb4387c1bcbf0b37e7c7ffaf8544bf184451f24ad", func := "withy/wykeep.RuleParts", spec := "ruleParts", apart := false }
def RulePartsSaid : Prop := rulePartsRow.holds Try.pinned (OpenSpec.ofChange rulePartsSpec)

/-- ITS FALSE NEIGHBOUR: 'it returns false'. Refute it at one input. -/
def rulePartsWrong : ChangeSpec := { name := "ruleParts", fn := fun _ => fun
  | [d1, d2, d3, d4, d5] => { results := [.lit (.bool false)], args := [d1, d2, d3, d4, d5] }
  | _ => none }
def RulePartsWrongFalsely : Prop := rulePartsRow.holds Try.pinned (OpenSpec.ofChange rulePartsWrong)

/-- 'wykeep.RuleRoles': WHATEVER THE INPUT: true; the input reads as it did. -/
def ruleRolesSpec : ChangeSpec := { name := "ruleRoles", fn := fun _ => fun
  | [d1, d2, d3, d4, d5, d6] => { results := [.lit (.bool true)], args := [d1, d2, d3, d4, d5, d6] }
  | _ => none }
def ruleRolesRow : OpenClaim := { program := "ytpjmhajhmkfolaa", sum := "0ed49dd1f2b2e870f6d41c2fb4387c1bcbf0b37e7c7ffaf8544bf184451f24ad", func := "withy/wykeep.RuleRoles", spec := "ruleRoles", apart := false }
def RuleRolesSaid : Prop := ruleRolesRow.holds Try.pinned (OpenSpec.ofChange ruleRolesSpec)

/-- ITS FALSE NEIGHBOUR: 'it returns false'. Refute it at one input. -/
def ruleRolesWrong : ChangeSpec := { name := "ruleRoles", fn := fun _ => fun
  | [d1, d2, d3, d4, d5, d6] => { results := [.lit (.bool false)], args := [d1, d2, d3, d4, d5, d6] }
  | _ => none }
def RuleRolesWrongFalsely : Prop := ruleRolesRow.holds Try.pinned (OpenSpec.ofChange ruleRolesWrong)

/-- 'wykeep.RuleTimes': WHATEVER THE INPUT: true; the input reads as it did. -/
def ruleTimesSpec : ChangeSpec := { name := "ruleTimes", fn := fun _ => fun
  | [d1, d2, d3, d4, d5] => { results := [.lit (.bool true)], args := [d1, d2, d3, d4, d5] }
  | _ => none }
def ruleTimesRow : OpenClaim := { program := "ytpjmhajhmkfolaa", sum := "0ed49dd1f2b2e870f6d41c2fb4387c1bcbf0b37e7c7ffaf8544bf184451f24ad", func := "withy/wykeep.RuleTimes", spec := "ruleTimes", apart := false }
def RuleTimesSaid : Prop := ruleTimesRow.holds Try.pinned (OpenSpec.ofChange ruleTimesSpec)

/-- ITS FALSE NEIGHBOUR: 'it returns false'. Refute it at one input. -/
def ruleTimesWrong : ChangeSpec := { name := "ruleTimes", fn := fun _ => fun
  | [d1, d2, d3, d4, d5] => { results := [.lit (.bool false)], args := [d1, d2, d3, d4, d5] }
  | _ => none }
def RuleTimesWrongFalsely : Prop := ruleTimesRow.holds Try.pinned (OpenSpec.ofChange ruleTimesWrong)

/-- 'wykeep.RuleKinds': WHATEVER THE INPUT: true; the input reads as it did. -/
def ruleKindsSpec : ChangeSpec := { name := "ruleKinds", fn := fun _ => fun
  | [d1, d2, d3, d4, d5, d6] => { results := [.lit (.bool true)], args := [d1, d2, d3, d4, d5, d6] }
  | _ => none }
def ruleKindsRow : OpenClaim := { program := "ytpjmhajhmkfolaa", sum := "0ed49dd1f2b2e870f6d41c2fb4387c1bcbf0b37e7c7ffaf8544bf184451f24ad", func := "withy/wykeep.RuleKinds", spec := "ruleKinds", apart := false }
def RuleKindsSaid : Prop := ruleKindsRow.holds Try.pinned (OpenSpec.ofChange ruleKindsSpec)

/-- ITS FALSE NEIGHBOUR: 'it returns false'. Refute it at one input. -/
def ruleKindsWrong : ChangeSpec := { name := "ruleKinds", fn := fun _ => fun
  | [d1, d2, d3, d4, d5, d6] => { results := [.lit (.bool false)], args := [d1, d2, d3, d4, d5, d6] }
  | _ => none }
def RuleKindsWrongFalsely : Prop := ruleKindsRow.holds Try.pinned (OpenSpec.ofChange ruleKindsWrong)

/- THE SECOND FORM. 'bulk': how many values and letters a reading holds, each counted each time it is reached (what is shared counts as often as it is met; a slice's spare places count too). A statement '..UptoSaid' is the law's where the arguments, and the package variables that the reading takes, are together of bulk at most 1048576: NARROWER than '..Said'. Prove '..Said' where nothing that the law and all that it calls make is longer than what came in: it says more and counts as full. Else prove '..UptoSaid'. A law counts once. -/
mutual
def uptoBulk {H : Type} : DataW H → Nat
  | .lit (.string bytes) => bytes.length + 1
  | .lit _ => 1
  | .nil => 1
  | .ptr d => uptoBulk d + 1
  | .slice elems spare => uptoBulkAll elems + uptoBulkAll spare + 1
  | .agg parts => uptoBulkAll parts + 1
  | .iface _ d => uptoBulk d + 1
  | .map entries => uptoBulkEntries entries + 1
  | .held _ => 1
def uptoBulkAll {H : Type} : List (DataW H) → Nat
  | [] => 0
  | d :: r => uptoBulk d + uptoBulkAll r
def uptoBulkEntries {H : Type} : List (Lit × DataW H) → Nat
  | [] => 0
  | x :: r => uptoBulkEntry x + uptoBulkEntries r
def uptoBulkEntry {H : Type} : Lit × DataW H → Nat
  | (.string bytes, d) => bytes.length + uptoBulk d + 1
  | (_, d) => uptoBulk d + 1
 end
def uptoSmall : (H : Type) → List (DataW H) → Bool := fun _ ds => decide (uptoBulkAll ds ≤ 1048576)
def OpenSpec.upto (s : _root_.Go.ChangeSpec) : _root_.Go.OpenSpec := { _root_.Go.OpenSpec.ofChange s with cond := some uptoSmall }

/-- 'wylaw.RuleSays', WHERE WHAT IT READS IS OF BULK AT MOST 1048576: true; the input reads as it did. -/
def ruleSaysUptoRow : OpenClaim := { program := "ytpjmhajhmkfolaa", sum := "0ed49dd1f2b2e870f6d41c2fb4387c1bcbf0b37e7c7ffaf8544bf184451f24ad", func := "withy/wylaw.RuleSays", spec := "ruleSays", recurses := true, apart := false, narrowed := true }
def RuleSaysUptoSaid : Prop := ruleSaysUptoRow.holds Try.pinned (OpenSpec.upto ruleSaysSpec)

/-- 'wykeep.RuleMore', WHERE WHAT IT READS IS OF BULK AT MOST 1048576: true; the input reads as it did. -/
def ruleMoreUptoRow : OpenClaim := { program := "ytpjmhajhmkfolaa", sum := "0ed49dd1f2b2e870f6d41c2fb4387c1bcbf0b37e7c7ffaf8544bf184451f24ad", func := "withy/wykeep.RuleMore", spec := "ruleMore", apart := false, narrowed := true }
def RuleMoreUptoSaid : Prop := ruleMoreUptoRow.holds Try.pinned (OpenSpec.upto ruleMoreSpec)

/-- 'wykeep.RuleParts', WHERE WHAT IT READS IS OF BULK AT MOST 1048576: true; the input reads as it did. -/
def rulePartsUptoRow : OpenClaim := { program := "ytpjmhajhmkfolaa", sum := "0ed49dd1f2b2e870f6d41c2fb4387c1bcbf0b37e7c7ffaf8544bf184451f24ad", func := "withy/wykeep.RuleParts", spec := "ruleParts", apart := false, narrowed := true }
def RulePartsUptoSaid : Prop := rulePartsUptoRow.holds Try.pinned (OpenSpec.upto rulePartsSpec)

/-- 'wykeep.RuleRoles', WHERE WHAT IT READS IS OF BULK AT MOST 1048576: true; the input reads as it did. -/
def ruleRolesUptoRow : OpenClaim := { program := "ytpjmhajhmkfolaa", sum := "0ed49dd1f2b2e870f6d41c2fb4387c1bcbf0b37e7c7ffaf8544bf184451f24ad", func := "withy/wykeep.RuleRoles", spec := "ruleRoles", apart := false, narrowed := true }
def RuleRolesUptoSaid : Prop := ruleRolesUptoRow.holds Try.pinned (OpenSpec.upto ruleRolesSpec)

/-- 'wykeep.RuleTimes', WHERE WHAT IT READS IS OF BULK AT MOST 1048576: true; the input reads as it did. -/
def ruleTimesUptoRow : OpenClaim := { program := "ytpjmhajhmkfolaa", sum := "0ed49dd1f2b2e870f6d41c2fb4387c1bcbf0b37e7c7ffaf8544bf184451f24ad", func := "withy/wykeep.RuleTimes", spec := "ruleTimes", apart := false, narrowed := true }
def RuleTimesUptoSaid : Prop := ruleTimesUptoRow.holds Try.pinned (OpenSpec.upto ruleTimesSpec)

/-- 'wykeep.RuleKinds', WHERE WHAT IT READS IS OF BULK AT MOST 1048576: true; the input reads as it did. -/
def ruleKindsUptoRow : OpenClaim := { program := "ytpjmhajhmkfolaa", sum := "0ed49dd1f2b2e870f6d41c2fb4387c1bcbf0b37e7c7ffaf8544bf184451f24ad", func := "withy/wykeep.RuleKinds", spec := "ruleKinds", apart := false, narrowed := true }
def RuleKindsUptoSaid : Prop := ruleKindsUptoRow.holds Try.pinned (OpenSpec.upto ruleKindsSpec)

end Rows
end Go.Proofs.Ytpjmhajhmkfolaa
