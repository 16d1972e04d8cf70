/-
  No cell of these rows narrows 'for every input' (looked for: loops, veiled, ifaces, maps, wideKeys, modest, calm, conditions, laid).
  DERIVED. THE GIVEN ROWS OF THIS SEAT. 3 by the template 'for every input the law returns true; each argument reads behind the call as it read before'; 0 by the template 'total and deterministic' (their statements: YteclnibbgdbjfaaTotals.lean).
  GIVEN WITH THE SEED: the statements are not yours to turn. If you find one false, say at which input.
  Laid BY PROGRAM, IN A SANDBOX (cutbox-rows.mjs): the forced cells as the released guide's own fill.sh prints them over the translation 6947ade506e3f0c4… (all of the seat's roots in one cut). By AI agents, Wed Nov 11 2026. No macro, syntax, notation, axiom, sorry.
-/
import Derived.Test.YteclnibbgdbjfaaChecked
import GoSem.Claim
import GoSem.ClaimJoined
import GoSem.ClaimMapViews
import Derived.JoinedTies
import Derived.KernelRfl
namespace Go.Proofs.Yteclnibbgdbjfaa
/- THE CELL 'sum', in the pinned program and in every row, IS THE sha256 OF THE DUMP (.gsa) THAT YteclnibbgdbjfaaProg.lean LOADS. Nothing in Lean hashes anything: it is a label: what it is worth is what the hold of that sum in a sandbox is worth. -/
noncomputable def Try.pinned : Pinned := { name := "yteclnibbgdbjfaa", sum := "6947ade506e3f0c4b3817e9ca3df5ef90eb22506f67ebefbdd4d925109cb7ce7", checked := Try.checked }
namespace Rows
def none {H : Type} : Left H := { results := [], args := [] }

/-- 'tallyrolllaw.ClashTells': WHATEVER THE INPUT: true; the input reads as it did. -/
def clashTellsSpec : ChangeSpec := { name := "clashTells", fn := fun _ => fun
  | [d1, d2, d3, d4] => { results := [.lit (.bool true)], args := [d1, d2, d3, d4] }
  | _ => none }
def clashTellsRow : OpenClaim := { program := "yteclnibbgdbjfaa", sum := "6947ade506e3f0c4b3817e9ca3df5ef90eb22506f67ebefbdd4d925109cb7ce7", func := "tallyroll/tallyrolllaw.ClashTells", spec := "clashTells", unfollowed := true, recurses := true, apart := false }
def ClashTellsSaid : Prop := clashTellsRow.holds Try.pinned (OpenSpec.ofChange clashTellsSpec)

/-- ITS FALSE NEIGHBOUR: 'it returns false'. Refute it at one input. -/
def clashTellsWrong : ChangeSpec := { name := "clashTells", fn := fun _ => fun
  | [d1, d2, d3, d4] => { results := [.lit (.bool false)], args := [d1, d2, d3, d4] }
  | _ => none }
def ClashTellsWrongFalsely : Prop := clashTellsRow.holds Try.pinned (OpenSpec.ofChange clashTellsWrong)

/-- 'tallyrollkeep.ProofBinds': WHATEVER THE INPUT: true; the input reads as it did. -/
def proofBindsSpec : ChangeSpec := { name := "proofBinds", fn := fun _ => fun
  | [d1, d2, d3] => { results := [.lit (.bool true)], args := [d1, d2, d3] }
  | _ => none }
def proofBindsRow : OpenClaim := { program := "yteclnibbgdbjfaa", sum := "6947ade506e3f0c4b3817e9ca3df5ef90eb22506f67ebefbdd4d925109cb7ce7", func := "tallyroll/tallyrollkeep.ProofBinds", spec := "proofBinds", unfollowed := true, recurses := true, apart := false }
def ProofBindsSaid : Prop := proofBindsRow.holds Try.pinned (OpenSpec.ofChange proofBindsSpec)

/-- ITS FALSE NEIGHBOUR: 'it returns false'. Refute it at one input. -/
def proofBindsWrong : ChangeSpec := { name := "proofBinds", fn := fun _ => fun
  | [d1, d2, d3] => { results := [.lit (.bool false)], args := [d1, d2, d3] }
  | _ => none }
def ProofBindsWrongFalsely : Prop := proofBindsRow.holds Try.pinned (OpenSpec.ofChange proofBindsWrong)

/-- 'tallyrollkeep.ClashIs': WHATEVER THE INPUT: true; the input reads as it did. -/
def clashIsSpec : ChangeSpec := { name := "clashIs", fn := fun _ => fun
  | [d1, d2, d3, d4] => { results := [.lit (.bool true)], args := [d1, d2, d3, d4] }
  | _ => none }
def clashIsRow : OpenClaim := { program := "yteclnibbgdbjfaa", sum := "6947ade506e3f0c4b3817e9ca3df5ef90eb22506f67ebefbdd4d925109cb7ce7", func := "tallyroll/tallyrollkeep.ClashIs", spec := "clashIs", unfollowed := true, recurses := true, apart := false }
def ClashIsSaid : Prop := clashIsRow.holds Try.pinned (OpenSpec.ofChange clashIsSpec)

/-- ITS FALSE NEIGHBOUR: 'it returns false'. Refute it at one input. -/
def clashIsWrong : ChangeSpec := { name := "clashIs", fn := fun _ => fun
  | [d1, d2, d3, d4] => { results := [.lit (.bool false)], args := [d1, d2, d3, d4] }
  | _ => none }
def ClashIsWrongFalsely : Prop := clashIsRow.holds Try.pinned (OpenSpec.ofChange clashIsWrong)

/- THE SECOND FORM. 'bulk': how many values and letters a reading holds, each counted each time it is reached (what is shared counts as often as it is met; a slice's spare places count too). A statement '..UptoSaid' is the law's where the arguments, and the package variables that the reading takes, are together of bulk at most 1048576: NARROWER than '..Said'. Prove '..Said' where nothing that the law and all that it calls make is longer than what came in: it says more and counts as full. Else prove '..UptoSaid'. A law counts once. -/
mutual
def uptoBulk {H : Type} : DataW H → Nat
  | .lit (.string bytes) => bytes.length + 1
  | .lit _ => 1
  | .nil => 1
  | .ptr d => uptoBulk d + 1
  | .slice elems spare => uptoBulkAll elems + uptoBulkAll spare + 1
  | .agg parts => uptoBulkAll parts + 1
  | .iface _ d => uptoBulk d + 1
  | .map entries => uptoBulkEntries entries + 1
  | .held _ => 1
def uptoBulkAll {H : Type} : List (DataW H) → Nat
  | [] => 0
  | d :: r => uptoBulk d + uptoBulkAll r
def uptoBulkEntries {H : Type} : List (Lit × DataW H) → Nat
  | [] => 0
  | x :: r => uptoBulkEntry x + uptoBulkEntries r
def uptoBulkEntry {H : Type} : Lit × DataW H → Nat
  | (.string bytes, d) => bytes.length + uptoBulk d + 1
  | (_, d) => uptoBulk d + 1
 end
def uptoSmall : (H : Type) → List (DataW H) → Bool := fun _ ds => decide (uptoBulkAll ds ≤ 1048576)
def OpenSpec.upto (s : _root_.Go.ChangeSpec) : _root_.Go.OpenSpec := { _root_.Go.OpenSpec.ofChange s with cond := some uptoSmall }

/-- 'tallyrolllaw.ClashTells', WHERE WHAT IT READS IS OF BULK AT MOST 1048576: true; the input reads as it did. -/
def clashTellsUptoRow : OpenClaim := { program := "yteclnibbgdbjfaa", sum := "6947ade506e3f0c4b3817e9ca3df5ef90eb22506f67ebefbdd4d925109cb7ce7", func := "tallyroll/tallyrolllaw.ClashTells", spec := "clashTells", unfollowed := true, recurses := true, apart := false, narrowed := true }
def ClashTellsUptoSaid : Prop := clashTellsUptoRow.holds Try.pinned (OpenSpec.upto clashTellsSpec)

/-- 'tallyrollkeep.ProofBinds', WHERE WHAT IT READS IS OF BULK AT MOST 1048576: true; the input reads as it did. -/
def proofBindsUptoRow : OpenClaim := { program := "yteclnibbgdbjfaa", sum := "6947ade506e3f0c4b3817e9ca3df5ef90eb22506f67ebefbdd4d925109cb7ce7", func := "tallyroll/tallyrollkeep.ProofBinds", spec := "proofBinds", unfollowed := true, recurses := true, apart := false, narrowed := true }
def ProofBindsUptoSaid : Prop := proofBindsUptoRow.holds Try.pinned (OpenSpec.upto proofBindsSpec)

/-- 'tallyrollkeep.ClashIs', WHERE WHAT IT READS IS OF BULK AT MOST 1048576: true; the input reads as it did. -/
def clashIsUptoRow : OpenClaim := { program := "yteclnibbgdbjfaa", sum := "6947ade506e3f0c4b3817e9ca3df5ef90eb22506f67ebefbdd4d925109cb7ce7", func := "tallyroll/tallyrollkeep.ClashIs", spec := "clashIs", unfollowed := true, recurses := true, apart := false, narrowed := true }
def ClashIsUptoSaid : Prop := clashIsUptoRow.holds Try.pinned (OpenSpec.upto clashIsSpec)

end Rows
end Go.Proofs.Yteclnibbgdbjfaa
