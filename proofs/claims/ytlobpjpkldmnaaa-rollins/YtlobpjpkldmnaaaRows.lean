/-
  No cell of these rows narrows 'for every input' (looked for: loops, veiled, ifaces, maps, wideKeys, modest, calm, conditions, laid).
  DERIVED. THE GIVEN ROWS OF THIS SEAT. 5 by the template 'for every input the law returns true; each argument reads behind the call as it read before'; 0 by the template 'total and deterministic' (their statements: YtlobpjpkldmnaaaTotals.lean).
  GIVEN WITH THE SEED: the statements are not yours to turn. If you find one false, say at which input.
  Laid BY PROGRAM, IN A SANDBOX (cutbox-rows.mjs): the forced cells as the released guide's own fill.sh prints them over the translation 2185cbdbd7e66cac… (all of the seat's roots in one cut). By AI agents, Wed Nov 11 2026. No macro, syntax, notation, axiom, sorry.
-/
import Derived.Test.YtlobpjpkldmnaaaChecked
import GoSem.Claim
import GoSem.ClaimJoined
import GoSem.ClaimMapViews
import Derived.JoinedTies
import Derived.KernelRfl
namespace Go.Proofs.Ytlobpjpkldmnaaa
/- THE CELL 'sum', in the pinned program and in every row, IS THE sha256 OF THE DUMP (.gsa) THAT YtlobpjpkldmnaaaProg.lean LOADS. Nothing in Lean hashes anything: it is a label: what it is worth is what the hold of that sum in a sandbox is worth. -/
noncomputable def Try.pinned : Pinned := { name := "ytlobpjpkldmnaaa", sum := "2185cbdbd7e66cac4ef779efed07151d72ca8f79e663a5e02250858964e33c2d", checked := Try.checked }
namespace Rows
def none {H : Type} : Left H := { results := [], args := [] }

/-- 'tallyrolllaw.RollTells': WHATEVER THE INPUT: true; the input reads as it did. -/
def rollTellsSpec : ChangeSpec := { name := "rollTells", fn := fun _ => fun
  | [d1, d2, d3, d4, d5, d6] => { results := [.lit (.bool true)], args := [d1, d2, d3, d4, d5, d6] }
  | _ => none }
def rollTellsRow : OpenClaim := { program := "ytlobpjpkldmnaaa", sum := "2185cbdbd7e66cac4ef779efed07151d72ca8f79e663a5e02250858964e33c2d", func := "tallyroll/tallyrolllaw.RollTells", spec := "rollTells", recurses := true, apart := false }
def RollTellsSaid : Prop := rollTellsRow.holds Try.pinned (OpenSpec.ofChange rollTellsSpec)

/-- ITS FALSE NEIGHBOUR: 'it returns false'. Refute it at one input. -/
def rollTellsWrong : ChangeSpec := { name := "rollTells", fn := fun _ => fun
  | [d1, d2, d3, d4, d5, d6] => { results := [.lit (.bool false)], args := [d1, d2, d3, d4, d5, d6] }
  | _ => none }
def RollTellsWrongFalsely : Prop := rollTellsRow.holds Try.pinned (OpenSpec.ofChange rollTellsWrong)

/-- 'tallyrolllaw.RollGrows': WHATEVER THE INPUT: true; the input reads as it did. -/
def rollGrowsSpec : ChangeSpec := { name := "rollGrows", fn := fun _ => fun
  | [d1, d2, d3, d4, d5, d6, d7] => { results := [.lit (.bool true)], args := [d1, d2, d3, d4, d5, d6, d7] }
  | _ => none }
def rollGrowsRow : OpenClaim := { program := "ytlobpjpkldmnaaa", sum := "2185cbdbd7e66cac4ef779efed07151d72ca8f79e663a5e02250858964e33c2d", func := "tallyroll/tallyrolllaw.RollGrows", spec := "rollGrows", recurses := true, apart := false }
def RollGrowsSaid : Prop := rollGrowsRow.holds Try.pinned (OpenSpec.ofChange rollGrowsSpec)

/-- ITS FALSE NEIGHBOUR: 'it returns false'. Refute it at one input. -/
def rollGrowsWrong : ChangeSpec := { name := "rollGrows", fn := fun _ => fun
  | [d1, d2, d3, d4, d5, d6, d7] => { results := [.lit (.bool false)], args := [d1, d2, d3, d4, d5, d6, d7] }
  | _ => none }
def RollGrowsWrongFalsely : Prop := rollGrowsRow.holds Try.pinned (OpenSpec.ofChange rollGrowsWrong)

/-- 'tallyrollkeep.RollIns': WHATEVER THE INPUT: true; the input reads as it did. -/
def rollInsSpec : ChangeSpec := { name := "rollIns", fn := fun _ => fun
  | [d1, d2] => { results := [.lit (.bool true)], args := [d1, d2] }
  | _ => none }
def rollInsRow : OpenClaim := { program := "ytlobpjpkldmnaaa", sum := "2185cbdbd7e66cac4ef779efed07151d72ca8f79e663a5e02250858964e33c2d", func := "tallyroll/tallyrollkeep.RollIns", spec := "rollIns", unfollowed := true, recurses := true, apart := false }
def RollInsSaid : Prop := rollInsRow.holds Try.pinned (OpenSpec.ofChange rollInsSpec)

/-- ITS FALSE NEIGHBOUR: 'it returns false'. Refute it at one input. -/
def rollInsWrong : ChangeSpec := { name := "rollIns", fn := fun _ => fun
  | [d1, d2] => { results := [.lit (.bool false)], args := [d1, d2] }
  | _ => none }
def RollInsWrongFalsely : Prop := rollInsRow.holds Try.pinned (OpenSpec.ofChange rollInsWrong)

/-- 'tallyrollkeep.RollBinds': WHATEVER THE INPUT: true; the input reads as it did. -/
def rollBindsSpec : ChangeSpec := { name := "rollBinds", fn := fun _ => fun
  | [d1, d2, d3, d4] => { results := [.lit (.bool true)], args := [d1, d2, d3, d4] }
  | _ => none }
def rollBindsRow : OpenClaim := { program := "ytlobpjpkldmnaaa", sum := "2185cbdbd7e66cac4ef779efed07151d72ca8f79e663a5e02250858964e33c2d", func := "tallyroll/tallyrollkeep.RollBinds", spec := "rollBinds", unfollowed := true, recurses := true, apart := false }
def RollBindsSaid : Prop := rollBindsRow.holds Try.pinned (OpenSpec.ofChange rollBindsSpec)

/-- ITS FALSE NEIGHBOUR: 'it returns false'. Refute it at one input. -/
def rollBindsWrong : ChangeSpec := { name := "rollBinds", fn := fun _ => fun
  | [d1, d2, d3, d4] => { results := [.lit (.bool false)], args := [d1, d2, d3, d4] }
  | _ => none }
def RollBindsWrongFalsely : Prop := rollBindsRow.holds Try.pinned (OpenSpec.ofChange rollBindsWrong)

/-- 'tallyrollkeep.RollGrew': WHATEVER THE INPUT: true; the input reads as it did. -/
def rollGrewSpec : ChangeSpec := { name := "rollGrew", fn := fun _ => fun
  | [d1, d2] => { results := [.lit (.bool true)], args := [d1, d2] }
  | _ => none }
def rollGrewRow : OpenClaim := { program := "ytlobpjpkldmnaaa", sum := "2185cbdbd7e66cac4ef779efed07151d72ca8f79e663a5e02250858964e33c2d", func := "tallyroll/tallyrollkeep.RollGrew", spec := "rollGrew", unfollowed := true, recurses := true, apart := false }
def RollGrewSaid : Prop := rollGrewRow.holds Try.pinned (OpenSpec.ofChange rollGrewSpec)

/-- ITS FALSE NEIGHBOUR: 'it returns false'. Refute it at one input. -/
def rollGrewWrong : ChangeSpec := { name := "rollGrew", fn := fun _ => fun
  | [d1, d2] => { results := [.lit (.bool false)], args := [d1, d2] }
  | _ => none }
def RollGrewWrongFalsely : Prop := rollGrewRow.holds Try.pinned (OpenSpec.ofChange rollGrewWrong)

/- THE SECOND FORM. 'bulk': how many values and letters a reading holds, each counted each time it is reached (what is shared counts as often as it is met; a slice's spare places count too). A statement '..UptoSaid' is the law's where the arguments, and the package variables that the reading takes, are together of bulk at most 1048576: NARROWER than '..Said'. Prove '..Said' where nothing that the law and all that it calls make is longer than what came in: it says more and counts as full. Else prove '..UptoSaid'. A law counts once. -/
mutual
def uptoBulk {H : Type} : DataW H → Nat
  | .lit (.string bytes) => bytes.length + 1
  | .lit _ => 1
  | .nil => 1
  | .ptr d => uptoBulk d + 1
  | .slice elems spare => uptoBulkAll elems + uptoBulkAll spare + 1
  | .agg parts => uptoBulkAll parts + 1
  | .iface _ d => uptoBulk d + 1
  | .map entries => uptoBulkEntries entries + 1
  | .held _ => 1
def uptoBulkAll {H : Type} : List (DataW H) → Nat
  | [] => 0
  | d :: r => uptoBulk d + uptoBulkAll r
def uptoBulkEntries {H : Type} : List (Lit × DataW H) → Nat
  | [] => 0
  | x :: r => uptoBulkEntry x + uptoBulkEntries r
def uptoBulkEntry {H : Type} : Lit × DataW H → Nat
  | (.string bytes, d) => bytes.length + uptoBulk d + 1
  | (_, d) => uptoBulk d + 1
 end
def uptoSmall : (H : Type) → List (DataW H) → Bool := fun _ ds => decide (uptoBulkAll ds ≤ 1048576)
def OpenSpec.upto (s : _root_.Go.ChangeSpec) : _root_.Go.OpenSpec := { _root_.Go.OpenSpec.ofChange s with cond := some uptoSmall }

/-- 'tallyrolllaw.RollTells', WHERE WHAT IT READS IS OF BULK AT MOST 1048576: true; the input reads as it did. -/
def rollTellsUptoRow : OpenClaim := { program := "ytlobpjpkldmnaaa", sum := "2185cbdbd7e66cac4ef779efed07151d72ca8f79e663a5e02250858964e33c2d", func := "tallyroll/tallyrolllaw.RollTells", spec := "rollTells", recurses := true, apart := false, narrowed := true }
def RollTellsUptoSaid : Prop := rollTellsUptoRow.holds Try.pinned (OpenSpec.upto rollTellsSpec)

/-- 'tallyrolllaw.RollGrows', WHERE WHAT IT READS IS OF BULK AT MOST 1048576: true; the input reads as it did. -/
def rollGrowsUptoRow : OpenClaim := { program := "ytlobpjpkldmnaaa", sum := "2185cbdbd7e66cac4ef779efed07151d72ca8f79e663a5e02250858964e33c2d", func := "tallyroll/tallyrolllaw.RollGrows", spec := "rollGrows", recurses := true, apart := false, narrowed := true }
def RollGrowsUptoSaid : Prop := rollGrowsUptoRow.holds Try.pinned (OpenSpec.upto rollGrowsSpec)

/-- 'tallyrollkeep.RollIns', WHERE WHAT IT READS IS OF BULK AT MOST 1048576: true; the input reads as it did. -/
def rollInsUptoRow : OpenClaim := { program := "ytlobpjpkldmnaaa", sum := "2185cbdbd7e66cac4ef779efed07151d72ca8f79e663a5e02250858964e33c2d", func := "tallyroll/tallyrollkeep.RollIns", spec := "rollIns", unfollowed := true, recurses := true, apart := false, narrowed := true }
def RollInsUptoSaid : Prop := rollInsUptoRow.holds Try.pinned (OpenSpec.upto rollInsSpec)

/-- 'tallyrollkeep.RollBinds', WHERE WHAT IT READS IS OF BULK AT MOST 1048576: true; the input reads as it did. -/
def rollBindsUptoRow : OpenClaim := { program := "ytlobpjpkldmnaaa", sum := "2185cbdbd7e66cac4ef779efed07151d72ca8f79e663a5e02250858964e33c2d", func := "tallyroll/tallyrollkeep.RollBinds", spec := "rollBinds", unfollowed := true, recurses := true, apart := false, narrowed := true }
def RollBindsUptoSaid : Prop := rollBindsUptoRow.holds Try.pinned (OpenSpec.upto rollBindsSpec)

/-- 'tallyrollkeep.RollGrew', WHERE WHAT IT READS IS OF BULK AT MOST 1048576: true; the input reads as it did. -/
def rollGrewUptoRow : OpenClaim := { program := "ytlobpjpkldmnaaa", sum := "2185cbdbd7e66cac4ef779efed07151d72ca8f79e663a5e02250858964e33c2d", func := "tallyroll/tallyrollkeep.RollGrew", spec := "rollGrew", unfollowed := true, recurses := true, apart := false, narrowed := true }
def RollGrewUptoSaid : Prop := rollGrewUptoRow.holds Try.pinned (OpenSpec.upto rollGrewSpec)

end Rows
end Go.Proofs.Ytlobpjpkldmnaaa
