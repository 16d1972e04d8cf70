/-
  No cell of these rows narrows 'for every input' (looked for: loops, veiled, ifaces, maps, wideKeys, modest, calm, conditions, laid).
  DERIVED. THE GIVEN ROWS OF THIS SEAT. 6 by the template 'for every input the law returns true; each argument reads behind the call as it read before'; 0 by the template 'total and deterministic' (their statements: YtjifggnmjhfgfaaTotals.lean).
  GIVEN WITH THE SEED: the statements are not yours to turn. If you find one false, say at which input.
  Laid BY PROGRAM, IN A SANDBOX (cutbox-rows.mjs): the forced cells as the released guide's own fill.sh prints them over the translation 46f43b4933337694… (all of the seat's roots in one cut). By AI agents, Wed Nov 11 2026. No macro, syntax, notation, axiom, sorry.
-/
import Derived.Test.YtjifggnmjhfgfaaChecked
import GoSem.Claim
import GoSem.ClaimJoined
import GoSem.ClaimMapViews
import Derived.JoinedTies
import Derived.KernelRfl
namespace Go.Proofs.Ytjifggnmjhfgfaa
/- THE CELL 'sum', in the pinned program and in every row, IS THE sha256 OF THE DUMP (.gsa) THAT YtjifggnmjhfgfaaProg.lean LOADS. Nothing in Lean hashes anything: it is a label: what it is worth is what the hold of that sum in a sandbox is worth. -/
noncomputable def Try.pinned : Pinned := { name := "ytjifggnmjhfgfaa", sum := "46f43b4933337694ff45a968cad69b6a76fa446850734d54df5b39a498bb04b6", checked := Try.checked }
namespace Rows
def none {H : Type} : Left H := { results := [], args := [] }

/-- 'tallyrolllaw.ProofMakes': WHATEVER THE INPUT: true; the input reads as it did. -/
def proofMakesSpec : ChangeSpec := { name := "proofMakes", fn := fun _ => fun
  | [d1, d2, d3] => { results := [.lit (.bool true)], args := [d1, d2, d3] }
  | _ => none }
def proofMakesRow : OpenClaim := { program := "ytjifggnmjhfgfaa", sum := "46f43b4933337694ff45a968cad69b6a76fa446850734d54df5b39a498bb04b6", func := "tallyroll/tallyrolllaw.ProofMakes", spec := "proofMakes", unfollowed := true, recurses := true, apart := false }
def ProofMakesSaid : Prop := proofMakesRow.holds Try.pinned (OpenSpec.ofChange proofMakesSpec)

/-- ITS FALSE NEIGHBOUR: 'it returns false'. Refute it at one input. -/
def proofMakesWrong : ChangeSpec := { name := "proofMakes", fn := fun _ => fun
  | [d1, d2, d3] => { results := [.lit (.bool false)], args := [d1, d2, d3] }
  | _ => none }
def ProofMakesWrongFalsely : Prop := proofMakesRow.holds Try.pinned (OpenSpec.ofChange proofMakesWrong)

/-- 'tallyrolllaw.ProofTells': WHATEVER THE INPUT: true; the input reads as it did. -/
def proofTellsSpec : ChangeSpec := { name := "proofTells", fn := fun _ => fun
  | [d1, d2, d3] => { results := [.lit (.bool true)], args := [d1, d2, d3] }
  | _ => none }
def proofTellsRow : OpenClaim := { program := "ytjifggnmjhfgfaa", sum := "46f43b4933337694ff45a968cad69b6a76fa446850734d54df5b39a498bb04b6", func := "tallyroll/tallyrolllaw.ProofTells", spec := "proofTells", unfollowed := true, recurses := true, apart := false }
def ProofTellsSaid : Prop := proofTellsRow.holds Try.pinned (OpenSpec.ofChange proofTellsSpec)

/-- ITS FALSE NEIGHBOUR: 'it returns false'. Refute it at one input. -/
def proofTellsWrong : ChangeSpec := { name := "proofTells", fn := fun _ => fun
  | [d1, d2, d3] => { results := [.lit (.bool false)], args := [d1, d2, d3] }
  | _ => none }
def ProofTellsWrongFalsely : Prop := proofTellsRow.holds Try.pinned (OpenSpec.ofChange proofTellsWrong)

/-- 'tallyrollkeep.ProofHolds': WHATEVER THE INPUT: true; the input reads as it did. -/
def proofHoldsSpec : ChangeSpec := { name := "proofHolds", fn := fun _ => fun
  | [d1, d2] => { results := [.lit (.bool true)], args := [d1, d2] }
  | _ => none }
def proofHoldsRow : OpenClaim := { program := "ytjifggnmjhfgfaa", sum := "46f43b4933337694ff45a968cad69b6a76fa446850734d54df5b39a498bb04b6", func := "tallyroll/tallyrollkeep.ProofHolds", spec := "proofHolds", unfollowed := true, recurses := true, apart := false }
def ProofHoldsSaid : Prop := proofHoldsRow.holds Try.pinned (OpenSpec.ofChange proofHoldsSpec)

/-- ITS FALSE NEIGHBOUR: 'it returns false'. Refute it at one input. -/
def proofHoldsWrong : ChangeSpec := { name := "proofHolds", fn := fun _ => fun
  | [d1, d2] => { results := [.lit (.bool false)], args := [d1, d2] }
  | _ => none }
def ProofHoldsWrongFalsely : Prop := proofHoldsRow.holds Try.pinned (OpenSpec.ofChange proofHoldsWrong)

/-- 'tallyrollkeep.ProofAfter': WHATEVER THE INPUT: true; the input reads as it did. -/
def proofAfterSpec : ChangeSpec := { name := "proofAfter", fn := fun _ => fun
  | [d1, d2, d3] => { results := [.lit (.bool true)], args := [d1, d2, d3] }
  | _ => none }
def proofAfterRow : OpenClaim := { program := "ytjifggnmjhfgfaa", sum := "46f43b4933337694ff45a968cad69b6a76fa446850734d54df5b39a498bb04b6", func := "tallyroll/tallyrollkeep.ProofAfter", spec := "proofAfter", unfollowed := true, recurses := true, apart := false }
def ProofAfterSaid : Prop := proofAfterRow.holds Try.pinned (OpenSpec.ofChange proofAfterSpec)

/-- ITS FALSE NEIGHBOUR: 'it returns false'. Refute it at one input. -/
def proofAfterWrong : ChangeSpec := { name := "proofAfter", fn := fun _ => fun
  | [d1, d2, d3] => { results := [.lit (.bool false)], args := [d1, d2, d3] }
  | _ => none }
def ProofAfterWrongFalsely : Prop := proofAfterRow.holds Try.pinned (OpenSpec.ofChange proofAfterWrong)

/-- 'tallyrollkeep.ProofOthers': WHATEVER THE INPUT: true; the input reads as it did. -/
def proofOthersSpec : ChangeSpec := { name := "proofOthers", fn := fun _ => fun
  | [d1, d2, d3] => { results := [.lit (.bool true)], args := [d1, d2, d3] }
  | _ => none }
def proofOthersRow : OpenClaim := { program := "ytjifggnmjhfgfaa", sum := "46f43b4933337694ff45a968cad69b6a76fa446850734d54df5b39a498bb04b6", func := "tallyroll/tallyrollkeep.ProofOthers", spec := "proofOthers", unfollowed := true, recurses := true, apart := false }
def ProofOthersSaid : Prop := proofOthersRow.holds Try.pinned (OpenSpec.ofChange proofOthersSpec)

/-- ITS FALSE NEIGHBOUR: 'it returns false'. Refute it at one input. -/
def proofOthersWrong : ChangeSpec := { name := "proofOthers", fn := fun _ => fun
  | [d1, d2, d3] => { results := [.lit (.bool false)], args := [d1, d2, d3] }
  | _ => none }
def ProofOthersWrongFalsely : Prop := proofOthersRow.holds Try.pinned (OpenSpec.ofChange proofOthersWrong)

/-- 'tallyrollkeep.ProofOwn': WHATEVER THE INPUT: true; the input reads as it did. -/
def proofOwnSpec : ChangeSpec := { name := "proofOwn", fn := fun _ => fun
  | [d1, d2, d3] => { results := [.lit (.bool true)], args := [d1, d2, d3] }
  | _ => none }
def proofOwnRow : OpenClaim := { program := "ytjifggnmjhfgfaa", sum := "46f43b4933337694ff45a968cad69b6a76fa446850734d54df5b39a498bb04b6", func := "tallyroll/tallyrollkeep.ProofOwn", spec := "proofOwn", unfollowed := true, recurses := true, apart := false }
def ProofOwnSaid : Prop := proofOwnRow.holds Try.pinned (OpenSpec.ofChange proofOwnSpec)

/-- ITS FALSE NEIGHBOUR: 'it returns false'. Refute it at one input. -/
def proofOwnWrong : ChangeSpec := { name := "proofOwn", fn := fun _ => fun
  | [d1, d2, d3] => { results := [.lit (.bool false)], args := [d1, d2, d3] }
  | _ => none }
def ProofOwnWrongFalsely : Prop := proofOwnRow.holds Try.pinned (OpenSpec.ofChange proofOwnWrong)

/- THE SECOND FORM. 'bulk': how many values and letters a reading holds, each counted each time it is reached (what is shared counts as often as it is met; a slice's spare places count too). A statement '..UptoSaid' is the law's where the arguments, and the package variables that the reading takes, are together of bulk at most 1048576: NARROWER than '..Said'. Prove '..Said' where nothing that the law and all that it calls make is longer than what came in: it says more and counts as full. Else prove '..UptoSaid'. A law counts once. -/
mutual
def uptoBulk {H : Type} : DataW H → Nat
  | .lit (.string bytes) => bytes.length + 1
  | .lit _ => 1
  | .nil => 1
  | .ptr d => uptoBulk d + 1
  | .slice elems spare => uptoBulkAll elems + uptoBulkAll spare + 1
  | .agg parts => uptoBulkAll parts + 1
  | .iface _ d => uptoBulk d + 1
  | .map entries => uptoBulkEntries entries + 1
  | .held _ => 1
def uptoBulkAll {H : Type} : List (DataW H) → Nat
  | [] => 0
  | d :: r => uptoBulk d + uptoBulkAll r
def uptoBulkEntries {H : Type} : List (Lit × DataW H) → Nat
  | [] => 0
  | x :: r => uptoBulkEntry x + uptoBulkEntries r
def uptoBulkEntry {H : Type} : Lit × DataW H → Nat
  | (.string bytes, d) => bytes.length + uptoBulk d + 1
  | (_, d) => uptoBulk d + 1
 end
def uptoSmall : (H : Type) → List (DataW H) → Bool := fun _ ds => decide (uptoBulkAll ds ≤ 1048576)
def OpenSpec.upto (s : _root_.Go.ChangeSpec) : _root_.Go.OpenSpec := { _root_.Go.OpenSpec.ofChange s with cond := some uptoSmall }

/-- 'tallyrolllaw.ProofMakes', WHERE WHAT IT READS IS OF BULK AT MOST 1048576: true; the input reads as it did. -/
def proofMakesUptoRow : OpenClaim := { program := "ytjifggnmjhfgfaa", sum := "46f43b4933337694ff45a968cad69b6a76fa446850734d54df5b39a498bb04b6", func := "tallyroll/tallyrolllaw.ProofMakes", spec := "proofMakes", unfollowed := true, recurses := true, apart := false, narrowed := true }
def ProofMakesUptoSaid : Prop := proofMakesUptoRow.holds Try.pinned (OpenSpec.upto proofMakesSpec)

/-- 'tallyrolllaw.ProofTells', WHERE WHAT IT READS IS OF BULK AT MOST 1048576: true; the input reads as it did. -/
def proofTellsUptoRow : OpenClaim := { program := "ytjifggnmjhfgfaa", sum := "46f43b4933337694ff45a968cad69b6a76fa446850734d54df5b39a498bb04b6", func := "tallyroll/tallyrolllaw.ProofTells", spec := "proofTells", unfollowed := true, recurses := true, apart := false, narrowed := true }
def ProofTellsUptoSaid : Prop := proofTellsUptoRow.holds Try.pinned (OpenSpec.upto proofTellsSpec)

/-- 'tallyrollkeep.ProofHolds', WHERE WHAT IT READS IS OF BULK AT MOST 1048576: true; the input reads as it did. -/
def proofHoldsUptoRow : OpenClaim := { program := "ytjifggnmjhfgfaa", sum := "46f43b4933337694ff45a968cad69b6a76fa446850734d54df5b39a498bb04b6", func := "tallyroll/tallyrollkeep.ProofHolds", spec := "proofHolds", unfollowed := true, recurses := true, apart := false, narrowed := true }
def ProofHoldsUptoSaid : Prop := proofHoldsUptoRow.holds Try.pinned (OpenSpec.upto proofHoldsSpec)

/-- 'tallyrollkeep.ProofAfter', WHERE WHAT IT READS IS OF BULK AT MOST 1048576: true; the input reads as it did. -/
def proofAfterUptoRow : OpenClaim := { program := "ytjifggnmjhfgfaa", sum := "46f43b4933337694ff45a968cad69b6a76fa446850734d54df5b39a498bb04b6", func := "tallyroll/tallyrollkeep.ProofAfter", spec := "proofAfter", unfollowed := true, recurses := true, apart := false, narrowed := true }
def ProofAfterUptoSaid : Prop := proofAfterUptoRow.holds Try.pinned (OpenSpec.upto proofAfterSpec)

/-- 'tallyrollkeep.ProofOthers', WHERE WHAT IT READS IS OF BULK AT MOST 1048576: true; the input reads as it did. -/
def proofOthersUptoRow : OpenClaim := { program := "ytjifggnmjhfgfaa", sum := "46f43b4933337694ff45a968cad69b6a76fa446850734d54df5b39a498bb04b6", func := "tallyroll/tallyrollkeep.ProofOthers", spec := "proofOthers", unfollowed := true, recurses := true, apart := false, narrowed := true }
def ProofOthersUptoSaid : Prop := proofOthersUptoRow.holds Try.pinned (OpenSpec.upto proofOthersSpec)

/-- 'tallyrollkeep.ProofOwn', WHERE WHAT IT READS IS OF BULK AT MOST 1048576: true; the input reads as it did. -/
def proofOwnUptoRow : OpenClaim := { program := "ytjifggnmjhfgfaa", sum := "46f43b4933337694ff45a968cad69b6a76fa446850734d54df5b39a498bb04b6", func := "tallyroll/tallyrollkeep.ProofOwn", spec := "proofOwn", unfollowed := true, recurses := true, apart := false, narrowed := true }
def ProofOwnUptoSaid : Prop := proofOwnUptoRow.holds Try.pinned (OpenSpec.upto proofOwnSpec)

end Rows
end Go.Proofs.Ytjifggnmjhfgfaa
