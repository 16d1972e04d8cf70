/- The entries under a prefix, and their paths, on plain lists. No program in this text. -/
import Derived.Test.YteclnibbgdbjfaaBook
namespace Go.Proofs.Yteclnibbgdbjfaa

/-- Whether p begins with q. -/
def begins (q p : Bytes) : Bool := p.take q.length == q

/-- The entries under a prefix. -/
def und (q : Bytes) (es : List Ent) : List Ent := es.filter fun x => begins q (Bin.of x.1)
def pths (es : List Ent) : List Bytes := es.map fun x => Bin.of x.1
theorem und_snoc (q : Bytes) (es : List Ent) (x : Ent) : und q (es ++ [x]) = und q es ++ if begins q (Bin.of x.1) = true then [x] else [] := by
  unfold und
  rw [List.filter_append, List.filter_cons, List.filter_nil]
theorem und_le (q : Bytes) (es : List Ent) : (und q es).length ≤ es.length := List.length_filter_le _ _
theorem pths_length (es : List Ent) : (pths es).length = es.length := by simp [pths]
theorem pths_snoc (es : List Ent) (x : Ent) : pths (es ++ [x]) = pths es ++ [Bin.of x.1] := by simp [pths]
end Go.Proofs.Yteclnibbgdbjfaa
