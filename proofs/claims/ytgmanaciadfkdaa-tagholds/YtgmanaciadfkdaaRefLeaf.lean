/- The reference: LeafSaid returns the preimage of entries of one path, NodeSaid that of two hashes. They write nothing that was there. -/
import Derived.Test.YtgmanaciadfkdaaBook
import Derived.Test.YtgmanaciadfkdaaParts
import Derived.Test.YtgmanaciadfkdaaSaid
import Derived.Test.YtgmanaciadfkdaaRefMark
namespace Go.Proofs.Ytgmanaciadfkdaa
open Go.RowKit

/-- What the entries say, one behind the other. -/
def leafBytes (es : List Ent) : Bytes := es.flatMap fun x => Wire.enc [x.1, x.2]
def leafOf (es : List Ent) : Bytes := if es = [] then [0] else 1 :: leafBytes es
theorem leafBytes_snoc (es : List Ent) (x : Ent) : leafBytes (es ++ [x]) = leafBytes es ++ Wire.enc [x.1, x.2] := by simp [leafBytes]
/-- The hash of nothing. -/
def nil0 : Nat := Hash.of [0]
def nodeOf (a b : Nat) : Bytes := if a = nil0 ∧ b = nil0 then [0] else said 2 a b

theorem parts_two (a b : Bytes) (w : World) (g : Nat) (hg : g = w.heap.size) (h : a.length + b.length ≤ 596) (t : TypeId) :
    Calls Try.prog 21 #[.slice (some ⟨g, 0, none⟩) 2 2] (w.alloc (.cells #[.string (S a), .string (S b)] t)) fun e w' => e = .returned (.tuple #[.string (S (Wire.enc [a, b])), .bool true]) ∧ Below (w.alloc (.cells #[.string (S a), .string (S b)] t)).heap.size (w.alloc (.cells #[.string (S a), .string (S b)] t)) w' :=
  parts_yes (some ⟨g, 0, none⟩) 2 [a, b] _ (by unfold maxLen; simp) (by simp [Wire.fitsB, Wire.encLen]; omega) true (by simp) (Row.new w g _ _ t hg rfl)

theorem refMark_0 (w : World) : Calls Try.prog 18 #[.string ⟨#[0]⟩] w fun e w' => e = .returned (.int .u64 (nil0 : Int)) ∧ w = w' := refMark [0] w (by show _ ≤ (2 : Nat) ^ 63 - 1; simp)

end Go.Proofs.Ytgmanaciadfkdaa
