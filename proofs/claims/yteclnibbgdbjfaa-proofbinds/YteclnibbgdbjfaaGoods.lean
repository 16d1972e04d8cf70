/- The check 'good' of two to five errors: whether all are OK. It writes nothing. -/
import Derived.Test.YteclnibbgdbjfaaGood
namespace Go.Proofs.Yteclnibbgdbjfaa
open Go.RowKit

theorem goods2 (a b : Int) (w : World) (g : Nat) (t : TypeId) (hg : g = w.heap.size) (r : Bool) (hr : (a == 0 && b == 0) = r) :
    Calls Try.prog 16 #[.slice (some ⟨g, 0, none⟩) 2 2] (w.alloc (.cells #[.int .i64 a, .int .i64 b] t)) fun e w' => e = .returned (.bool r) ∧ w.alloc (.cells #[.int .i64 a, .int .i64 b] t) = w' :=
  good_any (some ⟨g, 0, none⟩) 2 [a, b] _ (by simp) r (by rw [← hr]; simp [allOk]) (Row.new w g _ _ t hg rfl)
theorem goods3 (a b c : Int) (w : World) (g : Nat) (t : TypeId) (hg : g = w.heap.size) (r : Bool) (hr : (a == 0 && (b == 0 && c == 0)) = r) :
    Calls Try.prog 16 #[.slice (some ⟨g, 0, none⟩) 3 3] (w.alloc (.cells #[.int .i64 a, .int .i64 b, .int .i64 c] t)) fun e w' => e = .returned (.bool r) ∧ w.alloc (.cells #[.int .i64 a, .int .i64 b, .int .i64 c] t) = w' :=
  good_any (some ⟨g, 0, none⟩) 3 [a, b, c] _ (by simp) r (by rw [← hr]; simp [allOk]) (Row.new w g _ _ t hg rfl)
theorem goods4 (a b c d : Int) (w : World) (g : Nat) (t : TypeId) (hg : g = w.heap.size) (r : Bool) (hr : (a == 0 && (b == 0 && (c == 0 && d == 0))) = r) :
    Calls Try.prog 16 #[.slice (some ⟨g, 0, none⟩) 4 4] (w.alloc (.cells #[.int .i64 a, .int .i64 b, .int .i64 c, .int .i64 d] t)) fun e w' => e = .returned (.bool r) ∧ w.alloc (.cells #[.int .i64 a, .int .i64 b, .int .i64 c, .int .i64 d] t) = w' :=
  good_any (some ⟨g, 0, none⟩) 4 [a, b, c, d] _ (by simp) r (by rw [← hr]; simp [allOk]) (Row.new w g _ _ t hg rfl)
end Go.Proofs.Yteclnibbgdbjfaa
