/- tree.Get and tree.Set, whatever they are given. They write nothing that was there. -/
import Derived.Test.YtmmmolbejfdamaaTreeCheck
import Derived.Test.YtmmmolbejfdamaaTreeSet
namespace Go.Proofs.Ytmmmolbejfdamaa
set_option maxRecDepth 100000
open Go.RowKit

def getAns (es : List Ent) (n : Bytes) : Bytes × Bool × Int := if askErr es n = 0 then ((stands es n).getD [], (stands es n).isSome, 0) else ([], false, askErr es n)
theorem treeGet (A : Option Addr) (c : Nat) (es : List Ent) (n : Bytes) (w : World) (hm : es.length ≤ maxLen) (hes : ∀ x ∈ es, x.1.length ≤ maxLen ∧ x.2.length ≤ maxLen) (hn : n.length ≤ maxLen) (hA : Row w A (encells es)) (x : Bytes) (b : Bool) (r : Int) (h : getAns es n = (x, b, r)) :
    Calls Try.prog 27 #[.slice A es.length c, .string (S n)] w fun e w' => e = .returned (.tuple #[.string (S x), .bool b, .int .i64 r]) ∧ Below w.heap.size w w' := by
  unfold getAns at h
  by_cases h0 : askErr es n = 0
  · rw [if_pos h0] at h
    injection h with h1 h2
    injection h2 with h2 h3
    subst h1; subst h2; subst h3
    obtain ⟨hg, hn⟩ := (askErr_ok es n).1 h0
    exact treeGet_yes A c es n w hg hn hA _ rfl
  · rw [if_neg h0] at h
    injection h with h1 h2
    injection h2 with h2 h3
    subst h1; subst h2
    exact treeGet_no A c es n w hm hes hn hA r h3 (by rw [← h3]; exact h0)

theorem set_good {es : List Ent} {n v : Bytes} (h : setErr es n v = 0) : Good es ∧ Good (setTo n v es) ∧ Bin.name n = true ∧ v.length ≤ 20 := by
  obtain ⟨hg, hn, hv, ht⟩ := (setErr_ok es n v).1 h
  refine ⟨hg, setTo_good n v es hg hn hv ?_, hn, hv⟩
  rw [← there_stands n es hg.order]
  exact ht

/-- What Set returns: the book, or nothing with an error. -/
def setRes (es : List Ent) (n v : Bytes) : List Ent := if setErr es n v = 0 then setTo n v es else []
def SetRes (T : List Ent) (r : Int) (w : World) (e : Ending) (w' : World) : Prop :=
  ∃ D d, e = .returned (.tuple #[.slice D T.length d, .int .i64 r]) ∧ T.length ≤ d ∧ Row w' D (encells T) ∧ Below w.heap.size w w'
theorem treeSet_any (A : Option Addr) (c : Nat) (es : List Ent) (n v : Bytes) (w : World) (hm : es.length ≤ maxLen) (hes : ∀ x ∈ es, x.1.length ≤ maxLen ∧ x.2.length ≤ maxLen) (hn : n.length ≤ maxLen) (hv : v.length ≤ maxLen) (hc : es.length ≤ c) (hA : Row w A (encells es)) :
    Calls Try.prog 29 #[.slice A es.length c, .string (S n), .string (S v)] w (SetRes (setRes es n v) (setErr es n v) w) := by
  by_cases h0 : setErr es n v = 0
  · rw [setRes, if_pos h0, h0]
    refine (treeSet_yes A c es n v w hc hA h0).mono ?_
    rintro e w' ⟨D, d, rfl, hown, hb⟩
    exact ⟨D, d, rfl, own_capE hown, Row.ownE hown, hb⟩
  · rw [setRes, if_neg h0]
    refine (treeSet_no A c es n v w hm hes hn hv hA _ rfl h0).mono ?_
    rintro e w' ⟨rfl, hb⟩
    exact ⟨none, 0, rfl, Nat.le_refl _, Row.nil_ _ _, hb⟩
theorem setT_good {es : List Ent} {n v : Bytes} (h : setErr es n v = 0) : Good (setTo n v es) := by
  obtain ⟨hg, hn, hv, ht⟩ := (setErr_ok es n v).1 h
  refine setTo_good n v es hg hn hv ?_
  rw [← there_stands n es hg.order]
  exact ht
theorem setRes_small (es : List Ent) (n v : Bytes) : (setRes es n v).length ≤ maxLen ∧ ∀ x ∈ setRes es n v, x.1.length ≤ maxLen ∧ x.2.length ≤ maxLen := by
  by_cases h0 : setErr es n v = 0
  · rw [setRes, if_pos h0]
    exact small_of_good (setT_good h0)
  · rw [setRes, if_neg h0]
    exact ⟨by simp, fun x hx => by simp at hx⟩

end Go.Proofs.Ytmmmolbejfdamaa
