/- Small lemmas that all proofs of this seat use: strings as lists of bytes, rows of cells read through a slice, worlds that have only grown. -/
import Derived.Test.YtknhohlpjhkmfaaProg
import Derived.WalkKit
import Derived.WalkSpells
import Derived.WalkLawsBesides
import Derived.Deep.QuietTactic
import Derived.BigQuiet
import Derived.Deep.Draws
import Derived.Deep.AppendLies
import Derived.Maps.AppendAt
import Derived.Lib.AppendStr
import Derived.Lib.Hide
namespace Go.Proofs.Ytknhohlpjhkmfaa
open Go.RowKit

abbrev Bytes := List UInt8

/-- The string whose bytes are l. -/
def S (l : Bytes) : ByteArray := ⟨l.toArray⟩

@[go_sem] theorem S_size (l : Bytes) : (S l).size = l.length := by simp [S, ByteArray.size]
@[go_sem] theorem S_toList (l : Bytes) : (S l).toList = l := by rw [ByteArray.toList_eq]; simp [S]
theorem S_data (l : Bytes) : (S l).data.toList = l := by simp [S]
theorem S_of (s : ByteArray) : s = S s.data.toList := by simp [S]
theorem S_inj {a b : Bytes} (h : S a = S b) : a = b := by rw [← S_data a, h, S_data]
@[go_sem] theorem S_extract (l : Bytes) (a b : Nat) : (S l).extract a b = S ((l.drop a).take (b - a)) := ByteArray.extract_mk l a b
@[go_sem] theorem S_append (a b : Bytes) : S a ++ S b = S (a ++ b) := ByteArray.mk_append_mk a b
@[go_sem] theorem S_get (l : Bytes) (i : Nat) (h : i < (S l).size) : (S l)[i] = l[i]'(by rw [S_size] at h; exact h) := by
  simp [S, ByteArray.getElem_eq_getElem_data]
@[go_sem] theorem take_drop_all (l : Bytes) (a : Nat) : (l.drop a).take (l.length - a) = l.drop a := by
  apply List.take_of_length_le; simp
theorem tup3 {a b c a' b' c' : Value} (h1 : a = a') (h2 : b = b') (h3 : c = c') : Ending.returned (.tuple #[a, b, c]) = .returned (.tuple #[a', b', c']) := by rw [h1, h2, h3]
theorem tup2 {a b a' b' : Value} (h1 : a = a') (h2 : b = b') : Ending.returned (.tuple #[a, b]) = .returned (.tuple #[a', b']) := by rw [h1, h2]
theorem strEq {a b : Bytes} (h : a = b) : Value.string (S a) = .string (S b) := by rw [h]
theorem S_nil : S [] = ⟨#[]⟩ := rfl

/-- The cells of a list of bytes. -/
def bcells (l : Bytes) : List Value := l.map fun b => .int .u8 (b.toNat : Int)
theorem bcells_length (l : Bytes) : (bcells l).length = l.length := by simp [bcells]
theorem bcells_append (a b : Bytes) : bcells (a ++ b) = bcells a ++ bcells b := by simp [bcells]
theorem strCells_S (l : Bytes) : Lib.strCells (S l) = bcells l := by simp [Lib.strCells, bcells, S]

/-- The cells of a list of strings. -/
def scells (ss : List Bytes) : List Value := ss.map fun s => .string (S s)
theorem scells_length (ss : List Bytes) : (scells ss).length = ss.length := by simp [scells]
theorem scells_append (a b : List Bytes) : scells (a ++ b) = scells a ++ scells b := by simp [scells]

/-- The cells vs lie one behind the other from A on; A is asked for only where there is one. -/
def Row (w : World) (A : Option Addr) (vs : List Value) : Prop :=
  0 < vs.length → ∃ g off, A = some ⟨g, off, none⟩ ∧ ∀ k (h : k < vs.length), w.cell? ⟨g, off + k, none⟩ = some vs[k]

theorem Row.lt {w : World} {g off : Nat} {vs : List Value} {k : Nat} (h : ∀ k (h : k < vs.length), w.cell? ⟨g, off + k, none⟩ = some vs[k]) (hk : k < vs.length) : g < w.heap.size :=
  World.block_lt_of_cell? _ _ (h k hk)
theorem Row.keep {w w' : World} {A : Option Addr} {vs : List Value} (h : Row w A vs) (hk : ∀ p : Addr, p.block < w.heap.size → w'.cell? p = w.cell? p) : Row w' A vs := fun h0 => by
  obtain ⟨g, off, e, hc⟩ := h h0
  exact ⟨g, off, e, fun k hk' => (hk _ (Row.lt hc hk')).trans (hc k hk')⟩
theorem Row.below {w w' : World} {A : Option Addr} {vs : List Value} (h : Row w A vs) (hb : Below w.heap.size w w') : Row w' A vs := h.keep fun _ hp => hb.cell hp
theorem Row.drewN {w : World} {A : Option Addr} {vs : List Value} (h : Row w A vs) (m : Nat) : Row (w.drewN m) A vs := h
theorem Row.alloc {w : World} {A : Option Addr} {vs : List Value} (h : Row w A vs) (o : Obj) : Row (w.alloc o) A vs := h.keep fun p hp => World.cell?_alloc_lt w o p hp
theorem Row.nil_ (w : World) (A : Option Addr) : Row w A [] := fun h => by simp at h
theorem Row.own {w : World} {base : Nat} {e : TypeId} {A : Option Addr} {n c : Nat} {vs : List Value} (h : w.ownsRow base e 1 (.slice A n c) n vs) : Row w A vs := fun h0 => by
  obtain ⟨g, cap, hv, _, _⟩ := h.form (by have := h.1; omega)
  obtain rfl : A = some ⟨g, 0, none⟩ := by injection hv
  refine ⟨g, 0, rfl, fun k hk => ?_⟩
  have := h.cells (g := g) rfl k vs[k] (List.getElem?_eq_getElem hk)
  rwa [Go.WideShapes.add_plain] at this

theorem Row.new (w : World) (n : Nat) (cs : Array Value) (vs : List Value) (t : TypeId) (hn : n = w.heap.size) (hc : cs = vs.toArray) : Row (w.alloc (.cells cs t)) (some ⟨n, 0, none⟩) vs := fun _ => by
  subst hn; subst hc
  exact ⟨_, _, rfl, fun k hk => by rw [World.cell?_alloc_new]; simp [hk]⟩

theorem own_shape {w : World} {base : Nat} {e : TypeId} {size : Nat} {v : Value} {n : Nat} {xs : List Value} (h : w.ownsRow base e size v n xs) : ∃ A c, v = .slice A n c := by
  rcases h.2 with ⟨rfl, rfl⟩ | ⟨g, cap, _, rfl, _⟩
  · exact ⟨_, _, rfl⟩
  · exact ⟨_, _, rfl⟩
theorem Row.take {w : World} {A : Option Addr} {vs : List Value} (h : Row w A vs) (k : Nat) : Row w A (vs.take k) := fun h0 => by
  obtain ⟨g, off, e, hc⟩ := h (by rw [List.length_take] at h0; omega)
  refine ⟨g, off, e, fun j hj => ?_⟩
  rw [List.length_take] at hj
  rw [List.getElem_take]
  exact hc j (by omega)
theorem Row.drop {w : World} {A : Option Addr} {vs : List Value} (h : Row w A vs) (k : Nat) : Row w (A.map (·.add k)) (vs.drop k) := fun h0 => by
  rw [List.length_drop] at h0
  obtain ⟨g, off, e, hc⟩ := h (by omega)
  subst e
  refine ⟨g, off + k, by rw [Option.map_some, Go.WideShapes.add_plain], fun j hj => ?_⟩
  rw [List.length_drop] at hj
  rw [List.getElem_drop, Nat.add_assoc]
  exact hc (k + j) (by omega)
/-- The same for elements of any size. -/
theorem Row.ownN {w : World} {base size : Nat} {e : TypeId} {A : Option Addr} {n c : Nat} {vs : List Value} (h : w.ownsRow base e size (.slice A n c) n vs) : Row w A vs := fun h0 => by
  have hn : 0 < n := by
    rcases Nat.eq_zero_or_pos n with e | e
    · have := h.1; rw [e, Nat.zero_mul] at this; omega
    · exact e
  obtain ⟨g, cap, hv, _, _⟩ := h.form hn
  obtain rfl : A = some ⟨g, 0, none⟩ := by injection hv
  refine ⟨g, 0, rfl, fun k hk => ?_⟩
  have := h.cells (g := g) rfl k vs[k] (List.getElem?_eq_getElem hk)
  rwa [Go.WideShapes.add_plain] at this
theorem own_belowN {w w' : World} {base n size : Nat} {e : TypeId} {v : Value} {xs : List Value} (h : w.ownsRow base e size v n xs) (hb : Below w.heap.size w w') : w'.ownsRow base e size v n xs :=
  h.kept (row := none) ⟨hb.os, hb.tape, hb.output, hb.size, fun k hk _ => hb.block k hk⟩ (by cases v.ownBlock <;> simp)
/-- How long a string in a slot is: for a loop's measure. -/
def strLen : Value → Nat | .string s => s.size | _ => 0

theorem below_drewN {B : Nat} {a w : World} (h : Below B a w) (m : Nat) : Below B a (w.drewN m) := ⟨h.os, h.tape, h.output, h.size, h.block⟩
theorem below_of_drewN (B : Nat) (w : World) (m : Nat) : Below B w (w.drewN m) := below_drewN (Below.refl _ _) m

theorem below_chain {a b c : World} (h : Below a.heap.size a b) (k : Below b.heap.size b c) : Below a.heap.size a c := h.trans (k.mono h.size)

/-- A conversion of a row of bytes of the call's own to a string. -/
theorem conv_own {P : Program} {w : World} {base src dst e : TypeId} {v : Value} {n : Nat} {l : Bytes} (hs : P.underlying src = some (.slice e)) (he : P.underlying e = some (.int .u8)) (hd : P.underlying dst = some .string)
    (h : w.ownsRow base e 1 v n (bcells l)) : (convert src dst v).run P w = .ok (.string (S l)) w := by
  have hl : n = l.length := by have := h.1; rw [bcells_length] at this; omega
  subst hl
  rcases h.2 with ⟨rfl, h0⟩ | ⟨g, cap, cur, rfl, _⟩
  · obtain rfl : l = [] := List.eq_nil_of_length_eq_zero h0
    exact run_convert_bytes_nil w src e hs he 0 0 dst hd
  · have hc := h.cells (g := g) rfl
    have hr := run_convert_bytes_arg (P := P) w src e hs he g 0 l.length cap (l.map fun b : UInt8 => (b.toNat : Int)) (by simp) (fun i hi => by
      have := hc i (.int .u8 (l[i].toNat : Int)) (by simp [bcells, hi])
      rw [Go.WideShapes.add_plain] at this
      rw [this]
      simp [List.getD, hi]) dst hd
    rw [hr]
    congr 2
    simp [strOfNums, S, Function.comp_def]
end Go.Proofs.Ytknhohlpjhkmfaa
