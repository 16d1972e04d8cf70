/- Small lemmas that all proofs of this seat use: strings as lists of bytes, rows of cells read through a slice, worlds that have only grown. -/
import Derived.Test.YtjcockcilkiggaaGreatProg
import Derived.WalkKit
import Derived.WalkSpells
import Derived.WalkLawsBesides
import Derived.Deep.QuietTactic
import Derived.BigQuiet
import Derived.Deep.Draws
import Derived.Deep.AppendLies
import Derived.Maps.AppendAt
import Derived.Lib.AppendStr
import Derived.Lib.Hide
import Derived.Laws.ResultCell
namespace Go.Proofs.YtjcockcilkiggaaGreat
open Go.RowKit

abbrev Bytes := List UInt8

/-- The string whose bytes are l. -/
def S (l : Bytes) : ByteArray := ⟨l.toArray⟩

@[go_sem] theorem S_size (l : Bytes) : (S l).size = l.length := by simp [S, ByteArray.size]
@[go_sem] theorem S_toList (l : Bytes) : (S l).toList = l := by rw [ByteArray.toList_eq]; simp [S]
theorem S_data (l : Bytes) : (S l).data.toList = l := by simp [S]
theorem S_of (s : ByteArray) : s = S s.data.toList := by simp [S]
theorem S_inj {a b : Bytes} (h : S a = S b) : a = b := by rw [← S_data a, h, S_data]
@[go_sem] theorem S_extract (l : Bytes) (a b : Nat) : (S l).extract a b = S ((l.drop a).take (b - a)) := ByteArray.extract_mk l a b
@[go_sem] theorem S_append (a b : Bytes) : S a ++ S b = S (a ++ b) := ByteArray.mk_append_mk a b
@[go_sem] theorem S_get (l : Bytes) (i : Nat) (h : i < (S l).size) : (S l)[i] = l[i]'(by rw [S_size] at h; exact h) := by
  simp [S, ByteArray.getElem_eq_getElem_data]
@[go_sem] theorem take_drop_all (l : Bytes) (a : Nat) : (l.drop a).take (l.length - a) = l.drop a := by
  apply List.take_of_length_le; simp
theorem tup3 {a b c a' b' c' : Value} (h1 : a = a') (h2 : b = b') (h3 : c = c') : Ending.returned (.tuple #[a, b, c]) = .returned (.tuple #[a', b', c']) := by rw [h1, h2, h3]
theorem tup2 {a b a' b' : Value} (h1 : a = a') (h2 : b = b') : Ending.returned (.tuple #[a, b]) = .returned (.tuple #[a', b']) := by rw [h1, h2]
theorem strEq {a b : Bytes} (h : a = b) : Value.string (S a) = .string (S b) := by rw [h]
theorem S_nil : S [] = ⟨#[]⟩ := rfl

/-- The cells of a list of bytes. -/
def bcells (l : Bytes) : List Value := l.map fun b => .int .u8 (b.toNat : Int)
theorem bcells_length (l : Bytes) : (bcells l).length = l.length := by simp [bcells]
theorem bcells_append (a b : Bytes) : bcells (a ++ b) = bcells a ++ bcells b := by simp [bcells]
theorem strCells_S (l : Bytes) : Lib.strCells (S l) = bcells l := by simp [Lib.strCells, bcells, S]

/-- The cells of a list of strings. -/
def scells (ss : List Bytes) : List Value := ss.map fun s => .string (S s)
theorem scells_length (ss : List Bytes) : (scells ss).length = ss.length := by simp [scells]
theorem scells_append (a b : List Bytes) : scells (a ++ b) = scells a ++ scells b := by simp [scells]

/-- The cells vs lie one behind the other from A on; A is asked for only where there is one. -/
def Row (w : World) (A : Option Addr) (vs : List Value) : Prop :=
  0 < vs.length → ∃ g off, A = some ⟨g, off, none⟩ ∧ ∀ k (h : k < vs.length), w.cell? ⟨g, off + k, none⟩ = some vs[k]

theorem Row.lt {w : World} {g off : Nat} {vs : List Value} {k : Nat} (h : ∀ k (h : k < vs.length), w.cell? ⟨g, off + k, none⟩ = some vs[k]) (hk : k < vs.length) : g < w.heap.size :=
  World.block_lt_of_cell? _ _ (h k hk)
theorem Row.keep {w w' : World} {A : Option Addr} {vs : List Value} (h : Row w A vs) (hk : ∀ p : Addr, p.block < w.heap.size → w'.cell? p = w.cell? p) : Row w' A vs := fun h0 => by
  obtain ⟨g, off, e, hc⟩ := h h0
  exact ⟨g, off, e, fun k hk' => (hk _ (Row.lt hc hk')).trans (hc k hk')⟩
theorem Row.below {w w' : World} {A : Option Addr} {vs : List Value} (h : Row w A vs) (hb : Below w.heap.size w w') : Row w' A vs := h.keep fun _ hp => hb.cell hp
theorem Row.drewN {w : World} {A : Option Addr} {vs : List Value} (h : Row w A vs) (m : Nat) : Row (w.drewN m) A vs := h
theorem Row.alloc {w : World} {A : Option Addr} {vs : List Value} (h : Row w A vs) (o : Obj) : Row (w.alloc o) A vs := h.keep fun p hp => World.cell?_alloc_lt w o p hp
theorem Row.nil_ (w : World) (A : Option Addr) : Row w A [] := fun h => by simp at h
theorem Row.own {w : World} {base : Nat} {e : TypeId} {A : Option Addr} {n c : Nat} {vs : List Value} (h : w.ownsRow base e 1 (.slice A n c) n vs) : Row w A vs := fun h0 => by
  obtain ⟨g, cap, hv, _, _⟩ := h.form (by have := h.1; omega)
  obtain rfl : A = some ⟨g, 0, none⟩ := by injection hv
  refine ⟨g, 0, rfl, fun k hk => ?_⟩
  have := h.cells (g := g) rfl k vs[k] (List.getElem?_eq_getElem hk)
  rwa [Go.WideShapes.add_plain] at this

theorem Row.new (w : World) (n : Nat) (cs : Array Value) (vs : List Value) (t : TypeId) (hn : n = w.heap.size) (hc : cs = vs.toArray) : Row (w.alloc (.cells cs t)) (some ⟨n, 0, none⟩) vs := fun _ => by
  subst hn; subst hc
  exact ⟨_, _, rfl, fun k hk => by rw [World.cell?_alloc_new]; simp [hk]⟩

theorem own_shape {w : World} {base : Nat} {e : TypeId} {size : Nat} {v : Value} {n : Nat} {xs : List Value} (h : w.ownsRow base e size v n xs) : ∃ A c, v = .slice A n c := by
  rcases h.2 with ⟨rfl, rfl⟩ | ⟨g, cap, _, rfl, _⟩
  · exact ⟨_, _, rfl⟩
  · exact ⟨_, _, rfl⟩
theorem Row.take {w : World} {A : Option Addr} {vs : List Value} (h : Row w A vs) (k : Nat) : Row w A (vs.take k) := fun h0 => by
  obtain ⟨g, off, e, hc⟩ := h (by rw [List.length_take] at h0; omega)
  refine ⟨g, off, e, fun j hj => ?_⟩
  rw [List.length_take] at hj
  rw [List.getElem_take]
  exact hc j (by omega)
theorem Row.drop {w : World} {A : Option Addr} {vs : List Value} (h : Row w A vs) (k : Nat) : Row w (A.map (·.add k)) (vs.drop k) := fun h0 => by
  rw [List.length_drop] at h0
  obtain ⟨g, off, e, hc⟩ := h (by omega)
  subst e
  refine ⟨g, off + k, by rw [Option.map_some, Go.WideShapes.add_plain], fun j hj => ?_⟩
  rw [List.length_drop] at hj
  rw [List.getElem_drop, Nat.add_assoc]
  exact hc (k + j) (by omega)
/-- The same for elements of any size. -/
theorem Row.ownN {w : World} {base size : Nat} {e : TypeId} {A : Option Addr} {n c : Nat} {vs : List Value} (h : w.ownsRow base e size (.slice A n c) n vs) : Row w A vs := fun h0 => by
  have hn : 0 < n := by
    rcases Nat.eq_zero_or_pos n with e | e
    · have := h.1; rw [e, Nat.zero_mul] at this; omega
    · exact e
  obtain ⟨g, cap, hv, _, _⟩ := h.form hn
  obtain rfl : A = some ⟨g, 0, none⟩ := by injection hv
  refine ⟨g, 0, rfl, fun k hk => ?_⟩
  have := h.cells (g := g) rfl k vs[k] (List.getElem?_eq_getElem hk)
  rwa [Go.WideShapes.add_plain] at this
theorem own_belowN {w w' : World} {base n size : Nat} {e : TypeId} {v : Value} {xs : List Value} (h : w.ownsRow base e size v n xs) (hb : Below w.heap.size w w') : w'.ownsRow base e size v n xs :=
  h.kept (row := none) ⟨hb.os, hb.tape, hb.output, hb.size, fun k hk _ => hb.block k hk⟩ (by cases v.ownBlock <;> simp)
/-- How long a string in a slot is: for a loop's measure. -/
def strLen : Value → Nat | .string s => s.size | _ => 0

theorem below_drewN {B : Nat} {a w : World} (h : Below B a w) (m : Nat) : Below B a (w.drewN m) := ⟨h.os, h.tape, h.output, h.size, h.block⟩
theorem below_of_drewN (B : Nat) (w : World) (m : Nat) : Below B w (w.drewN m) := below_drewN (Below.refl _ _) m

theorem below_chain {a b c : World} (h : Below a.heap.size a b) (k : Below b.heap.size b c) : Below a.heap.size a c := h.trans (k.mono h.size)

/-- A conversion of a row of bytes of the call's own to a string. -/
theorem conv_own {P : Program} {w : World} {base src dst e : TypeId} {v : Value} {n : Nat} {l : Bytes} (hs : P.underlying src = some (.slice e)) (he : P.underlying e = some (.int .u8)) (hd : P.underlying dst = some .string)
    (h : w.ownsRow base e 1 v n (bcells l)) : (convert src dst v).run P w = .ok (.string (S l)) w := by
  have hl : n = l.length := by have := h.1; rw [bcells_length] at this; omega
  subst hl
  rcases h.2 with ⟨rfl, h0⟩ | ⟨g, cap, cur, rfl, _⟩
  · obtain rfl : l = [] := List.eq_nil_of_length_eq_zero h0
    exact run_convert_bytes_nil w src e hs he 0 0 dst hd
  · have hc := h.cells (g := g) rfl
    have hr := run_convert_bytes_arg (P := P) w src e hs he g 0 l.length cap (l.map fun b : UInt8 => (b.toNat : Int)) (by simp) (fun i hi => by
      have := hc i (.int .u8 (l[i].toNat : Int)) (by simp [bcells, hi])
      rw [Go.WideShapes.add_plain] at this
      rw [this]
      simp [List.getD, hi]) dst hd
    rw [hr]
    congr 2
    simp [strOfNums, S, Function.comp_def]
end Go.Proofs.YtjcockcilkiggaaGreat
/- append at the program's own types: bytes behind bytes, a string's bytes behind bytes, strings behind strings. -/
namespace Go.Proofs.YtjcockcilkiggaaGreat
open Go.RowKit

theorem u8_info : ∃ i, Tryz.prog.info? 5 = some i ∧ i.zero = some (.int .u8 0) ∧ i.size = 1 ∧ i.bytes = 1 := by
  have h : (Tryz.prog.info? 5).map (fun i => (i.zero, i.size, i.bytes)) = some (some (.int .u8 0), 1, 1) := by kernel_rfl
  obtain ⟨i, hi, he⟩ := Option.map_eq_some_iff.1 h
  simp only [Prod.mk.injEq] at he
  exact ⟨i, hi, he.1, he.2.1, he.2.2⟩
theorem str_info : ∃ i, Tryz.prog.info? 9 = some i ∧ i.zero = some (.string ⟨#[]⟩) ∧ i.size = 1 ∧ i.bytes = 16 := by
  have h : (Tryz.prog.info? 9).map (fun i => (i.zero, i.size, i.bytes)) = some (some (.string ⟨#[]⟩), 1, 16) := by kernel_rfl
  obtain ⟨i, hi, he⟩ := Option.map_eq_some_iff.1 h
  simp only [Prod.mk.injEq] at he
  exact ⟨i, hi, he.1, he.2.1, he.2.2⟩

section
variable {ops : Array Oper} {rest : List Oper} {o : Oper} {a : Act} {Q : Exit → Act → World → Prop}

/-- An append whose run is known. -/
theorem app_run (w : World) (hgd : o.guard = none) (s x : Operand) (t u : TypeId) (ho : o.op = .call { callee := .builtin .append, args := #[s, x], argTypes := #[t, u] })
    (v y v' : Value) (w' : World) (hs : a.eval s = v) (hx : a.eval x = y) (hr : (Builtin.append_ #[t, u] o.type #[v, y]).run Tryz.prog w = .ok v' w') (h : wpList Tryz.prog ops Q rest (a.put o.dst v') w') : wpList Tryz.prog ops Q (o :: rest) a w := by
  refine wpList_plain hgd fun K hK => ?_
  unfold Oper.wp execOp
  simp only [ho, resolve, invoke, builtin, Sem.run_bind, Sem.run_pure, Result.andThen_ok, List.map_toArray, List.map_cons, List.map_nil, hs, hx, hr]
  exact hK _ _ h

theorem app_u8 (w : World) (hgd : o.guard = none) (s x : Operand) (ho : o.op = .call { callee := .builtin .append, args := #[s, x], argTypes := #[130, 130] })
    (base : Nat) (v : Value) (l : Bytes) (hs : a.eval s = v) (hown : w.ownsRow base 5 1 v l.length (bcells l))
    (ad : Addr) (c : Nat) (r : Bytes) (m : Nat) (hm : m = r.length) (hx : a.eval x = .slice (some ad) m c) (hnews : ∀ j u, (bcells r)[j]? = some u → w.cell? (ad.add j) = some u)
    (hsmall : l.length + r.length ≤ 140737488355328) (hbase : base ≤ w.heap.size)
    (h : ∀ v' w', w'.ownsRow base 5 1 v' (l ++ r).length (bcells (l ++ r)) → w.grownBy w' v.ownBlock → wpList Tryz.prog ops Q rest (a.put o.dst v') w') : wpList Tryz.prog ops Q (o :: rest) a w := by
  obtain ⟨i0, hi, hz0, hz1, hz2⟩ := u8_info
  subst hm
  refine wpList_append_own w hgd s x 130 ho base 5 i0 (.int .u8 0) 1 1 Tryz.underlying130 hi hz0 hz1 hz2 rfl (by decide) v l.length (bcells l) hs hown ad r.length c (bcells r) hx (by rw [bcells_length]; omega) hnews
    (fun u hu => by obtain ⟨_, _, rfl⟩ := List.mem_map.1 hu; rfl) (by unfold maxLen; omega) (by omega) hbase ?_
  intro v' w' h1 h2 _
  exact h v' w' (by rw [bcells_append, List.length_append]; exact h1) h2

theorem app_str (w : World) (hgd : o.guard = none) (s x : Operand) (ho : o.op = .call { callee := .builtin .append, args := #[s, x], argTypes := #[130, 9] })
    (base : Nat) (v : Value) (l : Bytes) (hs : a.eval s = v) (hown : w.ownsRow base 5 1 v l.length (bcells l))
    (r : Bytes) (hx : a.eval x = .string (S r)) (hsmall : l.length + r.length ≤ 140737488355328) (hbase : base ≤ w.heap.size)
    (h : ∀ v' w', w'.ownsRow base 5 1 v' (l ++ r).length (bcells (l ++ r)) → w.grownBy w' v.ownBlock → wpList Tryz.prog ops Q rest (a.put o.dst v') w') : wpList Tryz.prog ops Q (o :: rest) a w := by
  obtain ⟨i0, hi, hz0, hz1, hz2⟩ := u8_info
  refine Lib.wpList_append_own_string w hgd s x 130 9 ho base 5 i0 Tryz.underlying130 Tryz.underlying9 hi hz0 hz1 hz2 v l.length (bcells l) hs hown (S r) hx (by rw [S_size]; unfold maxLen; omega) (by rw [S_size]; omega) hbase ?_
  intro v' w' h1 h2 _
  refine h v' w' ?_ h2
  rw [bcells_append, List.length_append]
  rw [S_size, strCells_S] at h1
  exact h1

theorem app_strs (w : World) (hgd : o.guard = none) (s x : Operand) (ho : o.op = .call { callee := .builtin .append, args := #[s, x], argTypes := #[101, 101] })
    (base : Nat) (v : Value) (l : List Bytes) (hs : a.eval s = v) (hown : w.ownsRow base 9 1 v l.length (scells l))
    (ad : Addr) (c : Nat) (r : List Bytes) (m : Nat) (hm : m = r.length) (hx : a.eval x = .slice (some ad) m c) (hnews : ∀ j u, (scells r)[j]? = some u → w.cell? (ad.add j) = some u)
    (hsmall : (l.length + r.length) * 16 ≤ 140737488355328) (hbase : base ≤ w.heap.size)
    (h : ∀ v' w', w'.ownsRow base 9 1 v' (l ++ r).length (scells (l ++ r)) → w.grownBy w' v.ownBlock → wpList Tryz.prog ops Q rest (a.put o.dst v') w') : wpList Tryz.prog ops Q (o :: rest) a w := by
  obtain ⟨i0, hi, hz0, hz1, hz2⟩ := str_info
  subst hm
  refine wpList_append_own w hgd s x 101 ho base 9 i0 (.string ⟨#[]⟩) 1 16 Tryz.underlying101 hi hz0 hz1 hz2 rfl (by decide) v l.length (scells l) hs hown ad r.length c (scells r) hx (by rw [scells_length]; omega) hnews
    (fun u hu => by obtain ⟨_, _, rfl⟩ := List.mem_map.1 hu; rfl) (by unfold maxLen; omega) hsmall hbase ?_
  intro v' w' h1 h2 _
  exact h v' w' (by rw [scells_append, List.length_append]; exact h1) h2
end

theorem cells_new (w : World) (n : Nat) (vs : List Value) (t : TypeId) (hn : n = w.heap.size) : ∀ j u, vs[j]? = some u → (w.alloc (.cells vs.toArray t)).cell? ((⟨n, 0, none⟩ : Addr).add j) = some u := by
  subst hn
  intro j u hu
  rw [Go.WideShapes.add_plain, Nat.zero_add, World.cell?_alloc_new]
  simpa using hu
end Go.Proofs.YtjcockcilkiggaaGreat
/- Rows of the call's own, and cells that are kept, in worlds that have only grown. -/
namespace Go.Proofs.YtjcockcilkiggaaGreat
open Go.RowKit

theorem own_below {w w' : World} {base n : Nat} {e : TypeId} {v : Value} {xs : List Value} (h : w.ownsRow base e 1 v n xs) (hb : Below w.heap.size w w') : w'.ownsRow base e 1 v n xs :=
  h.kept (row := none) ⟨hb.os, hb.tape, hb.output, hb.size, fun k hk _ => hb.block k hk⟩ (by cases v.ownBlock <;> simp)
theorem str_one (w : World) (s : Bytes) (t : TypeId) : ∀ j u, (scells [s])[j]? = some u → (w.alloc (.cells #[.string (S s)] t)).cell? ((⟨w.heap.size, 0, none⟩ : Addr).add j) = some u :=
  cells_new w w.heap.size (scells [s]) t rfl
theorem kept {w w1 : World} {p : Addr} {v : Value} (hc : w.cell? p = some v) (hb : Below w.heap.size w w1) : w1.cell? p = some v := by
  rw [hb.cell (World.block_lt_of_cell? _ _ hc), hc]
theorem new_cell (w : World) (v : Value) (t : TypeId) : (w.alloc (.cells #[v] t)).cell? ⟨w.heap.size, 0, none⟩ = some v := by
  rw [World.cell?_alloc_new]
  rfl
end Go.Proofs.YtjcockcilkiggaaGreat
/- A struct of the call's own, cell by cell: any number of cells. -/
namespace Go.Proofs.YtjcockcilkiggaaGreat
open Go.RowKit

/-- A struct whose cells hold vs and may be written. -/
structure Bx (w : World) (g : Nat) (vs : List Value) : Prop where
  c : ∀ k (h : k < vs.length), w.cell? ⟨g, k, none⟩ = some vs[k]
  f : ∀ k, k < vs.length → w.frozen? ⟨g, k, none⟩ = false
theorem Bx.kept {w w' : World} {g : Nat} {vs : List Value} {row : Option Nat} (h : Bx w g vs) (hg : w.grownBy w' row) (hne : some g ≠ row) : Bx w' g vs := by
  refine ⟨fun k hk => ?_, fun k hk => ?_⟩
  · exact (hg.cell_far ⟨g, k, none⟩ (World.block_lt_of_cell? _ _ (h.c k hk)) hne).trans (h.c k hk)
  · exact (hg.frozen_far ⟨g, k, none⟩ (World.block_lt_of_cell? _ _ (h.c k hk)) hne).trans (h.f k hk)
theorem Bx.below {w w' : World} {g : Nat} {vs : List Value} (h : Bx w g vs) (hb : Below w.heap.size w w') : Bx w' g vs :=
  h.kept (row := none) ⟨hb.os, hb.tape, hb.output, hb.size, fun k hk _ => hb.block k hk⟩ (by simp)
theorem Bx.alloc {w : World} {g : Nat} {vs : List Value} (h : Bx w g vs) (o : Obj) : Bx (w.alloc o) g vs := h.below ((Below.refl _ _).alloc (Nat.le_refl _) o)
theorem Bx.drewN {w : World} {g : Nat} {vs : List Value} (h : Bx w g vs) (m : Nat) : Bx (w.drewN m) g vs := ⟨h.c, h.f⟩
theorem Bx.new (w : World) (g : Nat) (hg : g = w.heap.size) (cs : Array Value) (vs : List Value) (t : TypeId) (hc : cs = vs.toArray) : Bx (w.alloc (.cells cs t)) g vs := by
  subst hg; subst hc
  refine ⟨fun k hk => ?_, fun k hk => by simp⟩
  rw [World.cell?_alloc_new]
  simp [hk]
theorem Bx.set {w : World} {g : Nat} {vs : List Value} (h : Bx w g vs) (j : Nat) (v : Value) : Bx (w.setCell ⟨g, j, none⟩ v) g (vs.set j v) := by
  refine ⟨fun k hk => ?_, fun k hk => ?_⟩
  · rw [List.length_set] at hk
    by_cases e : j = k
    · subst e
      rw [List.getElem_set_self]
      exact World.cell?_setCell_same w ⟨g, j, none⟩ v (h.c j hk)
    · rw [List.getElem_set_ne e]
      exact (World.cell?_setCell_other w ⟨g, j, none⟩ ⟨g, k, none⟩ v (by first | (simp; done) | (simp; omega))).trans (h.c k hk)
  · rw [List.length_set] at hk
    rw [World.frozen?_setCell]
    exact h.f k hk
theorem Bx.lt {w : World} {g : Nat} {v : Value} {vs : List Value} (h : Bx w g (v :: vs)) : g < w.heap.size := World.block_lt_of_cell? _ _ (h.c 0 (by simp))
theorem Bx.get4 {w : World} {g : Nat} {a b c d : Value} (h : Bx w g [a, b, c, d]) :
    (w.cell? ⟨g, 0, none⟩ = some a ∧ w.cell? ⟨g, 1, none⟩ = some b ∧ w.cell? ⟨g, 2, none⟩ = some c ∧ w.cell? ⟨g, 3, none⟩ = some d) ∧
    (w.frozen? ⟨g, 0, none⟩ = false ∧ w.frozen? ⟨g, 1, none⟩ = false ∧ w.frozen? ⟨g, 2, none⟩ = false ∧ w.frozen? ⟨g, 3, none⟩ = false) :=
  ⟨⟨h.c 0 (by simp), h.c 1 (by simp), h.c 2 (by simp), h.c 3 (by simp)⟩, ⟨h.f 0 (by simp), h.f 1 (by simp), h.f 2 (by simp), h.f 3 (by simp)⟩⟩
/-- All four cells written anew. -/
theorem Bx.set4 {w : World} {g : Nat} {a b c d : Value} (h : Bx w g [a, b, c, d]) (x y z u : Value) :
    Bx ((((w.setCell ⟨g, 0, none⟩ x).setCell ⟨g, 1, none⟩ y).setCell ⟨g, 2, none⟩ z).setCell ⟨g, 3, none⟩ u) g [x, y, z, u] := (((h.set 0 x).set 1 y).set 2 z).set 3 u
theorem below_set4 {B : Nat} {w w' : World} (hb : Below B w w') {g : Nat} (hg : B ≤ g) (x y z u : Value) :
    Below B w ((((w'.setCell ⟨g, 0, none⟩ x).setCell ⟨g, 1, none⟩ y).setCell ⟨g, 2, none⟩ z).setCell ⟨g, 3, none⟩ u) :=
  (((hb.setCell (p := ⟨g, 0, none⟩) hg x).setCell (p := ⟨g, 1, none⟩) hg y).setCell (p := ⟨g, 2, none⟩) hg z).setCell (p := ⟨g, 3, none⟩) hg u
end Go.Proofs.YtjcockcilkiggaaGreat
