/- Maps of the call's own that are keyed by strings, as functions from strings to values; a range over one. -/
import Derived.Test.YtjcockcilkiggaaGreatJ01
import Derived.Maps.Own
import Derived.Maps.OwnOps
import Derived.Maps.OwnSet
import Derived.Maps.Views
import Derived.Maps.RangeWalk
import Derived.Sort.MapsRangeIn
import Derived.Laws.ResultCell
namespace Go.Proofs.YtjcockcilkiggaaGreat
open Go.RowKit Go.Maps

/-- An element as it is. -/
def raw (v : Value) : Option (DataW Value × List MemPlace) := some (.held v, [])
def Reads (D : DataW Value) (f : Bytes → Option Value) : Prop := ∀ p : Bytes, (f p = none → Maps.has D (.string p) = false) ∧ ∀ v, f p = some v → Maps.has D (.string p) = true ∧ ∀ z, D.atKey (.string p) z = .held v
/-- Block b is a map of at most n entries: f says what stands at each string. -/
def MapOf (w : World) (b n : Nat) (f : Bytes → Option Value) : Prop := ∃ D, w.ownsMap Tryz.prog 9 raw b n D ∧ Reads D f

theorem strLaw : Keyed Tryz.prog 9 := string_keyed Tryz.underlying9
theorem strKey (p : Bytes) (h : p.length ≤ maxLen) : keyOf Tryz.prog 9 (.string (S p)) = some (.string p) := by
  rw [Go.WideMaps.keyOf_string_mk Tryz.underlying9 (by rw [S_size]; exact h), S_data]
theorem isKeyStr (p : Bytes) : WideAt.IsKeyLit (.string p) := trivial

theorem reads_put {D : DataW Value} {f : Bytes → Option Value} (h : Reads D f) (hD : IsMap D) (p : Bytes) (v : Value) : Reads (D.put (.string p) (.held v)) (fun q => if q = p then some v else f q) := by
  intro q
  by_cases e : q = p
  · subst e
    simp only [if_true]
    refine ⟨fun h => (by cases h), fun u hu => ?_⟩
    injection hu with hu
    subst hu
    exact ⟨has_put_same hD (isKeyStr q) _, fun z => atKey_put_same hD (isKeyStr q) _ z⟩
  · have ne : (Lit.string q) ≠ .string p := fun h => e (by injection h)
    simp only [e, if_false]
    rw [has_put_other ne]
    refine ⟨(h q).1, fun u hu => ⟨((h q).2 u hu).1, fun z => ?_⟩⟩
    rw [atKey_put_other ne]
    exact ((h q).2 u hu).2 z

theorem MapOf.made (w : World) : MapOf (w.alloc (.map #[] 0)) w.heap.size 0 (fun _ => none) :=
  ⟨_, World.ownsMap_made _ _ _ _, fun _ => ⟨fun _ => rfl, fun _ h => (by cases h)⟩⟩
theorem MapOf.mono {w : World} {b n n' : Nat} {f : Bytes → Option Value} (h : MapOf w b n f) (hn : n ≤ n') : MapOf w b n' f := by
  obtain ⟨D, h1, h2⟩ := h
  exact ⟨D, h1.mono hn, h2⟩
theorem MapOf.lt {w : World} {b n : Nat} {f : Bytes → Option Value} (h : MapOf w b n f) : b < w.heap.size := by
  obtain ⟨D, h1, _⟩ := h
  exact h1.lt
theorem MapOf.kept {w w' : World} {b n : Nat} {f : Bytes → Option Value} {row : Option Nat} (h : MapOf w b n f) (hg : w.grownBy w' row) (hne : some b ≠ row) : MapOf w' b n f := by
  obtain ⟨D, h1, h2⟩ := h
  exact ⟨D, h1.kept hg hne, h2⟩
theorem MapOf.alloc {w : World} {b n : Nat} {f : Bytes → Option Value} (h : MapOf w b n f) (o : Obj) : MapOf (w.alloc o) b n f := by
  obtain ⟨D, h1, h2⟩ := h
  exact ⟨D, h1.alloc o, h2⟩
theorem grown_below {w w' : World} (hb : Below w.heap.size w w') (row : Option Nat) : w.grownBy w' row := ⟨hb.os, hb.tape, hb.output, hb.size, fun k hk _ => hb.block k hk⟩
theorem MapOf.below {w w' : World} {b n : Nat} {f : Bytes → Option Value} (h : MapOf w b n f) (hb : Below w.heap.size w w') : MapOf w' b n f := h.kept (grown_below hb none) (by simp)
theorem MapOf.drewN {w : World} {b n : Nat} {f : Bytes → Option Value} (h : MapOf w b n f) (m : Nat) : MapOf (w.drewN m) b n f := h

/-- A store, as a run: for a region that draws its order. -/
theorem map_run {w : World} {b n : Nat} {f : Bytes → Option Value} (hown : MapOf w b n f) (t e : TypeId) (ht : Tryz.prog.underlying t = some (.map 9 e)) (hn : n < maxLen) (p : Bytes) (hp : p.length ≤ maxLen) (val : Value) :
    ∃ w', (Instr.mapUpdate t (.map (some b)) (.string (S p)) val).run Tryz.prog w = .ok () w' ∧ MapOf w' b (n + 1) (fun q => if q = p then some val else f q) ∧ w.grownBy w' (some b) := by
  obtain ⟨D, h1, h2⟩ := hown
  obtain ⟨w', r1, r2, r3⟩ := h1.update strLaw ht hn (strKey p hp) (val := val) (d := .held val) (ps := []) rfl
  exact ⟨w', r1, ⟨_, r2, reads_put h2 h1.isMap p val⟩, r3⟩

section
variable {ops : Array Oper} {rest : List Oper} {o : Oper} {a : Act} {Q : Exit → Act → World → Prop}

theorem map_update (w : World) (hg : o.guard = none) (m x v : Operand) (t : TypeId) (hop : o.op = Op.mapUpdate t m x v) (e : TypeId) (ht : Tryz.prog.underlying t = some (.map 9 e))
    (b n : Nat) (f : Bytes → Option Value) (hm : a.eval m = .map (some b)) (hown : MapOf w b n f) (hn : n < maxLen) (p : Bytes) (hp : p.length ≤ maxLen) (val : Value) (hx : a.eval x = .string (S p)) (hv : a.eval v = val)
    (hK : ∀ w', MapOf w' b (n + 1) (fun q => if q = p then some val else f q) → w.grownBy w' (some b) → wpList Tryz.prog ops Q rest (a.put o.dst undef) w') : wpList Tryz.prog ops Q (o :: rest) a w := by
  obtain ⟨D, h1, h2⟩ := hown
  refine wpList_mapUpdate_own w hg m x v t hop 9 e strLaw ht raw b n D hm h1 hn _ val _ hx hv (strKey p hp) (.held val) [] rfl ?_
  intro w' h3 h4
  exact hK w' ⟨_, h3, reads_put h2 h1.isMap p val⟩ h4

theorem map_look (w : World) (hg : o.guard = none) (m x : Operand) (t : TypeId) (hop : o.op = Op.lookup t m x false) (e : TypeId) (ht : Tryz.prog.underlying t = some (.map 9 e)) (z : Value) (hz : (zeroValue e).run Tryz.prog w = .ok z w)
    (b n : Nat) (f : Bytes → Option Value) (hm : a.eval m = .map (some b)) (hown : MapOf w b n f) (p : Bytes) (hp : p.length ≤ maxLen) (hx : a.eval x = .string (S p)) (r : Value) (hr : (f p).getD z = r)
    (hK : wpList Tryz.prog ops Q rest (a.put o.dst r) w) : wpList Tryz.prog ops Q (o :: rest) a w := by
  subst hr
  obtain ⟨D, h1, h2⟩ := hown
  refine wpList_plain hg fun K' hK' => ?_
  obtain ⟨v, ps, hrun, hv⟩ := h1.lookup strLaw ht hz (zd := .held z) (zp := []) rfl (strKey p hp)
  have e : v = (f p).getD z := by
    have hv' : DataW.held v = D.atKey (.string p) (.held z) := by
      have := congrArg (Option.map Prod.fst) hv
      simpa [raw] using this
    cases hf : f p with
    | none =>
      rw [atKey_of_not_has ((h2 p).1 hf)] at hv'
      injection hv' with hv'
    | some u =>
      rw [((h2 p).2 u hf).2] at hv'
      injection hv' with hv'
  subst e
  unfold Oper.wp
  simp [execOp, hop, hm, hx, hrun, Result.andThen]
  exact hK' _ _ hK

theorem map_look_ok (w : World) (hg : o.guard = none) (m x : Operand) (t : TypeId) (hop : o.op = Op.lookup t m x true) (e : TypeId) (ht : Tryz.prog.underlying t = some (.map 9 e)) (z : Value) (hz : (zeroValue e).run Tryz.prog w = .ok z w)
    (b n : Nat) (f : Bytes → Option Value) (hm : a.eval m = .map (some b)) (hown : MapOf w b n f) (p : Bytes) (hp : p.length ≤ maxLen) (hx : a.eval x = .string (S p))
    (hK : wpList Tryz.prog ops Q rest (a.put o.dst (.tuple #[(f p).getD z, .bool (f p).isSome])) w) : wpList Tryz.prog ops Q (o :: rest) a w := by
  obtain ⟨D, h1, h2⟩ := hown
  refine wpList_lookup_own_ok w hg m x t hop 9 e strLaw ht raw hz (.held z) [] rfl b n D hm h1 _ _ hx (strKey p hp) ?_
  intro v ps hv
  have hv' : DataW.held v = D.atKey (.string p) (.held z) := by
    have := congrArg (Option.map Prod.fst) hv
    simpa [raw] using this
  cases hf : f p with
  | none =>
    rw [atKey_of_not_has ((h2 p).1 hf)] at hv'
    injection hv' with hv'
    rw [hf] at hK
    rw [(h2 p).1 hf, hv']
    exact hK
  | some u =>
    rw [((h2 p).2 u hf).2] at hv'
    injection hv' with hv'
    rw [hf] at hK
    rw [((h2 p).2 u hf).1, hv']
    exact hK

theorem map_look_some (w : World) (hg : o.guard = none) (m x : Operand) (t : TypeId) (hop : o.op = Op.lookup t m x true) (e : TypeId) (ht : Tryz.prog.underlying t = some (.map 9 e)) (z : Value) (hz : (zeroValue e).run Tryz.prog w = .ok z w)
    (b n : Nat) (f : Bytes → Option Value) (hm : a.eval m = .map (some b)) (hown : MapOf w b n f) (p : Bytes) (hp : p.length ≤ maxLen) (hx : a.eval x = .string (S p)) (v : Value) (hf : f p = some v)
    (hK : wpList Tryz.prog ops Q rest (a.put o.dst (.tuple #[v, .bool true])) w) : wpList Tryz.prog ops Q (o :: rest) a w :=
  map_look_ok w hg m x t hop e ht z hz b n f hm hown p hp hx (by rw [hf]; exact hK)
theorem map_look_none (w : World) (hg : o.guard = none) (m x : Operand) (t : TypeId) (hop : o.op = Op.lookup t m x true) (e : TypeId) (ht : Tryz.prog.underlying t = some (.map 9 e)) (z : Value) (hz : (zeroValue e).run Tryz.prog w = .ok z w)
    (b n : Nat) (f : Bytes → Option Value) (hm : a.eval m = .map (some b)) (hown : MapOf w b n f) (p : Bytes) (hp : p.length ≤ maxLen) (hx : a.eval x = .string (S p)) (hf : f p = none)
    (hK : wpList Tryz.prog ops Q rest (a.put o.dst (.tuple #[z, .bool false])) w) : wpList Tryz.prog ops Q (o :: rest) a w :=
  map_look_ok w hg m x t hop e ht z hz b n f hm hown p hp hx (by rw [hf]; exact hK)
end

/-- A range over the map b, with its iterator at r: left says which strings are still to come. -/
def RangeOf (w : World) (b r n : Nat) (f : Bytes → Option Value) (left : Bytes → Bool) (cnt : Nat) : Prop :=
  ∃ D lt, w.ranges Tryz.prog 9 raw b r n D lt cnt ∧ Reads D f ∧ ∀ p : Bytes, lt (.string p) = left p
theorem RangeOf.left_eq {w : World} {b r n : Nat} {f : Bytes → Option Value} {left : Bytes → Bool} {cnt : Nat} (h : RangeOf w b r n f left cnt) : w.rangeLeft b r = cnt := by
  obtain ⟨D, lt, h1, _⟩ := h
  exact h1.left_eq
theorem RangeOf.owns {w : World} {b r n : Nat} {f : Bytes → Option Value} {left : Bytes → Bool} {cnt : Nat} (h : RangeOf w b r n f left cnt) : MapOf w b n f := by
  obtain ⟨D, lt, h1, h2, _⟩ := h
  exact ⟨D, h1.owns, h2⟩
theorem RangeOf.lt {w : World} {b r n : Nat} {f : Bytes → Option Value} {left : Bytes → Bool} {cnt : Nat} (h : RangeOf w b r n f left cnt) : r < w.heap.size := by
  obtain ⟨D, lt, h1, _⟩ := h
  exact h1.lt
theorem RangeOf.kept {w w' : World} {b r n : Nat} {f : Bytes → Option Value} {left : Bytes → Bool} {cnt : Nat} {row : Option Nat} (h : RangeOf w b r n f left cnt) (hg : w.grownBy w' row) (hb : some b ≠ row) (hr : some r ≠ row) : RangeOf w' b r n f left cnt := by
  obtain ⟨D, lt, h1, h2⟩ := h
  exact ⟨D, lt, h1.kept hg hb hr, h2⟩
theorem RangeOf.below {w w' : World} {b r n : Nat} {f : Bytes → Option Value} {left : Bytes → Bool} {cnt : Nat} (h : RangeOf w b r n f left cnt) (hb : Below w.heap.size w w') : RangeOf w' b r n f left cnt := h.kept (grown_below hb none) (by simp) (by simp)

section
variable {ops : Array Oper} {rest : List Oper} {o : Oper} {a : Act} {Q : Exit → Act → World → Prop}

theorem map_range (w : World) (hg : o.guard = none) (m : Operand) (t : TypeId) (hop : o.op = Op.range t m) (e : TypeId) (ht : Tryz.prog.underlying t = some (.map 9 e)) (b n : Nat) (f : Bytes → Option Value)
    (hm : a.eval m = .map (some b)) (hown : MapOf w b n f)
    (hK : ∀ w' cnt, cnt ≤ n → RangeOf w' b w.heap.size n f (fun p => (f p).isSome) cnt → w.grownBy w' none → w'.heap.size = w.heap.size + 1 → wpList Tryz.prog ops Q rest (a.put o.dst (.pointer (some ⟨w.heap.size, 0, none⟩))) w') : wpList Tryz.prog ops Q (o :: rest) a w := by
  obtain ⟨D, h1, h2⟩ := hown
  refine wpList_range_own w hg m t hop 9 e strLaw ht raw b n D hm h1 ?_
  intro w' h3 h4 h5
  refine hK w' _ h1.size_le ⟨D, _, h3, h2, fun p => ?_⟩ h4 h5
  cases hf : f p with
  | none =>
    show Maps.has D (.string p) = (f p).isSome
    rw [(h2 p).1 hf, hf]
    rfl
  | some v =>
    show Maps.has D (.string p) = (f p).isSome
    rw [((h2 p).2 v hf).1, hf]
    rfl

theorem map_next (w : World) (hg : o.guard = none) (it : Operand) (hop : o.op = Op.next it false) (b r n : Nat) (f : Bytes → Option Value) (left : Bytes → Bool) (cnt : Nat)
    (hit : a.eval it = .pointer (some ⟨r, 0, none⟩)) (h : RangeOf w b r n f left cnt)
    (hDone : (∀ p, left p = false) → wpList Tryz.prog ops Q rest (a.put o.dst (.tuple #[.bool false])) w)
    (hMore : ∀ (p : Bytes) (v : Value) (w' : World) (cnt' : Nat), p.length ≤ maxLen → left p = true → f p = some v → RangeOf w' b r n f (fun q => left q && !(q == p)) cnt' → cnt' < cnt →
      w.grownBy w' (some r) → w'.heap.size = w.heap.size → (Instr.entry (.pointer (some ⟨r, 0, none⟩))).run Tryz.prog w' = .ok (.tuple #[.string (S p), v]) w' → wpList Tryz.prog ops Q rest (a.put o.dst (.tuple #[.bool true, .string (S p), v])) w') :
    wpList Tryz.prog ops Q (o :: rest) a w := by
  obtain ⟨D, lt, h1, h2, h3⟩ := h
  refine wpList_next_ranges w hg it hop 9 strLaw raw (fun p : Bytes => .string (S p)) (fun v : Value => v) ?_ ?_ b r n D lt cnt hit h1 ?_ ?_
  · intro key kl hkey
    obtain ⟨s, rfl⟩ := Maps.keyOf_string_inv Tryz.underlying9 hkey
    exact ⟨s.data.toList, by rw [← S_of]⟩
  · intro v y _
    exact ⟨v, rfl⟩
  · intro _ hl
    exact hDone fun p => by rw [← h3, hl]
  · intro p v kl y w' cnt' hkey hl hv hat hrg hlt hgr hsz hen
    have hpl : p.length ≤ maxLen := by
      rcases Nat.lt_or_ge maxLen p.length with hgt | hle
      · exfalso
        rw [keyOf_string Tryz.underlying9] at hkey
        simp [mapKey, Tryz.underlying9, S_size, Nat.not_le.2 hgt] at hkey
      · exact hle
    rw [strKey p hpl] at hkey
    injection hkey with hkey
    subst hkey
    have hy : y.1 = .held v := by
      have hv' : raw v = some y := hv
      unfold raw at hv'
      injection hv' with hv'
      rw [← hv']
    rw [hy] at hat
    have hf : f p = some v := by
      cases hf : f p with
      | none =>
        have := (h2 p).1 hf
        rw [has_true_of_atKey hat] at this
        cases this
      | some u =>
        have := ((h2 p).2 u hf).2 (.held v)
        rw [hat] at this
        injection this with this
        rw [this]
    refine hMore p v w' cnt' hpl (by rw [← h3]; exact hl) hf ⟨D, _, hrg, h2, fun q => ?_⟩ hlt hgr hsz hen
    rw [h3]
    rfl
end
end Go.Proofs.YtjcockcilkiggaaGreat
/- A struct of three cells that is being filled, and functions whose result lies in a cell. -/
namespace Go.Proofs.YtjcockcilkiggaaGreat
set_option maxRecDepth 100000
open Go.RowKit

/-- A struct of three cells that is being filled. -/
structure OBox (w : World) (g : Nat) (v0 v1 v2 : Value) : Prop where
  o0 : w.cell? ⟨g, 0, none⟩ = some v0
  o1 : w.cell? ⟨g, 1, none⟩ = some v1
  o2 : w.cell? ⟨g, 2, none⟩ = some v2
  f0 : w.frozen? ⟨g, 0, none⟩ = false
  f1 : w.frozen? ⟨g, 1, none⟩ = false
  f2 : w.frozen? ⟨g, 2, none⟩ = false
theorem OBox.kept {w w' : World} {g : Nat} {v0 v1 v2 : Value} {row : Option Nat} (h : OBox w g v0 v1 v2) (hg : w.grownBy w' row) (hne : some g ≠ row) : OBox w' g v0 v1 v2 := by
  have hlt := World.block_lt_of_cell? _ _ h.o0
  exact ⟨(hg.cell_far ⟨g, 0, none⟩ hlt hne).trans h.o0, (hg.cell_far ⟨g, 1, none⟩ hlt hne).trans h.o1, (hg.cell_far ⟨g, 2, none⟩ hlt hne).trans h.o2, (hg.frozen_far ⟨g, 0, none⟩ hlt hne).trans h.f0, (hg.frozen_far ⟨g, 1, none⟩ hlt hne).trans h.f1, (hg.frozen_far ⟨g, 2, none⟩ hlt hne).trans h.f2⟩
theorem OBox.below {w w' : World} {g : Nat} {v0 v1 v2 : Value} (h : OBox w g v0 v1 v2) (hb : Below w.heap.size w w') : OBox w' g v0 v1 v2 := h.kept (grown_below hb none) (by simp)
theorem OBox.alloc {w : World} {g : Nat} {v0 v1 v2 : Value} (h : OBox w g v0 v1 v2) (o : Obj) : OBox (w.alloc o) g v0 v1 v2 := h.below ((Below.refl _ _).alloc (Nat.le_refl _) o)
theorem OBox.new (w : World) (v0 v1 v2 : Value) (t : TypeId) : OBox (w.alloc (.cells #[v0, v1, v2] t)) w.heap.size v0 v1 v2 :=
  ⟨by rw [World.cell?_alloc_new]; rfl, by rw [World.cell?_alloc_new]; rfl, by rw [World.cell?_alloc_new]; rfl, by simp, by simp, by simp⟩
theorem OBox.set1 {w : World} {g : Nat} {v0 v1 v2 : Value} (h : OBox w g v0 v1 v2) (v : Value) : OBox (w.setCell ⟨g, 1, none⟩ v) g v0 v v2 :=
  ⟨(World.cell?_setCell_other w ⟨g, 1, none⟩ ⟨g, 0, none⟩ v (by simp)).trans h.o0, World.cell?_setCell_same w ⟨g, 1, none⟩ v h.o1, (World.cell?_setCell_other w ⟨g, 1, none⟩ ⟨g, 2, none⟩ v (by simp)).trans h.o2, by rw [World.frozen?_setCell]; exact h.f0, by rw [World.frozen?_setCell]; exact h.f1, by rw [World.frozen?_setCell]; exact h.f2⟩
theorem OBox.set2 {w : World} {g : Nat} {v0 v1 v2 : Value} (h : OBox w g v0 v1 v2) (v : Value) : OBox (w.setCell ⟨g, 2, none⟩ v) g v0 v1 v :=
  ⟨(World.cell?_setCell_other w ⟨g, 2, none⟩ ⟨g, 0, none⟩ v (by simp)).trans h.o0, (World.cell?_setCell_other w ⟨g, 2, none⟩ ⟨g, 1, none⟩ v (by simp)).trans h.o1, World.cell?_setCell_same w ⟨g, 2, none⟩ v h.o2, by rw [World.frozen?_setCell]; exact h.f0, by rw [World.frozen?_setCell]; exact h.f1, by rw [World.frozen?_setCell]; exact h.f2⟩
theorem OBox.set0 {w : World} {g : Nat} {v0 v1 v2 : Value} (h : OBox w g v0 v1 v2) (v : Value) : OBox (w.setCell ⟨g, 0, none⟩ v) g v v1 v2 :=
  ⟨World.cell?_setCell_same w ⟨g, 0, none⟩ v h.o0, (World.cell?_setCell_other w ⟨g, 0, none⟩ ⟨g, 1, none⟩ v (by simp)).trans h.o1, (World.cell?_setCell_other w ⟨g, 0, none⟩ ⟨g, 2, none⟩ v (by simp)).trans h.o2, by rw [World.frozen?_setCell]; exact h.f0, by rw [World.frozen?_setCell]; exact h.f1, by rw [World.frozen?_setCell]; exact h.f2⟩
/-- A function whose one result lies in a cell. -/
theorem results_cell1 {fn : Func} {p : Tmp} {ty : TypeId} (h : fn.results = #[.cell p ty]) (tmps : Array Value) (P : Program) (w : World) :
    (results fn tmps).run P w = ((asAddr (tmps.getD p undef)).run P w).andThen fun a w₁ => (loadVar ty a).run P w₁ := by
  simp only [results, h]
  simp [Sem.run_bind, Result.andThen]
theorem grown_set (w : World) (a : Addr) (u : Value) : w.grownBy (w.setCell a u) (some a.block) :=
  ⟨rfl, rfl, rfl, by simp [World.setCell], fun k _ hk => Below.heap_setCell _ _ _ k (fun e => hk (by rw [e]))⟩

end Go.Proofs.YtjcockcilkiggaaGreat
