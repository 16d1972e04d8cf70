/- A row of entries of the call's own of which all is known: its entries, and behind them nothing but empty entries. append keeps it so. -/
import Derived.Test.YtmmmolbejfdamaaBook
import Derived.Test.YtmmmolbejfdamaaApps
namespace Go.Proofs.Ytmmmolbejfdamaa
set_option maxRecDepth 100000
open Go.RowKit

/-- k empty entries. -/
def blanks (k : Nat) : List Ent := List.replicate k ([], [])
theorem encells_blanks (k : Nat) : encells (blanks k) = List.replicate (k * 2) (.string ⟨#[]⟩) := by
  induction k with
  | zero => rfl
  | succ k ih =>
    unfold blanks at ih ⊢
    rw [List.replicate_succ, show (k + 1) * 2 = k * 2 + 1 + 1 by omega, List.replicate_succ, List.replicate_succ, ← ih]
    rfl
theorem zeroCells_blanks (k : Nat) : Builtin.zeroCells (Value.agg #[.string ⟨#[]⟩, .string ⟨#[]⟩]).cells k = (encells (blanks k)).toArray := by
  rw [encells_blanks]
  apply Array.toList_inj.1
  rw [show (List.replicate (k * 2) (Value.string ⟨#[]⟩)).toArray.toList = List.replicate (k * 2) (Value.string ⟨#[]⟩) from rfl, List.eq_replicate_iff]
  constructor
  · simp [Builtin.zeroCells, Value.cells]
  · intro b hb
    simp only [Builtin.zeroCells, Array.toList_map, List.mem_map] at hb
    obtain ⟨i, _, rfl⟩ := hb
    have hs : (Value.agg #[.string ⟨#[]⟩, .string ⟨#[]⟩]).cells = #[.string ⟨#[]⟩, .string ⟨#[]⟩] := rfl
    rw [hs]
    have h2 : i % (#[Value.string ⟨#[]⟩, Value.string ⟨#[]⟩] : Array Value).size = 0 ∨ i % (#[Value.string ⟨#[]⟩, Value.string ⟨#[]⟩] : Array Value).size = 1 := by
      have : (#[Value.string ⟨#[]⟩, Value.string ⟨#[]⟩] : Array Value).size = 2 := rfl
      rw [this]
      omega
    rcases h2 with h | h
    · rw [h]; rfl
    · rw [h]; rfl

/-- A row of the call's own: its entries, and empty entries behind them. -/
def ownsS (w : World) (base : Nat) (v : Value) (l : List Ent) : Prop :=
  (v = .slice none 0 0 ∧ l = []) ∨
  ∃ g k, v = .slice (some ⟨g, 0, none⟩) l.length (l.length + k) ∧ base ≤ g ∧ l.length + k ≤ maxLen ∧ w.heap[g]? = some (.cells (encells (l ++ blanks k)).toArray 34 (0, 0))
theorem ownsS.nil (w : World) (base : Nat) : ownsS w base (.slice none 0 0) [] := .inl ⟨rfl, rfl⟩
theorem ownsS.row {w : World} {base : Nat} {v : Value} {l : List Ent} (h : ownsS w base v l) : w.ownsRow base 34 2 v l.length (encells l) := by
  rcases h with ⟨rfl, rfl⟩ | ⟨g, k, rfl, h1, h2, h3⟩
  · exact World.ownsRow_nil _ _ _ _
  · refine ⟨encells_length l, .inr ⟨g, l.length + k, _, rfl, h1, h3, Nat.le_add_right _ _, h2, ?_, ?_⟩⟩
    · rw [List.size_toArray, encells_length, List.length_append, blanks, List.length_replicate]
    · rw [encells_append, ← encells_length l]
      exact List.take_left
theorem ownsS.kept {w w' : World} {base : Nat} {v : Value} {l : List Ent} {row : Option Nat} (h : ownsS w base v l) (hg : w.grownBy w' row) (hne : v.ownBlock = none ∨ v.ownBlock ≠ row) : ownsS w' base v l := by
  rcases h with h | ⟨g, k, rfl, h1, h2, h3⟩
  · exact .inl h
  · refine .inr ⟨g, k, rfl, h1, h2, ?_⟩
    rcases hne with e | e
    · cases e
    · rw [hg.block g (by obtain ⟨h, _⟩ := Array.getElem?_eq_some_iff.1 h3; exact h) e]
      exact h3
theorem ownsS.below {w w' : World} {base : Nat} {v : Value} {l : List Ent} (h : ownsS w base v l) (hb : Below w.heap.size w w') : ownsS w' base v l := by
  rcases h with h | ⟨g, k, rfl, h1, h2, h3⟩
  · exact .inl h
  · refine .inr ⟨g, k, rfl, h1, h2, ?_⟩
    rw [hb.block g (by obtain ⟨h, _⟩ := Array.getElem?_eq_some_iff.1 h3; exact h)]
    exact h3
theorem ownsS.alloc {w : World} {base : Nat} {v : Value} {l : List Ent} (h : ownsS w base v l) (o : Obj) : ownsS (w.alloc o) base v l := h.below ((Below.refl _ _).alloc (Nat.le_refl _) o)
theorem ownsS.mono {w : World} {base b' : Nat} {v : Value} {l : List Ent} (h : ownsS w base v l) (hb : b' ≤ base) : ownsS w b' v l := by
  rcases h with h | ⟨g, k, rfl, h1, h2, h3⟩
  · exact .inl h
  · exact .inr ⟨g, k, rfl, Nat.le_trans hb h1, h2, h3⟩
theorem ownsS.lt {w : World} {base : Nat} {v : Value} {l : List Ent} (h : ownsS w base v l) : ∀ k, v.ownBlock = some k → base ≤ k ∧ k < w.heap.size := h.row.lt
theorem ownsS.shape {w : World} {base : Nat} {v : Value} {l : List Ent} (h : ownsS w base v l) : ∃ A c, v = .slice A l.length c := own_shape h.row
theorem one_cells (r : List Ent) : ∀ u ∈ encells r, u.oneCell' = true := fun u hu => by
  obtain ⟨y, _, hy⟩ := List.mem_flatMap.1 hu
  rcases List.mem_cons.1 hy with rfl | hy
  · rfl
  · rw [List.mem_singleton.1 hy]; rfl
theorem blanks_drop (k m : Nat) : (blanks k).drop m = blanks (k - m) := by
  unfold blanks
  rw [List.drop_replicate]

/-- append onto such a row: the run itself. Where there is room, the array stays. -/
theorem run_appS (w : World) (ty : TypeId) (base : Nat) (v : Value) (l : List Ent) (hown : ownsS w base v l)
    (B : Option Addr) (c : Nat) (r : List Ent) (hB : Row w B (encells r)) (hsmall : (l.length + r.length) * 32 ≤ 140737488355328) (hbase : base ≤ w.heap.size) :
    ∃ v' w', (Builtin.append_ #[22, 22] ty #[v, .slice B r.length c]).run Try.prog w = .ok v' w' ∧ ownsS w' base v' (l ++ r) ∧ w.grownBy w' v.ownBlock ∧
      (∀ A cap, v = .slice A l.length cap → l.length + r.length ≤ cap → v' = .slice A (l ++ r).length cap) := by
  obtain ⟨i0, hi, hz0, hz1, hz2⟩ := ent_info
  by_cases hr0 : r = []
  · subst hr0
    rw [List.append_nil]
    refine ⟨v, w, ?_, hown, World.grownBy.refl w _, fun A cap e _ => e⟩
    rw [List.length_nil]
    rcases hown with ⟨rfl, e0⟩ | ⟨g, k, rfl, _, _, _⟩
    · cases B <;> simp [Builtin.append_, run_underlying Try.underlying22, sizeOf, typeInfo, hi, Builtin.lenOf, Builtin.firstCells, loadCells, loadCellsFrom]
    · cases B <;> simp [Builtin.append_, run_underlying Try.underlying22, sizeOf, typeInfo, hi, Builtin.lenOf, Builtin.firstCells, loadCells, loadCellsFrom, storeCells]
  · have hpos : 0 < r.length := List.length_pos_iff.2 hr0
    obtain ⟨gb, off, rfl, hc⟩ := hB (by rw [encells_length]; omega)
    have hnews : ∀ j u, (encells r)[j]? = some u → w.cell? ((⟨gb, off, none⟩ : Addr).add j) = some u := fun j u hu => by
      obtain ⟨hj, rfl⟩ := List.getElem?_eq_some_iff.1 hu
      rw [Go.WideShapes.add_plain]
      exact hc j hj
    have hlr : (encells r).length = r.length * i0.size := by rw [encells_length, hz1]
    have hml : l.length + r.length ≤ maxLen := by unfold maxLen; omega
    have hrow := hown.row
    rcases hown with ⟨rfl, rfl⟩ | ⟨g, k, rfl, h1, h2, h3⟩
    · have hr := run_append_nil (P := Try.prog) w 22 ty 34 i0 _ Try.underlying22 hi hz0 ⟨gb, off, none⟩ r.length c (encells r) hlr hnews hpos (by omega) (by rw [hz2]; simp only [List.length_nil, Nat.zero_add] at hsmall; omega)
      have hge := grownCap_ge w r.length 0 34
      have hcm := grownCap_le_maxLen w r.length 0 34 (by simpa using hml)
      refine ⟨_, _, hr, ?_, ⟨rfl, rfl, rfl, by simp, fun k hk _ => heap_alloc_old w.drew _ hk⟩, fun A cap e hroom => ?_⟩
      · refine .inr ⟨w.heap.size, grownCap w r.length 0 34 - r.length, ?_, hbase, ?_, ?_⟩
        · rw [List.nil_append, show r.length + (grownCap w r.length 0 34 - r.length) = grownCap w r.length 0 34 by omega]
        · rw [List.nil_append]; omega
        · rw [List.nil_append, encells_append, zeroCells_blanks]
          rw [← List.append_toArray]
          exact heap_alloc_new w.drew _
      · injection e with e1 e2 e3
        rw [← e3] at hroom
        simp only [List.length_nil] at hroom
        omega
    · by_cases hroom : l.length + r.length ≤ l.length + k
      · have hr := run_append_room (P := Try.prog) w 22 ty 34 i0 Try.underlying22 hi g l.length (l.length + k) _ h3 ⟨gb, off, none⟩ r.length c (encells r) hlr hnews (one_cells r) hroom (by rw [List.size_toArray, encells_length, encells_length, List.length_append, hz1, blanks, List.length_replicate]; omega)
        refine ⟨_, _, hr, .inr ⟨g, k - r.length, ?_, h1, ?_, ?_⟩, ⟨rfl, rfl, rfl, by simp, fun k _ hk => setRow_other w g k _ (fun e => hk (by simp [Value.ownBlock, e]))⟩, fun A cap e _ => ?_⟩
        · rw [List.length_append, show l.length + r.length + (k - r.length) = l.length + k by omega]
        · rw [List.length_append]; omega
        · rw [setRow_heap w g _ _ _ _ h3]
          refine congrArg (fun x => some (Obj.cells x 34 (0, 0))) (congrArg List.toArray ?_)
          rw [hz1, encells_append, encells_append, encells_append, ← blanks_drop, encells_length]
          rw [show l.length * 2 = (encells l).length from (encells_length l).symm, List.take_left, List.drop_append, List.drop_eq_nil_of_le (Nat.le_add_right _ _), List.nil_append, Nat.add_sub_cancel_left]
          congr 1
          rw [encells_blanks, List.drop_replicate, blanks_drop, encells_blanks]
          congr 1
          omega
        · injection e with e1 e2 e3
          rw [List.length_append, ← e1, ← e3]
      · have holds : ∀ j u, (encells l)[j]? = some u → w.cell? ((⟨g, 0, none⟩ : Addr).add j) = some u := hrow.cells (g := g) rfl
        have hr := run_append_grow (P := Try.prog) w 22 ty 34 i0 _ Try.underlying22 hi hz0 ⟨g, 0, none⟩ l.length (l.length + k) (encells l) (by rw [encells_length, hz1]) holds ⟨gb, off, none⟩ r.length c (encells r) hlr hnews (by omega) (by omega) (growslice_fits (by omega) (by rw [hz2]; omega))
        have hge := grownCap_ge w (l.length + r.length) (l.length + k) 34
        have hcm := grownCap_le_maxLen w (l.length + r.length) (l.length + k) 34 hml
        generalize grownCap w (l.length + r.length) (l.length + k) 34 = cap at *
        refine ⟨_, _, hr, .inr ⟨w.heap.size, cap - (l.length + r.length), ?_, hbase, ?_, ?_⟩, ⟨rfl, rfl, rfl, by simp, fun k hk _ => heap_alloc_old w.drew _ hk⟩, fun A cap' e hroom' => ?_⟩
        · rw [List.length_append, show l.length + r.length + (cap - (l.length + r.length)) = cap by omega]
        · rw [List.length_append]; omega
        · rw [encells_append, encells_append, zeroCells_blanks]
          rw [← List.append_toArray, ← List.append_toArray]
          exact heap_alloc_new w.drew _
        · injection e with e1 e2 e3
          omega
end Go.Proofs.Ytmmmolbejfdamaa
