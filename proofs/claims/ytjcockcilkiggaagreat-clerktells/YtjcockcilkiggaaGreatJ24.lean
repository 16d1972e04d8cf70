/- package tree: preimage returns the preimage of entries of one path, isPrefix whether a string is a prefix; Leaf returns the preimage of a book of one path. They write nothing that was there. -/
import Derived.Test.YtjcockcilkiggaaGreatJ23
import Derived.Test.YtjcockcilkiggaaGreatJ07
import Derived.Test.YtjcockcilkiggaaGreatJ06
import Derived.Test.YtjcockcilkiggaaGreatJ01
namespace Go.Proofs.YtjcockcilkiggaaGreat
open Go.RowKit

set_option maxRecDepth 100000 in
set_option maxHeartbeats 400000 in
theorem treeSaid (A : Option Addr) (c : Nat) (es : List Ent) (w : World) (hm : es.length ≤ 1000) (hes : ∀ x ∈ es, x.1.length + x.2.length ≤ 596) (hA : Row w A (encells es)) :
    Calls Tryz.prog 83 #[.slice A es.length c] w fun e w' => e = .returned (.string (S (leafOf es))) ∧ Below w.heap.size w w' := by
  rcases Nat.eq_zero_or_pos es.length with h0 | h0
  · obtain rfl : es = [] := List.eq_nil_of_length_eq_zero h0
    rw [List.length_nil]
    clear hes h0 hm hA
    go_enter Tryz.func83, Tryz.ntmps83
    go_wp2
    go_ret
    exact ⟨rfl, Below.refl _ _⟩
  · have c1 : ((es.length : Int) == 0) = false := by
      rw [beq_eq_false_iff_ne]
      omega
    have HL : Hid (leafOf es = 1 :: leafBytes es) := by
      show leafOf es = _
      rw [leafOf, if_neg (by rintro rfl; simp at h0)]
    have HE := Lib.hid hes
    clear hes h0
    go_enter Tryz.func83, Tryz.ntmps83
    go_wp2
    go_loopw [3, 13] (fun o i wr => ∃ (k : Nat) (out : Bytes), k ≤ es.length ∧ i = .int .i64 k ∧ o = .string (S out) ∧ out.length ≤ 1 + k * 600 ∧ Hid (out = 1 :: leafBytes (es.take k)) ∧ Below w.heap.size w wr) (fun _ i _ => es.length - (intOf i).toNat)
    case atStart => exact ⟨0, [1], Nat.zero_le _, rfl, rfl, by simp, rfl, Below.refl _ _⟩
    case round =>
      obtain ⟨k, out, hk, rfl, rfl, hol, HO, hbl⟩ := hrel
      have hsz := hbl.size
      clear c1
      by_cases hlt : k < es.length
      · obtain ⟨g, off, rfl, h1, h2⟩ := (hA.below hbl).ent k hlt
        have hi0 : (0 : Int) ≤ (k : Int) := by omega
        have hi1 : (k : Int) < (es.length : Int) := by omega
        have hx := HE.out _ (List.getElem_mem hlt)
        have HO' : Hid (out ++ Wire.enc [es[k].1, es[k].2] = 1 :: leafBytes (es.take (k + 1))) := by
          show out ++ _ = _
          rw [List.take_succ_eq_append_getElem hlt, leafBytes_snoc, HO.out]
          rfl
        have hel : (Wire.enc [es[k].1, es[k].2]).length ≤ 600 := by
          rw [Wire.enc_length]
          simp [Wire.encLen]
          omega
        have hP := fun w g hg t => Lib.hid (put_two es[k].1 es[k].2 w g hg hx t)
        clear hA HO hx
        generalize Wire.enc [es[k].1, es[k].2] = z at *
        generalize es[k].1 = a at *
        generalize es[k].2 = b at *
        go_wp2_with fail
        refine (hP _ _ (by simp) _).out.mono ?_
        rintro e w1 ⟨rfl, hb1⟩
        have hb0 : Below w.heap.size w w1 := below_chain ((hbl.alloc hsz _).alloc (by simp; omega) _) hb1
        go_wp2
        go_roundw
        case rel => exact ⟨k + 1, out ++ z, by omega, by go_num, rfl, by rw [List.length_append]; omega, HO', hb0⟩
        case measure => simp [intOf]; omega
      · have HO' : Hid (leafOf es = out) := by
          show leafOf es = out
          rw [HL.out, HO.out, List.take_of_length_le (by omega)]
        go_wp2
        go_ret
        exact ⟨by rw [HO'.out]; rfl, hbl⟩

set_option maxRecDepth 100000 in
set_option maxHeartbeats 800000 in
theorem treeIsPrefix (l : Bytes) (w : World) (hl : l.length ≤ maxLen) (b : Bool) (hb : (l.all Bin.bitByte && decide (l.length ≤ 16)) = b) :
    Calls Tryz.prog 66 #[.string (S l)] w fun e w' => e = .returned (.bool b) ∧ w = w' := by
  unfold maxLen at hl
  have HB := Lib.hid hb
  clear hb
  go_enter Tryz.func66, Tryz.ntmps66
  go_wp2
  go_loop [3] (fun i => ∃ k : Nat, k ≤ l.length ∧ i = .int .i64 k ∧ Hid ((l.take k).all Bin.bitByte = true)) (fun i => l.length - (intOf i).toNat)
  case atStart => exact ⟨0, Nat.zero_le _, rfl, rfl⟩
  case round =>
    obtain ⟨k, hk, rfl, hpre⟩ := hrel
    by_cases hlt : k < l.length
    · have hi0 : (0 : Int) ≤ (k : Int) := by omega
      have hi1 : (k : Int) < (l.length : Int) := by omega
      have HV : Hid ((((l[k].toNat : Int) == 48) || ((l[k].toNat : Int) == 49)) = Bin.bitByte l[k]) := by
        show _ = _
        unfold Bin.bitByte
        congr 1 <;> rw [Bool.eq_iff_iff, beq_iff_eq, beq_iff_eq] <;> omega
      have HS : Hid (Bin.bitByte l[k] = true → (l.take (k + 1)).all Bin.bitByte = true) := by
        show Bin.bitByte l[k] = true → (l.take (k + 1)).all Bin.bitByte = true
        intro hv
        rw [List.take_succ_eq_append_getElem hlt, List.all_append, hpre.out]
        simp [hv]
      have HF : Hid (Bin.bitByte l[k] = false → b = false) := by
        show Bin.bitByte l[k] = false → b = false
        intro hv
        have : l.all Bin.bitByte = false := by
          rw [List.all_eq_false]
          exact ⟨l[k], List.getElem_mem hlt, by simp [hv]⟩
        rw [← HB.out, this, Bool.false_and]
      generalize Bin.bitByte l[k] = v at *
      clear HB
      have h1 : ((l[k].toNat : Int) == 48) = true ∨ ((l[k].toNat : Int) == 48) = false := by cases ((l[k].toNat : Int) == 48) <;> simp
      have h2 : ((l[k].toNat : Int) == 49) = true ∨ ((l[k].toNat : Int) == 49) = false := by cases ((l[k].toNat : Int) == 49) <;> simp
      rcases h1 with h1 | h1 <;> rcases h2 with h2 | h2 <;>
      · have H := HV.out
        rw [h1, h2] at H
        have g1 : ((l[k].toNat : Int) != 48) = !((l[k].toNat : Int) == 48) := rfl
        have g2 : ((l[k].toNat : Int) != 49) = !((l[k].toNat : Int) == 49) := rfl
        rw [h1] at g1
        rw [h2] at g2
        first
        | (obtain rfl : v = true := H.symm
           have HS' := Lib.hid (HS.out rfl)
           clear H HV HS HF
           go_wp2
           go_round
           case rel => exact ⟨k + 1, by omega, by go_num, HS'⟩
           case measure => simp [intOf]; omega)
        | (obtain rfl : v = false := H.symm
           have HF' := Lib.hid (HF.out rfl)
           clear H HV HS HF
           go_wp2
           go_ret
           exact ⟨by rw [HF'.out]; rfl, rfl⟩)
    · have hall : l.all Bin.bitByte = true := by
        have := hpre.out
        rwa [List.take_of_length_le (by omega)] at this
      have HV : Hid (decide ((l.length : Int) ≤ 16) = b) := by
        show _ = b
        rw [← HB.out, hall, Bool.true_and]
        exact decide_eq_decide.2 (by omega)
      clear hpre hall HB
      obtain rfl : k = l.length := by omega
      go_wp2
      go_ret
      exact ⟨by rw [← HV.out]; rfl, rfl⟩

/-- Whether all entries have one path. -/
def onePath : List Ent → Bool
  | [] => true
  | x :: es => es.all fun y => Bin.of y.1 == Bin.of x.1
theorem R_le {a b : Bytes} (h : Bin.R a b) : ¬ Bin.of b < Bin.of a := fun k => by
  rcases (Bin.R_iff a b).1 h with h | ⟨h, _⟩
  · exact Bin.bs_lt_irrefl _ (Bin.bs_lt_trans h k)
  · rw [h] at k; exact Bin.bs_lt_irrefl _ k
theorem bs_anti {a b : Bytes} (h : ¬ b < a) (k : ¬ a < b) : a = b := Classical.byContradiction fun e => k (Bin.bs_lt_of_le_ne (Bin.bs_le_of_not h) e)
theorem onePath_last (x : Ent) (es : List Ent) (n : Nat) (hn : (x :: es).length = n + 1) (ho : ((x :: es).map (·.1)).Pairwise Bin.R) : onePath (x :: es) = (Bin.of x.1 == Bin.of ((x :: es)[n]'(by omega)).1) := by
  have hg := List.pairwise_iff_getElem.1 ho
  rw [onePath, Bool.eq_iff_iff, List.all_eq_true, beq_iff_eq]
  constructor
  · intro h
    rcases Nat.eq_zero_or_pos n with rfl | hp
    · rfl
    · have hm : (x :: es)[n]'(by omega) ∈ es := by
        obtain ⟨m, rfl⟩ : ∃ m, n = m + 1 := ⟨n - 1, by omega⟩
        simp only [List.getElem_cons_succ]
        exact List.getElem_mem _
      exact (beq_iff_eq.1 (h _ hm)).symm
  · intro h y hy
    rw [beq_iff_eq]
    obtain ⟨j, hj, rfl⟩ := List.getElem_of_mem hy
    have h1 : Bin.R x.1 es[j].1 := by
      have := hg 0 (j + 1) (by simp) (by simpa using hj) (by omega)
      simpa using this
    rw [List.length_cons] at hn
    rcases Nat.lt_or_ge (j + 1) n with hlt | hge
    · have h2 := hg (j + 1) n (by simpa using hj) (by simp; omega) hlt
      simp only [List.getElem_map] at h2
      rw [List.getElem_cons_succ] at h2
      have h3 := R_le h2
      rw [← h] at h3
      exact (bs_anti (R_le h1) h3).symm
    · have e : n = j + 1 := by omega
      subst e
      rw [List.getElem_cons_succ] at h
      exact h.symm
end Go.Proofs.YtjcockcilkiggaaGreat
/- A row of entries of the call's own of which all is known: its entries, and behind them nothing but empty entries. append keeps it so. -/
namespace Go.Proofs.YtjcockcilkiggaaGreat
set_option maxRecDepth 100000
open Go.RowKit

/-- k empty entries. -/
def blanks (k : Nat) : List Ent := List.replicate k ([], [])
theorem encells_blanks (k : Nat) : encells (blanks k) = List.replicate (k * 2) (.string ⟨#[]⟩) := by
  induction k with
  | zero => rfl
  | succ k ih =>
    unfold blanks at ih ⊢
    rw [List.replicate_succ, show (k + 1) * 2 = k * 2 + 1 + 1 by omega, List.replicate_succ, List.replicate_succ, ← ih]
    rfl
theorem zeroCells_blanks (k : Nat) : Builtin.zeroCells (Value.agg #[.string ⟨#[]⟩, .string ⟨#[]⟩]).cells k = (encells (blanks k)).toArray := by
  rw [encells_blanks]
  apply Array.toList_inj.1
  rw [show (List.replicate (k * 2) (Value.string ⟨#[]⟩)).toArray.toList = List.replicate (k * 2) (Value.string ⟨#[]⟩) from rfl, List.eq_replicate_iff]
  constructor
  · simp [Builtin.zeroCells, Value.cells]
  · intro b hb
    simp only [Builtin.zeroCells, Array.toList_map, List.mem_map] at hb
    obtain ⟨i, _, rfl⟩ := hb
    have hs : (Value.agg #[.string ⟨#[]⟩, .string ⟨#[]⟩]).cells = #[.string ⟨#[]⟩, .string ⟨#[]⟩] := rfl
    rw [hs]
    have h2 : i % (#[Value.string ⟨#[]⟩, Value.string ⟨#[]⟩] : Array Value).size = 0 ∨ i % (#[Value.string ⟨#[]⟩, Value.string ⟨#[]⟩] : Array Value).size = 1 := by
      have : (#[Value.string ⟨#[]⟩, Value.string ⟨#[]⟩] : Array Value).size = 2 := rfl
      rw [this]
      omega
    rcases h2 with h | h
    · rw [h]; rfl
    · rw [h]; rfl

/-- A row of the call's own: its entries, and empty entries behind them. -/
def ownsS (w : World) (base : Nat) (v : Value) (l : List Ent) : Prop :=
  (v = .slice none 0 0 ∧ l = []) ∨
  ∃ g k, v = .slice (some ⟨g, 0, none⟩) l.length (l.length + k) ∧ base ≤ g ∧ l.length + k ≤ maxLen ∧ w.heap[g]? = some (.cells (encells (l ++ blanks k)).toArray 51 (0, 0))
theorem ownsS.nil (w : World) (base : Nat) : ownsS w base (.slice none 0 0) [] := .inl ⟨rfl, rfl⟩
theorem ownsS.row {w : World} {base : Nat} {v : Value} {l : List Ent} (h : ownsS w base v l) : w.ownsRow base 51 2 v l.length (encells l) := by
  rcases h with ⟨rfl, rfl⟩ | ⟨g, k, rfl, h1, h2, h3⟩
  · exact World.ownsRow_nil _ _ _ _
  · refine ⟨encells_length l, .inr ⟨g, l.length + k, _, rfl, h1, h3, Nat.le_add_right _ _, h2, ?_, ?_⟩⟩
    · rw [List.size_toArray, encells_length, List.length_append, blanks, List.length_replicate]
    · rw [encells_append, ← encells_length l]
      exact List.take_left
theorem ownsS.kept {w w' : World} {base : Nat} {v : Value} {l : List Ent} {row : Option Nat} (h : ownsS w base v l) (hg : w.grownBy w' row) (hne : v.ownBlock = none ∨ v.ownBlock ≠ row) : ownsS w' base v l := by
  rcases h with h | ⟨g, k, rfl, h1, h2, h3⟩
  · exact .inl h
  · refine .inr ⟨g, k, rfl, h1, h2, ?_⟩
    rcases hne with e | e
    · cases e
    · rw [hg.block g (by obtain ⟨h, _⟩ := Array.getElem?_eq_some_iff.1 h3; exact h) e]
      exact h3
theorem ownsS.below {w w' : World} {base : Nat} {v : Value} {l : List Ent} (h : ownsS w base v l) (hb : Below w.heap.size w w') : ownsS w' base v l := by
  rcases h with h | ⟨g, k, rfl, h1, h2, h3⟩
  · exact .inl h
  · refine .inr ⟨g, k, rfl, h1, h2, ?_⟩
    rw [hb.block g (by obtain ⟨h, _⟩ := Array.getElem?_eq_some_iff.1 h3; exact h)]
    exact h3
theorem ownsS.alloc {w : World} {base : Nat} {v : Value} {l : List Ent} (h : ownsS w base v l) (o : Obj) : ownsS (w.alloc o) base v l := h.below ((Below.refl _ _).alloc (Nat.le_refl _) o)
theorem ownsS.mono {w : World} {base b' : Nat} {v : Value} {l : List Ent} (h : ownsS w base v l) (hb : b' ≤ base) : ownsS w b' v l := by
  rcases h with h | ⟨g, k, rfl, h1, h2, h3⟩
  · exact .inl h
  · exact .inr ⟨g, k, rfl, Nat.le_trans hb h1, h2, h3⟩
theorem ownsS.lt {w : World} {base : Nat} {v : Value} {l : List Ent} (h : ownsS w base v l) : ∀ k, v.ownBlock = some k → base ≤ k ∧ k < w.heap.size := h.row.lt
theorem ownsS.shape {w : World} {base : Nat} {v : Value} {l : List Ent} (h : ownsS w base v l) : ∃ A c, v = .slice A l.length c := own_shape h.row
theorem one_cells (r : List Ent) : ∀ u ∈ encells r, u.oneCell' = true := fun u hu => by
  obtain ⟨y, _, hy⟩ := List.mem_flatMap.1 hu
  rcases List.mem_cons.1 hy with rfl | hy
  · rfl
  · rw [List.mem_singleton.1 hy]; rfl
theorem blanks_drop (k m : Nat) : (blanks k).drop m = blanks (k - m) := by
  unfold blanks
  rw [List.drop_replicate]

/-- append onto such a row: the run itself. Where there is room, the array stays. -/
theorem run_appS (w : World) (ty : TypeId) (base : Nat) (v : Value) (l : List Ent) (hown : ownsS w base v l)
    (B : Option Addr) (c : Nat) (r : List Ent) (hB : Row w B (encells r)) (hsmall : (l.length + r.length) * 32 ≤ 140737488355328) (hbase : base ≤ w.heap.size) :
    ∃ v' w', (Builtin.append_ #[39, 39] ty #[v, .slice B r.length c]).run Tryz.prog w = .ok v' w' ∧ ownsS w' base v' (l ++ r) ∧ w.grownBy w' v.ownBlock ∧
      (∀ A cap, v = .slice A l.length cap → l.length + r.length ≤ cap → v' = .slice A (l ++ r).length cap) := by
  obtain ⟨i0, hi, hz0, hz1, hz2⟩ := ent_info
  by_cases hr0 : r = []
  · subst hr0
    rw [List.append_nil]
    refine ⟨v, w, ?_, hown, World.grownBy.refl w _, fun A cap e _ => e⟩
    rw [List.length_nil]
    rcases hown with ⟨rfl, e0⟩ | ⟨g, k, rfl, _, _, _⟩
    · cases B <;> simp [Builtin.append_, run_underlying Tryz.underlying39, sizeOf, typeInfo, hi, Builtin.lenOf, Builtin.firstCells, loadCells, loadCellsFrom]
    · cases B <;> simp [Builtin.append_, run_underlying Tryz.underlying39, sizeOf, typeInfo, hi, Builtin.lenOf, Builtin.firstCells, loadCells, loadCellsFrom, storeCells]
  · have hpos : 0 < r.length := List.length_pos_iff.2 hr0
    obtain ⟨gb, off, rfl, hc⟩ := hB (by rw [encells_length]; omega)
    have hnews : ∀ j u, (encells r)[j]? = some u → w.cell? ((⟨gb, off, none⟩ : Addr).add j) = some u := fun j u hu => by
      obtain ⟨hj, rfl⟩ := List.getElem?_eq_some_iff.1 hu
      rw [Go.WideShapes.add_plain]
      exact hc j hj
    have hlr : (encells r).length = r.length * i0.size := by rw [encells_length, hz1]
    have hml : l.length + r.length ≤ maxLen := by unfold maxLen; omega
    have hrow := hown.row
    rcases hown with ⟨rfl, rfl⟩ | ⟨g, k, rfl, h1, h2, h3⟩
    · have hr := run_append_nil (P := Tryz.prog) w 39 ty 51 i0 _ Tryz.underlying39 hi hz0 ⟨gb, off, none⟩ r.length c (encells r) hlr hnews hpos (by omega) (by rw [hz2]; simp only [List.length_nil, Nat.zero_add] at hsmall; omega)
      have hge := grownCap_ge w r.length 0 51
      have hcm := grownCap_le_maxLen w r.length 0 51 (by simpa using hml)
      refine ⟨_, _, hr, ?_, ⟨rfl, rfl, rfl, by simp, fun k hk _ => heap_alloc_old w.drew _ hk⟩, fun A cap e hroom => ?_⟩
      · refine .inr ⟨w.heap.size, grownCap w r.length 0 51 - r.length, ?_, hbase, ?_, ?_⟩
        · rw [List.nil_append, show r.length + (grownCap w r.length 0 51 - r.length) = grownCap w r.length 0 51 by omega]
        · rw [List.nil_append]; omega
        · rw [List.nil_append, encells_append, zeroCells_blanks]
          rw [← List.append_toArray]
          exact heap_alloc_new w.drew _
      · injection e with e1 e2 e3
        rw [← e3] at hroom
        simp only [List.length_nil] at hroom
        omega
    · by_cases hroom : l.length + r.length ≤ l.length + k
      · have hr := run_append_room (P := Tryz.prog) w 39 ty 51 i0 Tryz.underlying39 hi g l.length (l.length + k) _ h3 ⟨gb, off, none⟩ r.length c (encells r) hlr hnews (one_cells r) hroom (by rw [List.size_toArray, encells_length, encells_length, List.length_append, hz1, blanks, List.length_replicate]; omega)
        refine ⟨_, _, hr, .inr ⟨g, k - r.length, ?_, h1, ?_, ?_⟩, ⟨rfl, rfl, rfl, by simp, fun k _ hk => setRow_other w g k _ (fun e => hk (by simp [Value.ownBlock, e]))⟩, fun A cap e _ => ?_⟩
        · rw [List.length_append, show l.length + r.length + (k - r.length) = l.length + k by omega]
        · rw [List.length_append]; omega
        · rw [setRow_heap w g _ _ _ _ h3]
          refine congrArg (fun x => some (Obj.cells x 51 (0, 0))) (congrArg List.toArray ?_)
          rw [hz1, encells_append, encells_append, encells_append, ← blanks_drop, encells_length]
          rw [show l.length * 2 = (encells l).length from (encells_length l).symm, List.take_left, List.drop_append, List.drop_eq_nil_of_le (Nat.le_add_right _ _), List.nil_append, Nat.add_sub_cancel_left]
          congr 1
          rw [encells_blanks, List.drop_replicate, blanks_drop, encells_blanks]
          congr 1
          omega
        · injection e with e1 e2 e3
          rw [List.length_append, ← e1, ← e3]
      · have holds : ∀ j u, (encells l)[j]? = some u → w.cell? ((⟨g, 0, none⟩ : Addr).add j) = some u := hrow.cells (g := g) rfl
        have hr := run_append_grow (P := Tryz.prog) w 39 ty 51 i0 _ Tryz.underlying39 hi hz0 ⟨g, 0, none⟩ l.length (l.length + k) (encells l) (by rw [encells_length, hz1]) holds ⟨gb, off, none⟩ r.length c (encells r) hlr hnews (by omega) (by omega) (growslice_fits (by omega) (by rw [hz2]; omega))
        have hge := grownCap_ge w (l.length + r.length) (l.length + k) 51
        have hcm := grownCap_le_maxLen w (l.length + r.length) (l.length + k) 51 hml
        generalize grownCap w (l.length + r.length) (l.length + k) 51 = cap at *
        refine ⟨_, _, hr, .inr ⟨w.heap.size, cap - (l.length + r.length), ?_, hbase, ?_, ?_⟩, ⟨rfl, rfl, rfl, by simp, fun k hk _ => heap_alloc_old w.drew _ hk⟩, fun A cap' e hroom' => ?_⟩
        · rw [List.length_append, show l.length + r.length + (cap - (l.length + r.length)) = cap by omega]
        · rw [List.length_append]; omega
        · rw [encells_append, encells_append, zeroCells_blanks]
          rw [← List.append_toArray, ← List.append_toArray]
          exact heap_alloc_new w.drew _
        · injection e with e1 e2 e3
          omega
end Go.Proofs.YtjcockcilkiggaaGreat
