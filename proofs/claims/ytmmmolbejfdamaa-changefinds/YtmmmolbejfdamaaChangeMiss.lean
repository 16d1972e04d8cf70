/- package change: missing returns the names of the entries of one list that are not in another; Diff returns the error of tree.Check. They write nothing that was there. -/
import Derived.Test.YtmmmolbejfdamaaEntIn
import Derived.Test.YtmmmolbejfdamaaRefDiffer
import Derived.Test.YtmmmolbejfdamaaTreeCheck
namespace Go.Proofs.Ytmmmolbejfdamaa
set_option maxRecDepth 100000
open Go.RowKit

section
variable {ops : Array Oper} {rest : List Oper} {o : Oper} {a : Act} {Q : Exit → Act → World → Prop}
/-- Strings behind strings, whatever slice holds the second ones. -/
theorem app_strs_any (w : World) (hgd : o.guard = none) (s x : Operand) (ho : o.op = .call { callee := .builtin .append, args := #[s, x], argTypes := #[23, 23] })
    (base : Nat) (v : Value) (l : List Bytes) (hs : a.eval s = v) (hown : w.ownsRow base 9 1 v l.length (scells l))
    (B : Option Addr) (c : Nat) (r : List Bytes) (hx : a.eval x = .slice B r.length c) (hB : Row w B (scells r))
    (hsmall : (l.length + r.length) * 16 ≤ 140737488355328) (hbase : base ≤ w.heap.size)
    (h : ∀ v' w', w'.ownsRow base 9 1 v' (l ++ r).length (scells (l ++ r)) → w.grownBy w' v.ownBlock → wpList Try.prog ops Q rest (a.put o.dst v') w') : wpList Try.prog ops Q (o :: rest) a w := by
  by_cases hr0 : r = []
  · subst hr0
    simp only [List.append_nil] at h
    obtain ⟨i0, hi, hz0, hz1, hz2⟩ := str_info
    have hrun : (Builtin.append_ #[23, 23] o.type #[v, .slice B 0 c]).run Try.prog w = .ok v w := by
      rcases hown.2 with ⟨rfl, e0⟩ | ⟨g, cap, cur, rfl, _, _, hnc, _⟩
      · cases B <;> simp [Builtin.append_, run_underlying Try.underlying23, sizeOf, typeInfo, hi, Builtin.lenOf, Builtin.firstCells, loadCells, loadCellsFrom]
      · cases B <;> simp [Builtin.append_, run_underlying Try.underlying23, sizeOf, typeInfo, hi, Builtin.lenOf, Builtin.firstCells, loadCells, loadCellsFrom, hnc, storeCells]
    exact app_run w hgd s x _ _ ho _ _ _ _ hs hx hrun (h v w hown (World.grownBy.refl w _))
  · have hpos : 0 < r.length := List.length_pos_iff.2 hr0
    obtain ⟨g, off, rfl, hc⟩ := hB (by rw [scells_length]; omega)
    refine app_strs w hgd s x ho base v l hs hown ⟨g, off, none⟩ c r r.length rfl hx (fun j u hu => ?_) hsmall hbase h
    obtain ⟨hj, rfl⟩ := List.getElem?_eq_some_iff.1 hu
    rw [Go.WideShapes.add_plain]
    exact hc j hj
end

/-- The names of the entries of a that are not in b. -/
def missing (a b : List Ent) : List Bytes := (a.filter fun x => !decide (x ∈ b)).map (·.1)
theorem missing_le (a b : List Ent) : (missing a b).length ≤ a.length := by
  unfold missing
  rw [List.length_map]
  exact List.length_filter_le _ _
theorem missing_step (a b : List Ent) (k : Nat) (h : k < a.length) : missing (a.take (k + 1)) b = missing (a.take k) b ++ if a[k] ∈ b then [] else [a[k].1] := by
  unfold missing
  rw [List.take_succ_eq_append_getElem h, List.filter_append, List.map_append, List.filter_cons, List.filter_nil]
  by_cases hb : a[k] ∈ b
  · rw [if_pos hb, decide_eq_true hb]; rfl
  · rw [if_neg hb, decide_eq_false hb]; rfl
theorem missing_mem {a b : List Ent} (ha : (a.map (·.1)).Pairwise Bin.R) (hb : (b.map (·.1)).Pairwise Bin.R) (n : Bytes) : n ∈ missing a b ↔ ∃ v, stands a n = some v ∧ stands b n ≠ some v := by
  unfold missing
  constructor
  · intro h
    obtain ⟨x, hx, rfl⟩ := List.mem_map.1 h
    obtain ⟨h1, h2⟩ := List.mem_filter.1 hx
    refine ⟨x.2, stands_of_mem ha h1, fun e => ?_⟩
    have := stands_mem e
    rw [decide_eq_true this] at h2
    cases h2
  · rintro ⟨v, h1, h2⟩
    refine List.mem_map.2 ⟨(n, v), List.mem_filter.2 ⟨stands_mem h1, ?_⟩, rfl⟩
    rw [decide_eq_false fun e => h2 (stands_of_mem hb e)]
    rfl
theorem missing_differ {a b : List Ent} (ha : (a.map (·.1)).Pairwise Bin.R) (hb : (b.map (·.1)).Pairwise Bin.R) : Bin.srt (missing a b ++ missing b a) = differ a b :=
  Bin.srt_only (Bin.srt_pairwise _) (differ_order a b) fun n => by
    rw [Bin.srt_mem, List.mem_append, missing_mem ha hb, missing_mem hb ha, differ_mem]
    constructor
    · rintro (⟨v, h1, h2⟩ | ⟨v, h1, h2⟩)
      · rw [h1]; exact fun e => h2 e.symm
      · rw [h1]; exact h2
    · intro h
      cases h1 : stands a n with
      | some v => exact .inl ⟨v, rfl, fun e => h (by rw [h1, e])⟩
      | none =>
        cases h2 : stands b n with
        | some v => exact .inr ⟨v, rfl, by simp⟩
        | none => exact absurd (h1.trans h2.symm) h
theorem missing_name {a b : List Ent} (ha : ∀ x ∈ a, Bin.name x.1 = true) : ∀ n ∈ missing a b, Bin.name n = true := fun n h => by
  obtain ⟨x, hx, rfl⟩ := List.mem_map.1 h
  exact ha x (List.mem_filter.1 hx).1

set_option maxHeartbeats 800000 in
theorem changeMissing (A B : Option Addr) (c d : Nat) (a b : List Ent) (w : World) (hma : a.length ≤ 1000) (hmb : b.length ≤ 1000) (hA : Row w A (encells a)) (hB : Row w B (encells b)) :
    Calls Try.prog 32 #[.slice A a.length c, .slice B b.length d] w (OwnGives (missing a b) w) := by
  have hC := fun (n v : Bytes) (r : Bool) (hr : decide ((n, v) ∈ b) = r) (w : World) hB => Lib.hid (containsEnts B d b n v w (by unfold maxLen; omega) r hr hB)
  have HM0 : ∀ k, (h : k < a.length) → Hid (missing (a.take (k + 1)) b = missing (a.take k) b ++ if a[k] ∈ b then [] else [a[k].1]) := fun k h => missing_step a b k h
  have HT : Hid (missing (a.take a.length) b = missing a b) := by show _ = _; rw [List.take_length]
  have HL := fun k => Lib.hid (missing_le (a.take k) b)
  generalize missing a b = T at *
  go_enter Try.func32, Try.ntmps32
  go_wp2
  go_loopw [5, 10] (fun v i wr => ∃ (k : Nat) (L : List Bytes), k ≤ a.length ∧ i = .int .i64 k ∧ Hid (missing (a.take k) b = L) ∧ L.length ≤ k ∧ wr.ownsRow w.heap.size 9 1 v L.length (scells L) ∧ Below w.heap.size w wr) (fun _ i _ => a.length - (intOf i).toNat)
  case atStart => exact ⟨0, [], Nat.zero_le _, rfl, rfl, Nat.le_refl _, World.ownsRow_nil _ _ _ _, Below.refl _ _⟩
  case round =>
    obtain ⟨k, L, hk, rfl, HL0, hLk, hown, hbl⟩ := hrel
    have hsz := hbl.size
    obtain ⟨D, e0, rfl⟩ := own_shape hown
    by_cases hlt : k < a.length
    · obtain ⟨g, off, rfl, h1, h2⟩ := (hA.below hbl).ent k hlt
      have hi0 : (0 : Int) ≤ (k : Int) := by omega
      have hi1 : (k : Int) < (a.length : Int) := by omega
      have HM := HM0 k hlt
      rw [HL0.out] at HM
      have hbw : Below w.heap.size w (wr.alloc (.cells #[.string (S a[k].1), .string (S a[k].2)] 34)) := hbl.alloc hsz _
      have hown1 := hown.alloc (.cells #[.string (S a[k].1), .string (S a[k].2)] 34)
      have k4 : (wr.alloc (.cells #[.string (S a[k].1), .string (S a[k].2)] 34)).cell? ⟨wr.heap.size, 0, none⟩ = some (.string (S a[k].1)) := by rw [World.cell?_alloc_new]; rfl
      have k5 : (wr.alloc (.cells #[.string (S a[k].1), .string (S a[k].2)] 34)).cell? ⟨wr.heap.size, 1, none⟩ = some (.string (S a[k].2)) := by rw [World.cell?_alloc_new]; rfl
      have hs1 : (wr.alloc (.cells #[.string (S a[k].1), .string (S a[k].2)] 34)).heap.size = wr.heap.size + 1 := by simp
      by_cases hin : a[k] ∈ b
      · rw [if_pos hin, List.append_nil] at HM
        have hc := fun w hB => hC a[k].1 a[k].2 true (decide_eq_true hin) w hB
        clear hC hin HM0 HT HL0 HL
        generalize a[k].1 = na at *
        generalize a[k].2 = va at *
        go_wp2_with fail
        refine (hc _ (hB.below hbw)).out.mono ?_
        rintro e w2 ⟨rfl, hb2⟩
        have hb02 := below_chain hbw hb2
        have hown2 := own_below hown1 hb2
        clear hc hb2 hown1 hbw hown hbl k4 k5
        go_wp2
        go_roundw
        case rel => exact ⟨k + 1, L, by omega, by go_num, HM, by omega, hown2, hb02⟩
        case measure => simp [intOf]; omega
      · rw [if_neg hin] at HM
        have hc := fun w hB => hC a[k].1 a[k].2 false (decide_eq_false hin) w hB
        clear hC hin HM0 HT HL0 HL
        generalize a[k].1 = na at *
        generalize a[k].2 = va at *
        go_wp2_with fail
        refine (hc _ (hB.below hbw)).out.mono ?_
        rintro e w2 ⟨rfl, hb2⟩
        have hb02 := below_chain hbw hb2
        have hown2 := own_below hown1 hb2
        have k42 := kept k4 hb2
        have hs02 := hb02.size
        clear hc hb2 hown1 hbw hown hbl k4 k5
        go_wp2_with (at_builtin; refine app_strs _ rfl _ _ rfl w.heap.size _ L rfl (hown2.alloc _) ⟨w2.heap.size, 0, none⟩ 1 [na] 1 rfl rfl (str_one w2 na _) (by simp; omega) (by simp; omega) ?_; intro v3 w3 hown3 hgrow3)
        have hb3 : Below w.heap.size w w3 := (hb02.alloc hs02 (.cells #[.string (S na)] 9)).grown hgrow3 (by simp; omega) (fun j hj => ((hown2.alloc (.cells #[.string (S na)] 9)).lt j hj).1)
        go_roundw
        case rel => exact ⟨k + 1, L ++ [na], by omega, by go_num, HM, by simp; omega, hown3, hb3⟩
        case measure => simp [intOf]; omega
    · obtain rfl : k = a.length := by omega
      have HF : Hid (T = L) := by
        show T = L
        rw [← HT.out, HL0.out]
      clear HM0 HT HL0 HL hC
      go_wp2
      go_ret
      rw [HF.out]
      exact ⟨D, e0, rfl, hown, hbl⟩

/-- The error of Diff and Look. -/
def diffErr (a b : List Ent) : Int := if fault a = 0 then fault b else fault a
theorem diffErr_ok (a b : List Ent) : diffErr a b = 0 ↔ Good a ∧ Good b := by
  unfold diffErr
  rw [← fault_ok, ← fault_ok]
  split
  · rename_i h; exact ⟨fun e => ⟨h, e⟩, fun e => e.2⟩
  · rename_i h; exact ⟨fun e => absurd e h, fun e => absurd e.1 h⟩

set_option maxHeartbeats 800000 in
theorem changeDiff_no (A B : Option Addr) (c d : Nat) (a b : List Ent) (w : World) (hma : a.length ≤ maxLen) (hea : ∀ x ∈ a, x.1.length ≤ maxLen ∧ x.2.length ≤ maxLen) (hmb : b.length ≤ maxLen) (heb : ∀ x ∈ b, x.1.length ≤ maxLen ∧ x.2.length ≤ maxLen)
    (hA : Row w A (encells a)) (hB : Row w B (encells b)) (r : Int) (hr : diffErr a b = r) (h0 : r ≠ 0) :
    Calls Try.prog 8 #[.slice A a.length c, .slice B b.length d] w fun e w' => e = .returned (.tuple #[.slice none 0 0, .int .i64 r]) ∧ Below w.heap.size w w' := by
  have hC := fun (w : World) hA => Lib.hid (treeCheck A c a w hma hea hA _ rfl)
  have hD := fun (w : World) hB => Lib.hid (treeCheck B d b w hmb heb hB _ rfl)
  have c1 : (r == 0) = false := beq_eq_false_iff_ne.2 h0
  unfold diffErr at hr
  by_cases hf : fault a = 0
  · rw [if_pos hf] at hr
    rw [hf] at hC
    rw [hr] at hD
    clear hf hma hea hmb heb h0 hr
    go_enter Try.func8, Try.ntmps8
    go_wp2_with fail
    refine (hC _ hA).out.mono ?_
    rintro e w1 ⟨rfl, hb1⟩
    go_wp2_with fail
    refine (hD _ (hB.below hb1)).out.mono ?_
    rintro e w2 ⟨rfl, hb2⟩
    have hb := below_chain hb1 hb2
    clear hC hD hA hB
    go_wp2
    go_ret2
    exact ⟨rfl, hb⟩
  · rw [if_neg hf] at hr
    rw [hr] at hC
    clear hf hma hea hmb heb h0 hr hD
    go_enter Try.func8, Try.ntmps8
    go_wp2_with fail
    refine (hC _ hA).out.mono ?_
    rintro e w1 ⟨rfl, hb1⟩
    clear hC hA hB
    go_wp2
    go_ret2
    exact ⟨rfl, hb1⟩
end Go.Proofs.Ytmmmolbejfdamaa
