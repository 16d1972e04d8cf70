/- slices.Index and slices.Contains at entries: whether an entry is in a list of entries. They write nothing that was there. -/
import Derived.Test.YtmmmolbejfdamaaBook
import Derived.Test.YtmmmolbejfdamaaRefDiffer
import Derived.Test.YtmmmolbejfdamaaTreeCheck
import Derived.Test.YtmmmolbejfdamaaPathSort
namespace Go.Proofs.Ytmmmolbejfdamaa
open Go.RowKit

set_option maxRecDepth 100000 in
set_option maxHeartbeats 400000 in
theorem indexEnts (A : Option Addr) (c : Nat) (es : List Ent) (n v : Bytes) (w : World) (hm : es.length ≤ maxLen) (b : Bool) (hb : decide ((n, v) ∈ es) = b) (hA : Row w A (encells es)) :
    Calls Try.prog 80 #[.slice A es.length c, .agg #[.string (S n), .string (S v)]] w fun e w' => ∃ r : Int, e = .returned (.int .i64 r) ∧ decide (0 ≤ r) = b ∧ Below w.heap.size w w' := by
  unfold maxLen at hm
  have HB := Lib.hid hb
  clear hb
  have hA1 := hA.alloc (.cells #[.string (S n), .string (S v)] 34)
  have hb1 : Below w.heap.size w (w.alloc (.cells #[.string (S n), .string (S v)] 34)) := (Below.refl _ w).alloc (Nat.le_refl _) _
  have k1 : (w.alloc (.cells #[.string (S n), .string (S v)] 34)).cell? ⟨w.heap.size, 0, none⟩ = some (.string (S n)) := by rw [World.cell?_alloc_new]; rfl
  have k2 : (w.alloc (.cells #[.string (S n), .string (S v)] 34)).cell? ⟨w.heap.size, 1, none⟩ = some (.string (S v)) := by rw [World.cell?_alloc_new]; rfl
  go_enter Try.func80, Try.ntmps80
  go_wp2
  generalize w.alloc (.cells #[.string (S n), .string (S v)] 34) = w1 at *
  go_loopw [8] (fun i wr => ∃ k m : Nat, k ≤ es.length ∧ i = .int .i64 k ∧ wr = w1.drewN m ∧ Hid ((n, v) ∉ es.take k)) (fun i _ => es.length - (intOf i).toNat)
  case atStart => exact ⟨0, 0, Nat.zero_le _, rfl, rfl, (by show (n, v) ∉ es.take 0; simp)⟩
  case round =>
    obtain ⟨k, m, hk, rfl, rfl, hpre⟩ := hrel
    by_cases hlt : k < es.length
    · obtain ⟨g, off, rfl, h3, h4⟩ := hA1.ent k hlt
      have hi0 : (0 : Int) ≤ (k : Int) := by omega
      have hi1 : (k : Int) < (es.length : Int) := by omega
      clear hA hA1
      have HS : Hid (n = es[k].1 → v = es[k].2 → b = true) := by
        show _ → _ → _
        intro e1 e2
        rw [← HB.out, decide_eq_true_eq]
        have : (n, v) = es[k] := Prod.ext e1 e2
        rw [this]
        exact List.getElem_mem hlt
      have HN : Hid (¬ (n = es[k].1 ∧ v = es[k].2) → (n, v) ∉ es.take (k + 1)) := by
        show _ → _
        intro h
        rw [List.take_succ_eq_append_getElem hlt, List.mem_append, not_or]
        refine ⟨hpre.out, fun e => h ?_⟩
        rw [← List.mem_singleton.1 e]
        exact ⟨rfl, rfl⟩
      generalize es[k].1 = a1 at *
      generalize es[k].2 = a2 at *
      have c1 : (n == a1) = true ∨ (n == a1) = false := by cases n == a1 <;> simp
      have c2 : (v == a2) = true ∨ (v == a2) = false := by cases v == a2 <;> simp
      rcases c1 with c1 | c1
      · rcases c2 with c2 | c2
        · have HF := Lib.hid (HS.out (beq_iff_eq.1 c1) (beq_iff_eq.1 c2))
          clear HS HN
          go_wp2
          go_quiet (fail)
          go_wp2
          go_ret
          exact ⟨(k : Int), rfl, by rw [HF.out]; exact decide_eq_true hi0, by first | exact below_drewN hb1 _ | exact below_drewN (below_drewN hb1 _) _⟩
        · have HN' := Lib.hid (HN.out (fun h => by rw [beq_eq_false_iff_ne] at c2; exact c2 h.2))
          clear HS HN
          go_wp2
          go_quiet (fail)
          go_wp2
          go_roundw
          case rel => exact ⟨k + 1, _, by omega, by go_num, rfl, HN'⟩
          case measure => simp [intOf]; omega
      · have HN' := Lib.hid (HN.out (fun h => by rw [beq_eq_false_iff_ne] at c1; exact c1 h.1))
        clear HS HN c2
        go_wp2
        go_quiet (fail)
        go_wp2
        go_roundw
        case rel => exact ⟨k + 1, _, by omega, by go_num, rfl, HN'⟩
        case measure => simp [intOf]; omega
    · have HF : Hid (b = false) := by
        show b = false
        rw [← HB.out, decide_eq_false_iff_not]
        have := hpre.out
        rwa [List.take_of_length_le (by omega)] at this
      go_wp2
      go_ret
      exact ⟨-1, rfl, by rw [HF.out]; rfl, below_drewN hb1 _⟩

theorem containsEnts (A : Option Addr) (c : Nat) (es : List Ent) (n v : Bytes) (w : World) (hm : es.length ≤ maxLen) (b : Bool) (hb : decide ((n, v) ∈ es) = b) (hA : Row w A (encells es)) :
    Calls Try.prog 58 #[.slice A es.length c, .agg #[.string (S n), .string (S v)]] w fun e w' => e = .returned (.bool b) ∧ Below w.heap.size w w' := by
  have hI := fun (w : World) hA => Lib.hid (indexEnts A c es n v w hm b hb hA)
  have hb1 : Below w.heap.size w (w.alloc (.cells #[.string (S n), .string (S v)] 34)) := (Below.refl _ w).alloc (Nat.le_refl _) _
  clear hb hm
  go_enter Try.func58, Try.ntmps58
  go_wp2_with fail
  refine (hI _ (hA.alloc _)).out.mono ?_
  rintro e w1 ⟨r, rfl, hr, hb2⟩
  have hb3 := below_chain hb1 hb2
  clear hI hA
  go_wp2
  go_ret
  exact ⟨by rw [← hr]; rfl, hb3⟩
end Go.Proofs.Ytmmmolbejfdamaa
/- package change: missing returns the names of the entries of one list that are not in another; Diff returns the error of tree.Check. They write nothing that was there. -/
namespace Go.Proofs.Ytmmmolbejfdamaa
set_option maxRecDepth 100000
open Go.RowKit

section
variable {ops : Array Oper} {rest : List Oper} {o : Oper} {a : Act} {Q : Exit → Act → World → Prop}
/-- Strings behind strings, whatever slice holds the second ones. -/
theorem app_strs_any (w : World) (hgd : o.guard = none) (s x : Operand) (ho : o.op = .call { callee := .builtin .append, args := #[s, x], argTypes := #[23, 23] })
    (base : Nat) (v : Value) (l : List Bytes) (hs : a.eval s = v) (hown : w.ownsRow base 9 1 v l.length (scells l))
    (B : Option Addr) (c : Nat) (r : List Bytes) (hx : a.eval x = .slice B r.length c) (hB : Row w B (scells r))
    (hsmall : (l.length + r.length) * 16 ≤ 140737488355328) (hbase : base ≤ w.heap.size)
    (h : ∀ v' w', w'.ownsRow base 9 1 v' (l ++ r).length (scells (l ++ r)) → w.grownBy w' v.ownBlock → wpList Try.prog ops Q rest (a.put o.dst v') w') : wpList Try.prog ops Q (o :: rest) a w := by
  by_cases hr0 : r = []
  · subst hr0
    simp only [List.append_nil] at h
    obtain ⟨i0, hi, hz0, hz1, hz2⟩ := str_info
    have hrun : (Builtin.append_ #[23, 23] o.type #[v, .slice B 0 c]).run Try.prog w = .ok v w := by
      rcases hown.2 with ⟨rfl, e0⟩ | ⟨g, cap, cur, rfl, _, _, hnc, _⟩
      · cases B <;> simp [Builtin.append_, run_underlying Try.underlying23, sizeOf, typeInfo, hi, Builtin.lenOf, Builtin.firstCells, loadCells, loadCellsFrom]
      · cases B <;> simp [Builtin.append_, run_underlying Try.underlying23, sizeOf, typeInfo, hi, Builtin.lenOf, Builtin.firstCells, loadCells, loadCellsFrom, hnc, storeCells]
    exact app_run w hgd s x _ _ ho _ _ _ _ hs hx hrun (h v w hown (World.grownBy.refl w _))
  · have hpos : 0 < r.length := List.length_pos_iff.2 hr0
    obtain ⟨g, off, rfl, hc⟩ := hB (by rw [scells_length]; omega)
    refine app_strs w hgd s x ho base v l hs hown ⟨g, off, none⟩ c r r.length rfl hx (fun j u hu => ?_) hsmall hbase h
    obtain ⟨hj, rfl⟩ := List.getElem?_eq_some_iff.1 hu
    rw [Go.WideShapes.add_plain]
    exact hc j hj
end

/-- The names of the entries of a that are not in b. -/
def missing (a b : List Ent) : List Bytes := (a.filter fun x => !decide (x ∈ b)).map (·.1)
theorem missing_le (a b : List Ent) : (missing a b).length ≤ a.length := by
  unfold missing
  rw [List.length_map]
  exact List.length_filter_le _ _
theorem missing_step (a b : List Ent) (k : Nat) (h : k < a.length) : missing (a.take (k + 1)) b = missing (a.take k) b ++ if a[k] ∈ b then [] else [a[k].1] := by
  unfold missing
  rw [List.take_succ_eq_append_getElem h, List.filter_append, List.map_append, List.filter_cons, List.filter_nil]
  by_cases hb : a[k] ∈ b
  · rw [if_pos hb, decide_eq_true hb]; rfl
  · rw [if_neg hb, decide_eq_false hb]; rfl
theorem missing_mem {a b : List Ent} (ha : (a.map (·.1)).Pairwise Bin.R) (hb : (b.map (·.1)).Pairwise Bin.R) (n : Bytes) : n ∈ missing a b ↔ ∃ v, stands a n = some v ∧ stands b n ≠ some v := by
  unfold missing
  constructor
  · intro h
    obtain ⟨x, hx, rfl⟩ := List.mem_map.1 h
    obtain ⟨h1, h2⟩ := List.mem_filter.1 hx
    refine ⟨x.2, stands_of_mem ha h1, fun e => ?_⟩
    have := stands_mem e
    rw [decide_eq_true this] at h2
    cases h2
  · rintro ⟨v, h1, h2⟩
    refine List.mem_map.2 ⟨(n, v), List.mem_filter.2 ⟨stands_mem h1, ?_⟩, rfl⟩
    rw [decide_eq_false fun e => h2 (stands_of_mem hb e)]
    rfl
theorem missing_differ {a b : List Ent} (ha : (a.map (·.1)).Pairwise Bin.R) (hb : (b.map (·.1)).Pairwise Bin.R) : Bin.srt (missing a b ++ missing b a) = differ a b :=
  Bin.srt_only (Bin.srt_pairwise _) (differ_order a b) fun n => by
    rw [Bin.srt_mem, List.mem_append, missing_mem ha hb, missing_mem hb ha, differ_mem]
    constructor
    · rintro (⟨v, h1, h2⟩ | ⟨v, h1, h2⟩)
      · rw [h1]; exact fun e => h2 e.symm
      · rw [h1]; exact h2
    · intro h
      cases h1 : stands a n with
      | some v => exact .inl ⟨v, rfl, fun e => h (by rw [h1, e])⟩
      | none =>
        cases h2 : stands b n with
        | some v => exact .inr ⟨v, rfl, by simp⟩
        | none => exact absurd (h1.trans h2.symm) h
theorem missing_name {a b : List Ent} (ha : ∀ x ∈ a, Bin.name x.1 = true) : ∀ n ∈ missing a b, Bin.name n = true := fun n h => by
  obtain ⟨x, hx, rfl⟩ := List.mem_map.1 h
  exact ha x (List.mem_filter.1 hx).1

set_option maxHeartbeats 800000 in
theorem changeMissing (A B : Option Addr) (c d : Nat) (a b : List Ent) (w : World) (hma : a.length ≤ 1000) (hmb : b.length ≤ 1000) (hA : Row w A (encells a)) (hB : Row w B (encells b)) :
    Calls Try.prog 32 #[.slice A a.length c, .slice B b.length d] w (OwnGives (missing a b) w) := by
  have hC := fun (n v : Bytes) (r : Bool) (hr : decide ((n, v) ∈ b) = r) (w : World) hB => Lib.hid (containsEnts B d b n v w (by unfold maxLen; omega) r hr hB)
  have HM0 : ∀ k, (h : k < a.length) → Hid (missing (a.take (k + 1)) b = missing (a.take k) b ++ if a[k] ∈ b then [] else [a[k].1]) := fun k h => missing_step a b k h
  have HT : Hid (missing (a.take a.length) b = missing a b) := by show _ = _; rw [List.take_length]
  have HL := fun k => Lib.hid (missing_le (a.take k) b)
  generalize missing a b = T at *
  go_enter Try.func32, Try.ntmps32
  go_wp2
  go_loopw [5, 10] (fun v i wr => ∃ (k : Nat) (L : List Bytes), k ≤ a.length ∧ i = .int .i64 k ∧ Hid (missing (a.take k) b = L) ∧ L.length ≤ k ∧ wr.ownsRow w.heap.size 9 1 v L.length (scells L) ∧ Below w.heap.size w wr) (fun _ i _ => a.length - (intOf i).toNat)
  case atStart => exact ⟨0, [], Nat.zero_le _, rfl, rfl, Nat.le_refl _, World.ownsRow_nil _ _ _ _, Below.refl _ _⟩
  case round =>
    obtain ⟨k, L, hk, rfl, HL0, hLk, hown, hbl⟩ := hrel
    have hsz := hbl.size
    obtain ⟨D, e0, rfl⟩ := own_shape hown
    by_cases hlt : k < a.length
    · obtain ⟨g, off, rfl, h1, h2⟩ := (hA.below hbl).ent k hlt
      have hi0 : (0 : Int) ≤ (k : Int) := by omega
      have hi1 : (k : Int) < (a.length : Int) := by omega
      have HM := HM0 k hlt
      rw [HL0.out] at HM
      have hbw : Below w.heap.size w (wr.alloc (.cells #[.string (S a[k].1), .string (S a[k].2)] 34)) := hbl.alloc hsz _
      have hown1 := hown.alloc (.cells #[.string (S a[k].1), .string (S a[k].2)] 34)
      have k4 : (wr.alloc (.cells #[.string (S a[k].1), .string (S a[k].2)] 34)).cell? ⟨wr.heap.size, 0, none⟩ = some (.string (S a[k].1)) := by rw [World.cell?_alloc_new]; rfl
      have k5 : (wr.alloc (.cells #[.string (S a[k].1), .string (S a[k].2)] 34)).cell? ⟨wr.heap.size, 1, none⟩ = some (.string (S a[k].2)) := by rw [World.cell?_alloc_new]; rfl
      have hs1 : (wr.alloc (.cells #[.string (S a[k].1), .string (S a[k].2)] 34)).heap.size = wr.heap.size + 1 := by simp
      by_cases hin : a[k] ∈ b
      · rw [if_pos hin, List.append_nil] at HM
        have hc := fun w hB => hC a[k].1 a[k].2 true (decide_eq_true hin) w hB
        clear hC hin HM0 HT HL0 HL
        generalize a[k].1 = na at *
        generalize a[k].2 = va at *
        go_wp2_with fail
        refine (hc _ (hB.below hbw)).out.mono ?_
        rintro e w2 ⟨rfl, hb2⟩
        have hb02 := below_chain hbw hb2
        have hown2 := own_below hown1 hb2
        clear hc hb2 hown1 hbw hown hbl k4 k5
        go_wp2
        go_roundw
        case rel => exact ⟨k + 1, L, by omega, by go_num, HM, by omega, hown2, hb02⟩
        case measure => simp [intOf]; omega
      · rw [if_neg hin] at HM
        have hc := fun w hB => hC a[k].1 a[k].2 false (decide_eq_false hin) w hB
        clear hC hin HM0 HT HL0 HL
        generalize a[k].1 = na at *
        generalize a[k].2 = va at *
        go_wp2_with fail
        refine (hc _ (hB.below hbw)).out.mono ?_
        rintro e w2 ⟨rfl, hb2⟩
        have hb02 := below_chain hbw hb2
        have hown2 := own_below hown1 hb2
        have k42 := kept k4 hb2
        have hs02 := hb02.size
        clear hc hb2 hown1 hbw hown hbl k4 k5
        go_wp2_with (at_builtin; refine app_strs _ rfl _ _ rfl w.heap.size _ L rfl (hown2.alloc _) ⟨w2.heap.size, 0, none⟩ 1 [na] 1 rfl rfl (str_one w2 na _) (by simp; omega) (by simp; omega) ?_; intro v3 w3 hown3 hgrow3)
        have hb3 : Below w.heap.size w w3 := (hb02.alloc hs02 (.cells #[.string (S na)] 9)).grown hgrow3 (by simp; omega) (fun j hj => ((hown2.alloc (.cells #[.string (S na)] 9)).lt j hj).1)
        go_roundw
        case rel => exact ⟨k + 1, L ++ [na], by omega, by go_num, HM, by simp; omega, hown3, hb3⟩
        case measure => simp [intOf]; omega
    · obtain rfl : k = a.length := by omega
      have HF : Hid (T = L) := by
        show T = L
        rw [← HT.out, HL0.out]
      clear HM0 HT HL0 HL hC
      go_wp2
      go_ret
      rw [HF.out]
      exact ⟨D, e0, rfl, hown, hbl⟩

/-- The error of Diff and Look. -/
def diffErr (a b : List Ent) : Int := if fault a = 0 then fault b else fault a
theorem diffErr_ok (a b : List Ent) : diffErr a b = 0 ↔ Good a ∧ Good b := by
  unfold diffErr
  rw [← fault_ok, ← fault_ok]
  split
  · rename_i h; exact ⟨fun e => ⟨h, e⟩, fun e => e.2⟩
  · rename_i h; exact ⟨fun e => absurd e h, fun e => absurd e.1 h⟩

set_option maxHeartbeats 800000 in
theorem changeDiff_no (A B : Option Addr) (c d : Nat) (a b : List Ent) (w : World) (hma : a.length ≤ maxLen) (hea : ∀ x ∈ a, x.1.length ≤ maxLen ∧ x.2.length ≤ maxLen) (hmb : b.length ≤ maxLen) (heb : ∀ x ∈ b, x.1.length ≤ maxLen ∧ x.2.length ≤ maxLen)
    (hA : Row w A (encells a)) (hB : Row w B (encells b)) (r : Int) (hr : diffErr a b = r) (h0 : r ≠ 0) :
    Calls Try.prog 8 #[.slice A a.length c, .slice B b.length d] w fun e w' => e = .returned (.tuple #[.slice none 0 0, .int .i64 r]) ∧ Below w.heap.size w w' := by
  have hC := fun (w : World) hA => Lib.hid (treeCheck A c a w hma hea hA _ rfl)
  have hD := fun (w : World) hB => Lib.hid (treeCheck B d b w hmb heb hB _ rfl)
  have c1 : (r == 0) = false := beq_eq_false_iff_ne.2 h0
  unfold diffErr at hr
  by_cases hf : fault a = 0
  · rw [if_pos hf] at hr
    rw [hf] at hC
    rw [hr] at hD
    clear hf hma hea hmb heb h0 hr
    go_enter Try.func8, Try.ntmps8
    go_wp2_with fail
    refine (hC _ hA).out.mono ?_
    rintro e w1 ⟨rfl, hb1⟩
    go_wp2_with fail
    refine (hD _ (hB.below hb1)).out.mono ?_
    rintro e w2 ⟨rfl, hb2⟩
    have hb := below_chain hb1 hb2
    clear hC hD hA hB
    go_wp2
    go_ret2
    exact ⟨rfl, hb⟩
  · rw [if_neg hf] at hr
    rw [hr] at hC
    clear hf hma hea hmb heb h0 hr hD
    go_enter Try.func8, Try.ntmps8
    go_wp2_with fail
    refine (hC _ hA).out.mono ?_
    rintro e w1 ⟨rfl, hb1⟩
    clear hC hA hB
    go_wp2
    go_ret2
    exact ⟨rfl, hb1⟩
end Go.Proofs.Ytmmmolbejfdamaa
/- package change: Diff returns the names in which two books differ, in order. It writes nothing that was there. -/
namespace Go.Proofs.Ytmmmolbejfdamaa
set_option maxRecDepth 100000
open Go.RowKit

/-- What Diff leaves. -/
def DiffGives (T : List Bytes) (w : World) (e : Ending) (w' : World) : Prop := ∃ D d, e = .returned (.tuple #[.slice D T.length d, .int .i64 0]) ∧ Row w' D (scells T) ∧ Below w.heap.size w w'

set_option maxHeartbeats 800000 in
theorem changeDiff_yes (A B : Option Addr) (c d : Nat) (a b : List Ent) (w : World) (ha : Good a) (hb : Good b) (hA : Row w A (encells a)) (hB : Row w B (encells b)) :
    Calls Try.prog 8 #[.slice A a.length c, .slice B b.length d] w (DiffGives (differ a b) w) := by
  obtain ⟨hma, hea⟩ := small_of_good ha
  obtain ⟨hmb, heb⟩ := small_of_good hb
  have hC := fun (w : World) hA => Lib.hid (treeCheck A c a w hma hea hA _ ((fault_ok a).2 ha))
  have hD := fun (w : World) hB => Lib.hid (treeCheck B d b w hmb heb hB _ ((fault_ok b).2 hb))
  have hla := ha.len
  have hlb := hb.len
  have hM := fun (w : World) hA hB => Lib.hid (changeMissing A B c d a b w (by omega) (by omega) hA hB)
  have hN := fun (w : World) hB hA => Lib.hid (changeMissing B A d c b a w (by omega) (by omega) hB hA)
  have hl1 := missing_le a b
  have hl2 := missing_le b a
  have hnm : ∀ s ∈ missing a b ++ missing b a, Bin.name s = true := fun s hs => by
    rcases List.mem_append.1 hs with h | h
    · exact missing_name ha.name s h
    · exact missing_name hb.name s h
  have hS := fun (D : Option Addr) (e : Nat) (w : World) hA => Lib.hid (pathSort D e (missing a b ++ missing b a) w (by rw [List.length_append]; omega) (fun s hs => small_of_name (hnm s hs)) hA)
  have HD := Lib.hid (missing_differ ha.order hb.order)
  have HN := Lib.hid hnm
  clear hnm hma hea hmb heb ha hb
  generalize differ a b = T at *
  generalize missing a b = L at *
  generalize missing b a = M at *
  have hl3 : (L.length + M.length) * 16 ≤ 140737488355328 := by omega
  obtain ⟨J, HJ⟩ : ∃ J, Hid (L ++ M = J) := ⟨_, rfl⟩
  rw [HJ.out] at hS HD HN
  clear hla hlb hl1 hl2
  go_enter Try.func8, Try.ntmps8
  go_wp2_with fail
  refine (hC _ hA).out.mono ?_
  rintro e w1 ⟨rfl, hb1⟩
  go_wp2_with fail
  refine (hD _ (hB.below hb1)).out.mono ?_
  rintro e w2 ⟨rfl, hb2⟩
  have hb02 := below_chain hb1 hb2
  clear hC hD hb1 hb2
  go_wp2_with fail
  refine (hM _ (hA.below hb02) (hB.below hb02)).out.mono ?_
  rintro e w3 ⟨D3, d3, rfl, hown3, hb3⟩
  have hb03 := below_chain hb02 hb3
  go_wp2_with fail
  refine (hN _ (hB.below hb03) (hA.below hb03)).out.mono ?_
  rintro e w4 ⟨D4, d4, rfl, hown4, hb4⟩
  have hb04 := below_chain hb03 hb4
  have hown34 := (own_below hown3 hb4).mono hb02.size
  have hr4 := Row.own hown4
  have hs4 := hb04.size
  clear hM hN hb03 hb3 hb4 hown3 hown4 hb02
  go_wp2_with (first
    | (at_builtin; refine app_strs_any _ rfl _ _ rfl w.heap.size _ L rfl hown34 D4 d4 M rfl hr4 hl3 hs4 ?_; intro v5 w5 hown5 hgrow5; rw [HJ.out] at hown5; have hb5 : Below w.heap.size w w5 := hb04.grown hgrow5 hs4 (fun k hk => (hown34.lt k hk).1); obtain ⟨D5, d5, rfl⟩ := own_shape hown5; have hr5 := Row.own hown5; clear hown5 hgrow5 hb04 hown34 hr4))
  refine (hS _ _ _ hr5).out.mono ?_
  rintro e w6 (⟨_, D6, d6, rfl, hr6, hb6⟩ | ⟨⟨s, hs, hx⟩, _⟩)
  · have hb06 := below_chain hb5 hb6
    rw [HD.out] at hr6 ⊢
    clear hS HD HN hr5
    go_wp2
    go_ret2
    exact ⟨D6, d6, rfl, hr6, hb06⟩
  · rw [HN.out s hs] at hx
    cases hx
end Go.Proofs.Ytmmmolbejfdamaa
