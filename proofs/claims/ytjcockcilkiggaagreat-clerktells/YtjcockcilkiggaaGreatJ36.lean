/- package tree: Set returns the book with a name set, Drop the book without a name. They write nothing that was there. -/
import Derived.Test.YtjcockcilkiggaaGreatJ23
import Derived.Test.YtjcockcilkiggaaGreatJ25
import Derived.Deep.Onto
import Derived.Test.YtjcockcilkiggaaGreatJ07
import Derived.Test.YtjcockcilkiggaaGreatJ31
import Derived.Maps.AppendAt
namespace Go.Proofs.YtjcockcilkiggaaGreat
open Go.RowKit

/-- The first error of Set, and of Drop. -/
def setErr (es : List Ent) (n v : Bytes) : Int := if askErr es n = 0 then (if 20 < v.length then 2 else if there n es = false ∧ es.length = 24 then 7 else 0) else askErr es n
def dropErr (es : List Ent) (n : Bytes) : Int := if askErr es n = 0 then (if there n es = true then 0 else 5) else askErr es n
theorem setErr_ok (es : List Ent) (n v : Bytes) : setErr es n v = 0 ↔ Good es ∧ Bin.name n = true ∧ v.length ≤ 20 ∧ (there n es = true ∨ es.length < 24) := by
  unfold setErr
  by_cases h : askErr es n = 0
  · rw [if_pos h]
    obtain ⟨h1, h2⟩ := (askErr_ok es n).1 h
    have hl := h1.len
    by_cases h3 : 20 < v.length
    · rw [if_pos h3]
      exact ⟨fun h => by simp at h, fun h => by have := h.2.2.1; omega⟩
    · rw [if_neg h3]
      by_cases h4 : there n es = false ∧ es.length = 24
      · rw [if_pos h4]
        refine ⟨fun h => by simp at h, fun h => ?_⟩
        rcases h.2.2.2 with h5 | h5
        · rw [h4.1] at h5; cases h5
        · omega
      · rw [if_neg h4]
        refine ⟨fun _ => ⟨h1, h2, by omega, ?_⟩, fun _ => rfl⟩
        cases ht : there n es with
        | true => exact .inl rfl
        | false => exact .inr (by have : es.length ≠ 24 := fun e => h4 ⟨ht, e⟩; omega)
  · rw [if_neg h]
    exact ⟨fun k => absurd k h, fun k => absurd ((askErr_ok es n).2 ⟨k.1, k.2.1⟩) h⟩
theorem dropErr_ok (es : List Ent) (n : Bytes) : dropErr es n = 0 ↔ Good es ∧ Bin.name n = true ∧ there n es = true := by
  unfold dropErr
  by_cases h : askErr es n = 0
  · rw [if_pos h]
    obtain ⟨h1, h2⟩ := (askErr_ok es n).1 h
    cases ht : there n es <;> simp [h1, h2]
  · rw [if_neg h]
    exact ⟨fun k => absurd k h, fun k => absurd ((askErr_ok es n).2 ⟨k.1, k.2.1⟩) h⟩

set_option maxRecDepth 100000 in
set_option maxHeartbeats 800000 in
theorem treeSet_no (A : Option Addr) (c : Nat) (es : List Ent) (n v : Bytes) (w : World) (hm : es.length ≤ maxLen) (hes : ∀ x ∈ es, x.1.length ≤ maxLen ∧ x.2.length ≤ maxLen) (hn : n.length ≤ maxLen) (hv : v.length ≤ maxLen) (hA : Row w A (encells es)) (r : Int) (hr : setErr es n v = r) (h0 : r ≠ 0) :
    Calls Tryz.prog 70 #[.slice A es.length c, .string (S n), .string (S v)] w fun e w' => e = .returned (.tuple #[.slice none 0 0, .int .i64 r]) ∧ Below w.heap.size w w' := by
  have hC := fun (w : World) hA => Lib.hid (treeCheck A c es w hm hes hA _ rfl)
  have hN := fun w => Lib.hid (pathName n w hn _ rfl)
  unfold maxLen at hv
  by_cases hf : fault es = 0
  · cases hnm : Bin.name n with
    | false =>
      rw [setErr, askErr, if_pos hf, hnm, if_neg (by simp), if_neg (by simp)] at hr
      rw [hf] at hC
      rw [hnm] at hN
      subst hr
      clear hf hnm h0 hm hes hn
      go_enter Tryz.func70, Tryz.ntmps70
      go_wp2_with fail
      refine (hC _ hA).out.mono ?_
      rintro e w1 ⟨rfl, hb1⟩
      go_wp2_with fail
      refine (hN _).out.mono ?_
      rintro e w2 ⟨rfl, rfl⟩
      go_wp2
      go_ret2
      exact ⟨rfl, hb1⟩
    | true =>
      have hg := (fault_ok es).1 hf
      have hF := fun (w : World) hA => Lib.hid (treeFind A c es n w (by have := hg.len; omega) hg.name hnm hA _ _ rfl rfl)
      rw [setErr, askErr, if_pos hf, hnm, if_pos rfl, if_pos rfl] at hr
      rw [hf] at hC
      rw [hnm] at hN
      by_cases h20 : 20 < v.length
      · rw [if_pos h20] at hr
        subst hr
        have c2 : decide ((20 : Int) < (v.length : Int)) = true := decide_eq_true (by omega)
        clear hf hnm h0 hm hes hn hF hg h20
        go_enter Tryz.func70, Tryz.ntmps70
        go_wp2_with fail
        refine (hC _ hA).out.mono ?_
        rintro e w1 ⟨rfl, hb1⟩
        go_wp2_with fail
        refine (hN _).out.mono ?_
        rintro e w2 ⟨rfl, rfl⟩
        go_wp2
        go_ret2
        exact ⟨rfl, hb1⟩
      · rw [if_neg h20] at hr
        by_cases h4 : there n es = false ∧ es.length = 24
        · rw [if_pos h4] at hr
          subst hr
          have c2 : decide ((20 : Int) < (v.length : Int)) = false := decide_eq_false (by omega)
          have hp := place_le n es
          rw [h4.1] at hF
          rw [h4.2] at hF hC hp ⊢
          generalize place n es = p at *
          have hi0 : (0 : Int) ≤ (p : Int) := by omega
          have hi1 : (p : Int) ≤ 24 := by omega
          clear hf hnm h0 hm hes hn hg h20 h4
          go_enter Tryz.func70, Tryz.ntmps70
          go_wp2_with fail
          refine (hC _ hA).out.mono ?_
          rintro e w1 ⟨rfl, hb1⟩
          go_wp2_with fail
          refine (hN _).out.mono ?_
          rintro e w2 ⟨rfl, rfl⟩
          go_wp2_with fail
          refine (hF _ (hA.below hb1)).out.mono ?_
          rintro e w3 ⟨rfl, hb3⟩
          have hb := below_chain hb1 hb3
          clear hC hN hF hA
          go_wp2
          all_goals
            go_ret2
            exact ⟨rfl, hb⟩
        · rw [if_neg h4] at hr
          exact absurd hr.symm h0
  · rw [setErr, askErr, if_neg hf, if_neg hf] at hr
    rw [hr] at hC
    have c1 : (r == 0) = false := beq_eq_false_iff_ne.2 h0
    clear hf h0 hm hes hn hN hr
    go_enter Tryz.func70, Tryz.ntmps70
    go_wp2_with fail
    refine (hC _ hA).out.mono ?_
    rintro e w1 ⟨rfl, hb1⟩
    go_wp2
    go_ret2
    exact ⟨rfl, hb1⟩

/-- What Set and Drop leave: a book of their own. -/
def BookGives (T : List Ent) (w : World) (e : Ending) (w' : World) : Prop :=
  ∃ D d, e = .returned (.tuple #[.slice D T.length d, .int .i64 0]) ∧ w'.ownsRow w.heap.size 51 2 (.slice D T.length d) T.length (encells T) ∧ Below w.heap.size w w'

theorem own_capE {w : World} {b : Nat} {e : TypeId} {s n m c : Nat} {A : Option Addr} {xs : List Value} (h : w.ownsRow b e s (.slice A m c) n xs) : n ≤ c := by
  rcases h.2 with ⟨e1, h0⟩ | ⟨g, cap, cur, e1, _, _, hn, _⟩
  · injection e1 with e1 e2 e3
    omega
  · injection e1 with e1 e2 e3
    omega
/-- The same, and what lies behind the book. -/
def BookGivesS (T : List Ent) (w : World) (e : Ending) (w' : World) : Prop :=
  ∃ D d, e = .returned (.tuple #[.slice D T.length d, .int .i64 0]) ∧ ownsS w' w.heap.size (.slice D T.length d) T ∧ Below w.heap.size w w'
theorem BookGivesS.book {T : List Ent} {w : World} {e : Ending} {w' : World} (h : BookGivesS T w e w') : BookGives T w e w' := by
  obtain ⟨D, d, h1, h2, h3⟩ := h
  exact ⟨D, d, h1, h2.row, h3⟩
theorem bookGives_of (T : List Ent) (w w4 w' : World) (D : Option Addr) (d : Nat) (hown : ownsS w' w4.heap.size (.slice D T.length d) T) (hb4 : Below w.heap.size w w4) (hb : Below w4.heap.size w4 w') :
    BookGivesS T w (.returned (.tuple #[.slice D T.length d, .int .i64 0])) w' := ⟨D, d, rfl, hown.mono hb4.size, below_chain hb4 hb⟩

set_option maxRecDepth 100000 in
set_option maxHeartbeats 800000 in
theorem treeSet_yesS (A : Option Addr) (c : Nat) (es : List Ent) (n v : Bytes) (w : World) (hc : es.length ≤ c) (hA : Row w A (encells es)) (h : setErr es n v = 0) :
    Calls Tryz.prog 70 #[.slice A es.length c, .string (S n), .string (S v)] w (BookGivesS (setTo n v es) w) := by
  obtain ⟨hg, hn, hv, hth⟩ := (setErr_ok es n v).1 h
  obtain ⟨hm, hes⟩ := small_of_good hg
  have hC := fun (w : World) hA => Lib.hid (treeCheck A c es w hm hes hA _ ((fault_ok es).2 hg))
  have hN := fun w => Lib.hid (pathName n w (small_of_name hn) _ hn)
  have hF := fun (w : World) hA => Lib.hid (treeFind A c es n w (by have := hg.len; omega) hg.name hn hA _ _ rfl rfl)
  have HT := Lib.hid (setTo_at n v es hg.order)
  have c2 : decide ((20 : Int) < (v.length : Int)) = false := decide_eq_false (by omega)
  have hl := hg.len
  have hp := place_le n es
  generalize setTo n v es = T at *
  cases ht : there n es with
  | true =>
    rw [ht] at hF HT
    rw [if_pos rfl] at HT
    obtain ⟨hlt, -⟩ := there_get n es hg.order ht
    generalize place n es = p at *
    have hi0 : (0 : Int) ≤ (p : Int) := by omega
    have hi1 : (p : Int) ≤ (es.length : Int) := by omega
    have hi2 : (p : Int) + 1 ≤ (es.length : Int) := by omega
    have hi3 : (0 : Int) ≤ (p : Int) + 1 := by omega
    clear hg hn hm hes hth ht h hv
    go_enter Tryz.func70, Tryz.ntmps70
    go_wp2_with fail
    refine (hC _ hA).out.mono ?_
    rintro e w1 ⟨rfl, hb1⟩
    go_wp2_with fail
    refine (hN _).out.mono ?_
    rintro e w2 ⟨rfl, rfl⟩
    go_wp2_with fail
    refine (hF _ (hA.below hb1)).out.mono ?_
    rintro e w3 ⟨rfl, hb3⟩
    have hb := below_chain hb1 hb3
    clear hC hN hF
    go_wp2_with fail
    all_goals
      refine (concatE3' (w3.alloc _) _ _ (by simp) _ _ _ _ _ _ (es.take p) [(n, v)] (es.drop (p + 1)) p 1 (es.length - (p + 1)) (by rw [List.length_take]; omega) rfl List.length_drop (by omega) (((hA.below hb).takeE p).alloc _) (Row.new w3 _ _ (encells [(n, v)]) _ rfl rfl)
        (by first | exact ((hA.below hb).dropE (p + 1)).alloc _ | (rw [List.drop_eq_nil_of_le (by omega)]; exact Row.nil_ _ _))).mono ?_
      rintro e w4 hJ
      rw [← HT.out] at hJ
      obtain ⟨D, d, rfl, hown, hb4⟩ := hJ
      go_wp2
      go_ret2
      exact bookGives_of T w _ w4 D d hown (balloc (balloc hb _) _) hb4
  | false =>
    rw [ht] at hF HT
    rw [if_neg (by simp), Nat.add_zero] at HT
    have hlt : es.length < 24 := by
      rcases hth with hth | hth
      · rw [ht] at hth; cases hth
      · exact hth
    generalize place n es = p at *
    have hi0 : (0 : Int) ≤ (p : Int) := by omega
    have hi1 : (p : Int) ≤ (es.length : Int) := by omega
    have c3 : ((es.length : Int) == 24) = false := beq_eq_false_iff_ne.2 (by omega)
    clear hg hn hm hes hth ht h hv
    go_enter Tryz.func70, Tryz.ntmps70
    go_wp2_with fail
    refine (hC _ hA).out.mono ?_
    rintro e w1 ⟨rfl, hb1⟩
    go_wp2_with fail
    refine (hN _).out.mono ?_
    rintro e w2 ⟨rfl, rfl⟩
    go_wp2_with fail
    refine (hF _ (hA.below hb1)).out.mono ?_
    rintro e w3 ⟨rfl, hb3⟩
    have hb := below_chain hb1 hb3
    clear hC hN hF
    go_wp2_with fail
    all_goals
      refine (concatE3' (w3.alloc _) _ _ (by simp) _ _ _ _ _ _ (es.take p) [(n, v)] (es.drop p) p 1 (es.length - p) (by rw [List.length_take]; omega) rfl List.length_drop (by omega) (((hA.below hb).takeE p).alloc _) (Row.new w3 _ _ (encells [(n, v)]) _ rfl rfl)
        (by first | exact ((hA.below hb).dropE p).alloc _ | (rw [List.drop_eq_nil_of_le (by omega)]; exact Row.nil_ _ _))).mono ?_
      rintro e w4 hJ
      rw [← HT.out] at hJ
      obtain ⟨D, d, rfl, hown, hb4⟩ := hJ
      go_wp2
      go_ret2
      exact bookGives_of T w _ w4 D d hown (balloc (balloc hb _) _) hb4
theorem treeSet_yes (A : Option Addr) (c : Nat) (es : List Ent) (n v : Bytes) (w : World) (hc : es.length ≤ c) (hA : Row w A (encells es)) (h : setErr es n v = 0) :
    Calls Tryz.prog 70 #[.slice A es.length c, .string (S n), .string (S v)] w (BookGives (setTo n v es) w) := (treeSet_yesS A c es n v w hc hA h).mono fun _ _ k => k.book
end Go.Proofs.YtjcockcilkiggaaGreat
/- tree.Get and tree.Set, whatever they are given. They write nothing that was there. -/
namespace Go.Proofs.YtjcockcilkiggaaGreat
set_option maxRecDepth 100000
open Go.RowKit

def getAns (es : List Ent) (n : Bytes) : Bytes × Bool × Int := if askErr es n = 0 then ((stands es n).getD [], (stands es n).isSome, 0) else ([], false, askErr es n)
theorem set_good {es : List Ent} {n v : Bytes} (h : setErr es n v = 0) : Good es ∧ Good (setTo n v es) ∧ Bin.name n = true ∧ v.length ≤ 20 := by
  obtain ⟨hg, hn, hv, ht⟩ := (setErr_ok es n v).1 h
  refine ⟨hg, setTo_good n v es hg hn hv ?_, hn, hv⟩
  rw [← there_stands n es hg.order]
  exact ht

/-- What Set returns: the book, or nothing with an error. -/
def setRes (es : List Ent) (n v : Bytes) : List Ent := if setErr es n v = 0 then setTo n v es else []
def SetRes (T : List Ent) (r : Int) (w : World) (e : Ending) (w' : World) : Prop :=
  ∃ D d, e = .returned (.tuple #[.slice D T.length d, .int .i64 r]) ∧ T.length ≤ d ∧ Row w' D (encells T) ∧ Below w.heap.size w w'
theorem treeSet_any (A : Option Addr) (c : Nat) (es : List Ent) (n v : Bytes) (w : World) (hm : es.length ≤ maxLen) (hes : ∀ x ∈ es, x.1.length ≤ maxLen ∧ x.2.length ≤ maxLen) (hn : n.length ≤ maxLen) (hv : v.length ≤ maxLen) (hc : es.length ≤ c) (hA : Row w A (encells es)) :
    Calls Tryz.prog 70 #[.slice A es.length c, .string (S n), .string (S v)] w (SetRes (setRes es n v) (setErr es n v) w) := by
  by_cases h0 : setErr es n v = 0
  · rw [setRes, if_pos h0, h0]
    refine (treeSet_yes A c es n v w hc hA h0).mono ?_
    rintro e w' ⟨D, d, rfl, hown, hb⟩
    exact ⟨D, d, rfl, own_capE hown, Row.ownE hown, hb⟩
  · rw [setRes, if_neg h0]
    refine (treeSet_no A c es n v w hm hes hn hv hA _ rfl h0).mono ?_
    rintro e w' ⟨rfl, hb⟩
    exact ⟨none, 0, rfl, Nat.le_refl _, Row.nil_ _ _, hb⟩
theorem setT_good {es : List Ent} {n v : Bytes} (h : setErr es n v = 0) : Good (setTo n v es) := by
  obtain ⟨hg, hn, hv, ht⟩ := (setErr_ok es n v).1 h
  refine setTo_good n v es hg hn hv ?_
  rw [← there_stands n es hg.order]
  exact ht
theorem setRes_small (es : List Ent) (n v : Bytes) : (setRes es n v).length ≤ maxLen ∧ ∀ x ∈ setRes es n v, x.1.length ≤ maxLen ∧ x.2.length ≤ maxLen := by
  by_cases h0 : setErr es n v = 0
  · rw [setRes, if_pos h0]
    exact small_of_good (setT_good h0)
  · rw [setRes, if_neg h0]
    exact ⟨by simp, fun x hx => by simp at hx⟩

end Go.Proofs.YtjcockcilkiggaaGreat
/- Package clerk: after sets requests one after the other in a copy of a book; append onto rows of books, and where the new row lies. It writes nothing that was there. -/
namespace Go.Proofs.YtjcockcilkiggaaGreat
set_option maxRecDepth 100000
open Go.RowKit

/-- append onto a row of books, and where the new row lies. -/
theorem run_appBat (w : World) (ty : TypeId) (base : Nat) (v : Value) (l : List Bp) (hown : w.ownsRow base 39 1 v l.length (bkcells l))
    (B : Option Addr) (c : Nat) (r : List Bp) (hr : 0 < r.length) (hB : Row w B (bkcells r)) (hsmall : (l.length + r.length) * 24 ≤ 140737488355328) (hbase : base ≤ w.heap.size) :
    ∃ v' w', (Builtin.append_ #[26, 26] ty #[v, .slice B r.length c]).run Tryz.prog w = .ok v' w' ∧ w'.ownsRow base 39 1 v' (l ++ r).length (bkcells (l ++ r)) ∧ w.grownBy w' v.ownBlock ∧ (v'.ownBlock = v.ownBlock ∨ v'.ownBlock = some w.heap.size) := by
  obtain ⟨i0, hi, hz0, hz1, hz2⟩ := bk_info
  obtain ⟨gb, off, rfl, hc⟩ := hB (by rw [bkcells_length]; omega)
  have hnews : ∀ j u, (bkcells r)[j]? = some u → w.cell? ((⟨gb, off, none⟩ : Addr).add j) = some u := fun j u hu => by
    obtain ⟨hj, rfl⟩ := List.getElem?_eq_some_iff.1 hu
    rw [Go.WideShapes.add_plain]
    exact hc j hj
  obtain ⟨v', w', h1, h2, h3, _, h5⟩ := run_append_own_at (P := Tryz.prog) w base 26 ty 39 i0 (.slice none 0 0) 1 24 Tryz.underlying26 hi hz0 hz1 hz2 rfl (by decide) v l.length (bkcells l) hown ⟨gb, off, none⟩ r.length c (bkcells r) (by rw [bkcells_length, Nat.mul_one]) hnews (bkcells_one r) (by unfold maxLen; omega) hsmall hbase
  exact ⟨v', w', h1, by rw [List.length_append, bkcells_append]; exact h2, h3, h5⟩
/-- .. as one step of a region that draws. -/
theorem step_app_booksAt {ops : Array Oper} {o : Oper} {a : Act} {w : World} {K : Act → World → Prop} {Q : Exit → Act → World → Prop} {E : Prop} (hgd : o.guard = none) (s x : Operand)
    (ho : o.op = .call { callee := .builtin .append, args := #[s, x], argTypes := #[26, 26] })
    (base : Nat) (v : Value) (l : List Bp) (hs : a.eval s = v) (hown : w.ownsRow base 39 1 v l.length (bkcells l))
    (B : Option Addr) (c : Nat) (r : List Bp) (hr : 0 < r.length) (hx : a.eval x = .slice B r.length c) (hB : Row w B (bkcells r)) (hsmall : (l.length + r.length) * 24 ≤ 140737488355328) (hbase : base ≤ w.heap.size)
    (h : ∀ v' w', w'.ownsRow base 39 1 v' (l ++ r).length (bkcells (l ++ r)) → w.grownBy w' v.ownBlock → (v'.ownBlock = v.ownBlock ∨ v'.ownBlock = some w.heap.size) → K (a.put o.dst v') w') :
    if Region.wanted o (yielded ops a.tmps) = true then Oper.wp Tryz.prog o a w K Q else E := by
  have hw : Region.wanted o (yielded ops a.tmps) = true := by simp [Region.wanted, hgd]
  rw [if_pos hw]
  obtain ⟨v', w', hrun, h1, h2, h3⟩ := run_appBat w o.type base v l hown B c r hr hB hsmall hbase
  unfold Oper.wp
  simp [execOp, ho, resolve, invoke, builtin, hs, hx, hrun, Result.andThen]
  exact h v' w' h1 h2 h3
theorem setAll_step {bk : List Ent} {l : List Ak} (hg : Good bk) (hl : ∀ x ∈ l, askFault x.1 x.2.1 = 0) (hN : (Bin.srt (bk.map (·.1) ++ l.map (·.1))).length ≤ 24) {k : Nat} (hk : k < l.length) :
    setErr (setAll bk (l.take k)) l[k].1 l[k].2.1 = 0 ∧ setTo l[k].1 l[k].2.1 (setAll bk (l.take k)) = setAll bk (l.take (k + 1)) := by
  have e : setTo l[k].1 l[k].2.1 (setAll bk (l.take k)) = setAll bk (l.take (k + 1)) := by rw [List.take_succ_eq_append_getElem hk, setAll_snoc]
  have good : ∀ j, Good (setAll bk (l.take j)) := fun j => setAll_good hg (fun x hx => hl x (List.mem_of_mem_take hx)) (Nat.le_trans (srt_sub fun x hx => by
    rcases List.mem_append.1 hx with h | h
    · exact List.mem_append_left _ h
    · obtain ⟨y, hy, rfl⟩ := List.mem_map.1 h
      exact List.mem_append_right _ (List.mem_map_of_mem (List.mem_of_mem_take hy))) hN)
  obtain ⟨h1, h2⟩ := (askFault_ok _ _).1 (hl _ (List.getElem_mem hk))
  refine ⟨(setErr_ok _ _ _).2 ⟨good k, h1, h2, ?_⟩, e⟩
  rw [there_stands _ _ (good k).order]
  cases hs : (stands (setAll bk (l.take k)) l[k].1).isSome with
  | true => exact .inl rfl
  | false =>
    have := setTo_length l[k].1 l[k].2.1 _ (good k).order
    rw [hs, if_neg (by simp), e] at this
    have h24 := (good (k + 1)).len
    exact .inr (by omega)
set_option maxHeartbeats 4000000 in
theorem clerkAfter (A Q : Option Addr) (c d : Nat) (bk : List Ent) (l : List Ak) (w : World) (hg : Good bk) (hl : ∀ x ∈ l, askFault x.1 x.2.1 = 0) (hl30 : l.length ≤ 1000) (hN : (Bin.srt (bk.map (·.1) ++ l.map (·.1))).length ≤ 24)
    (hA : Row w A (encells bk)) (hQ : Row w Q (qcells l)) (T : List Ent) (hT : setAll bk l = T) :
    Calls Tryz.prog 51 #[.slice A bk.length c, .slice Q l.length d] w (BookGives T w) := by
  have hCl := fun (w : World) h => Lib.hid (cloneEntsS A c bk w (by have := hg.len; omega) h)
  have HG := Lib.hid hg
  have HL := Lib.hid hl
  have HN := Lib.hid hN
  have HT := Lib.hid hT
  clear hg hl hN hT
  go_enter Tryz.func51, Tryz.ntmps51
  go_wp2_with fail
  refine (hCl _ hA).out.mono ?_
  rintro xx w1 ⟨D0, d0, rfl, hown0', hb1⟩
  have hown0 := hown0'.row
  clear hown0' hCl
  go_wp2
  go_loopw [0, 14] (fun v i wr => ∃ (k : Nat) (X : List Ent) (D : Option Addr) (d1 : Nat), k ≤ l.length ∧ i = .int .i64 k ∧ Hid (setAll bk (l.take k) = X) ∧ v = .slice D X.length d1 ∧ wr.ownsRow w.heap.size 51 2 (.slice D X.length d1) X.length (encells X) ∧ Below w.heap.size w wr) (fun _ i _ => l.length - (intOf i).toNat)
  case atStart => exact ⟨0, bk, D0, d0, Nat.zero_le _, rfl, rfl, rfl, hown0, hb1⟩
  case round =>
    obtain ⟨k, X, D, d1, hk, rfl, HK, rfl, hown, hbl⟩ := hrel
    clear hown0 hb1
    by_cases hlt : k < l.length
    · obtain ⟨g, off, rfl, j0, j1, j2, j3⟩ := (hQ.below hbl).ask k hlt
      obtain ⟨hs1, hs2⟩ := setAll_step HG.out HL.out HN.out hlt
      rw [HK.out] at hs1 hs2
      have i0 : (0 : Int) ≤ (k : Int) := by omega
      have i1 : (k : Int) < (l.length : Int) := by omega
      generalize l[k].1 = na at *
      generalize l[k].2.1 = va at *
      generalize l[k].2.2.1 = nu at *
      generalize l[k].2.2.2 = tg at *
      have x0 := Bx.new wr _ rfl _ [.string (S na), .string (S va), .int .u64 (nu : Int), .int .u64 (tg : Int)] 31 rfl
      have hb2 := balloc hbl (.cells #[.string (S na), .string (S va), .int .u64 (nu : Int), .int .u64 (tg : Int)] 31)
      have hown2 := hown.alloc (.cells #[.string (S na), .string (S va), .int .u64 (nu : Int), .int .u64 (tg : Int)] 31)
      have hSet := fun (w : World) h => Lib.hid (treeSet_yesS D d1 X na va w (own_capE hown) h hs1)
      rw [hs2] at hSet
      have HK2 : Hid (setAll bk (l.take (k + 1)) = setAll bk (l.take (k + 1))) := rfl
      generalize hX2 : setAll bk (l.take (k + 1)) = X2 at hSet
      have HX2 : Hid (setAll bk (l.take (k + 1)) = X2) := hX2
      obtain ⟨⟨b0, b1, b2, b3⟩, _⟩ := x0.get4
      clear hs1 hs2 hX2 HK HK2 x0
      go_wp2_with fail
      refine (hSet _ (Row.ownN hown2)).out.mono ?_
      rintro xx w3 ⟨D3, d3, rfl, hown3', hb3⟩
      have hown3 := own_baseQ hown3'.row hb2.size
      have hb03 := below_chain hb2 hb3
      clear hown3' hSet b0 b1 b2 b3
      go_wp2
      go_roundw
      case rel => exact ⟨k + 1, X2, D3, d3, by omega, by go_num, HX2, rfl, hown3, hb03⟩
      case measure => simp [intOf]; omega
    · have hX : X = T := by rw [← HK.out, List.take_of_length_le (by omega)]; exact HT.out
      subst hX
      clear HK HT
      go_wp2
      go_ret2
      exact ⟨D, d1, rfl, hown, hbl⟩
end Go.Proofs.YtjcockcilkiggaaGreat
