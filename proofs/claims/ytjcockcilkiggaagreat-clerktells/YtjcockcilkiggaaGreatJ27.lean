/- package tree: strings.HasPrefix returns whether a string begins with another; under returns the entries whose paths begin with a prefix, and these paths; zeros returns how many paths have 0 at a byte. They write nothing that was there. -/
import Derived.Test.YtjcockcilkiggaaGreatJ23
import Derived.Test.YtjcockcilkiggaaGreatJ06
import Derived.Test.YtjcockcilkiggaaGreatJ26
namespace Go.Proofs.YtjcockcilkiggaaGreat
open Go.RowKit

set_option maxHeartbeats 400000 in
theorem hasPrefix0 (s q : Bytes) (w : World) (_ : s.length ≤ 1000) (hq : q.length ≤ 1000) (b : Bool) (hb : begins q s = b) :
    Calls Tryz.prog 94 #[.string (S s), .string (S q)] w fun e w' => e = .returned (.bool b) ∧ w = w' := by
  unfold begins at hb
  by_cases h : q.length ≤ s.length
  · have c1 : decide ((q.length : Int) ≤ (s.length : Int)) = true := decide_eq_true (by omega)
    have h0 : (0 : Int) ≤ (q.length : Int) := by omega
    have h1 : (q.length : Int) ≤ (s.length : Int) := by omega
    have HB := Lib.hid hb
    clear hb
    go_enter Tryz.func94, Tryz.ntmps94
    go_wp2
    go_ret
    exact ⟨by rw [← HB.out]; rfl, rfl⟩
  · have c1 : decide ((q.length : Int) ≤ (s.length : Int)) = false := decide_eq_false (by omega)
    obtain rfl : b = false := by
      rw [← hb, beq_eq_false_iff_ne]
      intro e
      have := congrArg List.length e
      rw [List.length_take] at this
      omega
    clear hb
    go_enter Tryz.func94, Tryz.ntmps94
    go_wp2
    go_ret
    exact ⟨rfl, rfl⟩

set_option maxHeartbeats 400000 in
theorem hasPrefix (s q : Bytes) (w : World) (hs : s.length ≤ 1000) (hq : q.length ≤ 1000) (b : Bool) (hb : begins q s = b) :
    Calls Tryz.prog 81 #[.string (S s), .string (S q)] w fun e w' => e = .returned (.bool b) ∧ w = w' := by
  have h1 := fun w => Lib.hid (hasPrefix0 s q w hs hq b hb)
  clear hb hs hq
  go_enter Tryz.func81, Tryz.ntmps81
  go_wp2_with fail
  refine (h1 _).out.mono ?_
  rintro e w1 ⟨rfl, rfl⟩
  go_wp2
  go_ret
  exact ⟨rfl, rfl⟩

/-- Rows of different kinds of elements lie in different blocks. -/
theorem own_apart {w : World} {b b' : Nat} {e e' : TypeId} {s s' n n' : Nat} {v v' : Value} {xs xs' : List Value} (h : w.ownsRow b e s v n xs) (h' : w.ownsRow b' e' s' v' n' xs') (hne : e ≠ e') : v.ownBlock = none ∨ v.ownBlock ≠ v'.ownBlock := by
  rcases h.2 with ⟨rfl, _⟩ | ⟨g, cap, cur, rfl, _, hg, _⟩
  · exact .inl rfl
  · rcases h'.2 with ⟨rfl, _⟩ | ⟨g', cap', cur', rfl, _, hg', _⟩
    · exact .inr (by simp [Value.ownBlock])
    · refine .inr fun k => ?_
      have k : g = g' := by simpa [Value.ownBlock] using k
      subst k
      rw [hg] at hg'
      injection hg' with hg'
      injection hg' with _ hg'
      exact hne hg'

/-- What under leaves: two rows of its own. -/
def UndGives (L : List Ent) (w : World) (e : Ending) (w' : World) : Prop :=
  ∃ A c B d, e = .returned (.tuple #[.slice A L.length c, .slice B L.length d]) ∧ L.length ≤ c ∧ L.length ≤ d ∧ Row w' A (encells L) ∧ Row w' B (scells (pths L)) ∧ Below w.heap.size w w'

theorem own_capU {w : World} {b : Nat} {e : TypeId} {s n m c : Nat} {A : Option Addr} {xs : List Value} (h : w.ownsRow b e s (.slice A m c) n xs) : n ≤ c ∧ n = m := by
  rcases h.2 with ⟨e1, h0⟩ | ⟨g, cap, cur, e1, _, _, hn, _⟩
  · injection e1 with e1 e2 e3
    omega
  · injection e1 with e1 e2 e3
    omega

set_option maxRecDepth 100000 in
set_option maxHeartbeats 1000000 in
theorem treeUnder (A : Option Addr) (c : Nat) (es : List Ent) (q : Bytes) (w : World) (hm : es.length ≤ 1000) (hes : ∀ x ∈ es, Bin.name x.1 = true) (hq : q.length ≤ 1000) (hA : Row w A (encells es)) :
    Calls Tryz.prog 67 #[.slice A es.length c, .string (S q)] w (UndGives (und q es) w) := by
  have HE := Lib.hid hes
  clear hes
  go_enter Tryz.func67, Tryz.ntmps67
  go_wp2
  go_loopw [6, 7, 13] (fun v6 v7 i wr => ∃ (k : Nat) (L : List Ent), k ≤ es.length ∧ i = .int .i64 k ∧ Hid (L = und q (es.take k)) ∧ L.length ≤ k ∧ wr.ownsRow w.heap.size 51 2 v6 L.length (encells L) ∧ wr.ownsRow w.heap.size 9 1 v7 (pths L).length (scells (pths L)) ∧ Below w.heap.size w wr) (fun _ _ i _ => es.length - (intOf i).toNat)
  case atStart => exact ⟨0, [], Nat.zero_le _, rfl, rfl, by simp, World.ownsRow_nil _ _ _ _, World.ownsRow_nil _ _ _ _, Below.refl _ _⟩
  case round =>
    obtain ⟨k, L, hk, rfl, HL, hLl, h6, h7, hbl⟩ := hrel
    have hsz := hbl.size
    by_cases hlt : k < es.length
    · obtain ⟨g, off, rfl, h1, h2⟩ := (hA.below hbl).ent k hlt
      have hi0 : (0 : Int) ≤ (k : Int) := by omega
      have hi1 : (k : Int) < (es.length : Int) := by omega
      have hp := fun w => Lib.hid (treePath es[k].1 w (HE.out _ (List.getElem_mem hlt)))
      have hof := Bin.of_length es[k].1
      have hh := fun w => Lib.hid (hasPrefix (Bin.of es[k].1) q w (by omega) hq _ rfl)
      have HL' : Hid (und q (es.take (k + 1)) = L ++ if begins q (Bin.of es[k].1) = true then [es[k]] else []) := by
        show und q _ = _
        rw [List.take_succ_eq_append_getElem hlt, und_snoc, ← HL.out]
      have HP : Hid (pths (L ++ [es[k]]) = pths L ++ [Bin.of es[k].1]) := pths_snoc _ _
      have hpl := pths_length L
      cases hbg : begins q (Bin.of es[k].1) with
      | false =>
        rw [hbg] at hh HL'
        rw [if_neg (by simp), List.append_nil] at HL'
        clear hbg HL hA
        generalize Bin.of es[k].1 = pa at *
        generalize es[k].1 = a at *
        generalize es[k].2 = b at *
        go_wp2_with fail
        refine (hp _).out.mono ?_
        rintro e w1 ⟨rfl, hb1⟩
        go_wp2_with fail
        refine (hh _).out.mono ?_
        rintro e w2 ⟨rfl, rfl⟩
        have hb0 : Below wr.heap.size wr w1 := below_chain ((Below.refl _ _).alloc (Nat.le_refl _) _) hb1
        go_wp2
        go_roundw
        case rel => exact ⟨k + 1, L, by omega, by go_num, HL'.out.symm, by omega, own_belowE h6 hb0, own_below h7 hb0, below_chain hbl hb0⟩
        case measure => simp [intOf]; omega
      | true =>
        rw [hbg] at hh HL'
        rw [if_pos rfl] at HL'
        have HX : Hid ([es[k]] = [(es[k].1, es[k].2)]) := rfl
        rw [HX.out] at HL'
        have HP' : Hid (pths (L ++ [(es[k].1, es[k].2)]) = pths L ++ [Bin.of es[k].1]) := HP.out
        clear hbg HL hA HX HP
        generalize Bin.of es[k].1 = pa at *
        generalize es[k].1 = a at *
        generalize es[k].2 = b at *
        go_wp2_with fail
        refine (hp _).out.mono ?_
        rintro e w1 ⟨rfl, hb1⟩
        have k1 : w1.cell? ⟨wr.heap.size, 0, none⟩ = some (.string (S a)) := kept (by rw [World.cell?_alloc_new]; rfl) hb1
        have k2 : w1.cell? ⟨wr.heap.size, 1, none⟩ = some (.string (S b)) := kept (by rw [World.cell?_alloc_new]; rfl) hb1
        have hb0 : Below wr.heap.size wr w1 := below_chain ((Below.refl _ _).alloc (Nat.le_refl _) _) hb1
        have g6 := own_belowE h6 hb0
        have g7 := own_below h7 hb0
        have hb2 := below_chain hbl hb0
        have hsz2 := hb2.size
        go_wp2_with fail
        refine (hh _).out.mono ?_
        rintro e w2 ⟨rfl, rfl⟩
        clear hp hh h1 h2 h6 h7 hb1 hbl hb0 hsz
        go_wp2_with (first
          | (at_builtin; refine app_ents _ rfl _ _ rfl w.heap.size _ L rfl (g6.alloc _) ⟨w1.heap.size, 0, none⟩ 1 [(a, b)] 1 rfl rfl (ent_one w1 a b _) (by simp; omega) (by simp; omega) ?_; intro v2 w2 hown2 hgrow2; have q7 := (g7.alloc (.cells #[.string (S a), .string (S b)] 51)).kept hgrow2 (own_apart (g7.alloc (.cells #[.string (S a), .string (S b)] 51)) (g6.alloc (.cells #[.string (S a), .string (S b)] 51)) (by decide)); have hb3 : Below w.heap.size w w2 := (hb2.alloc hsz2 _).grown hgrow2 (by simp; omega) (fun k hk' => ((g6.alloc (.cells #[.string (S a), .string (S b)] 51)).lt k hk').1); have hsz3 := hb3.size)
          | (at_builtin; refine app_strs _ rfl _ _ rfl w.heap.size _ (pths L) rfl (q7.alloc _) ⟨w2.heap.size, 0, none⟩ 1 [pa] 1 rfl rfl (str_one w2 pa _) (by simp; omega) (by simp; omega) ?_; intro v3 w3 hown3 hgrow3))
        have q6 := (hown2.alloc (.cells #[.string (S pa)] 9)).kept hgrow3 (own_apart (hown2.alloc (.cells #[.string (S pa)] 9)) (q7.alloc (.cells #[.string (S pa)] 9)) (by decide))
        have hb4 : Below w.heap.size w w3 := (hb3.alloc hsz3 _).grown hgrow3 (by simp; omega) (fun k hk' => ((q7.alloc (.cells #[.string (S pa)] 9)).lt k hk').1)
        rw [← HP'.out] at hown3
        go_roundw
        case rel => exact ⟨k + 1, L ++ [(a, b)], by omega, by go_num, HL'.out.symm, by simp; omega, q6, hown3, hb4⟩
        case measure => simp [intOf]; omega
    · have HL' : Hid (und q es = L) := by
        show und q es = L
        rw [HL.out, List.take_of_length_le (by omega)]
      obtain ⟨A6, c6, rfl⟩ := own_shapeE h6
      obtain ⟨A7, c7, rfl⟩ := own_shape h7
      have hpl := pths_length L
      rw [hpl] at h7
      have hc6 := (own_capU h6).1
      have hc7 := (own_capU h7).1
      go_wp2
      go_ret2
      rw [HL'.out]
      exact ⟨A6, c6, A7, c7, by rw [← hpl]; rfl, hc6, hc7, Row.ownE h6, Row.own h7, hbl⟩
end Go.Proofs.YtjcockcilkiggaaGreat
/- package tree: At returns the hash of a prefix in a book, Root that of the empty prefix. They write nothing that was there. -/
namespace Go.Proofs.YtjcockcilkiggaaGreat
open Go.RowKit

def goodPre (q : Bytes) : Bool := q.all Bin.bitByte && decide (q.length ≤ 16)
/-- The first error of At. -/
def atErr (es : List Ent) (q : Bytes) : Int := if fault es = 0 then (if goodPre q = true then 0 else 3) else fault es
theorem atErr_ok (es : List Ent) (q : Bytes) : atErr es q = 0 ↔ Good es ∧ goodPre q = true := by
  unfold atErr
  rw [← fault_ok]
  by_cases h : fault es = 0
  · rw [if_pos h]
    by_cases h2 : goodPre q = true <;> simp [h, h2]
  · rw [if_neg h]
    simp [h]
theorem goodPre_len {q : Bytes} (h : goodPre q = true) : q.length ≤ 16 := by
  unfold goodPre at h
  rw [Bool.and_eq_true] at h
  exact of_decide_eq_true h.2

set_option maxRecDepth 100000 in
set_option maxHeartbeats 800000 in
theorem treeAt_no (A : Option Addr) (c : Nat) (es : List Ent) (q : Bytes) (w : World) (hm : es.length ≤ maxLen) (hes : ∀ x ∈ es, x.1.length ≤ maxLen ∧ x.2.length ≤ maxLen) (hn : q.length ≤ maxLen) (hA : Row w A (encells es)) (r : Int) (hr : atErr es q = r) (h0 : r ≠ 0) :
    Calls Tryz.prog 43 #[.slice A es.length c, .string (S q)] w fun e w' => e = .returned (.tuple #[.int .u64 0, .int .i64 r]) ∧ Below w.heap.size w w' := by
  have hC := fun (w : World) hA => Lib.hid (treeCheck A c es w hm hes hA _ rfl)
  have hN := fun w => Lib.hid (treeIsPrefix q w hn (goodPre q) rfl)
  by_cases hf : fault es = 0
  · rw [atErr, if_pos hf] at hr
    cases hnm : goodPre q with
    | true => rw [hnm, if_pos rfl] at hr; exact absurd hr.symm h0
    | false =>
      rw [hnm, if_neg (by simp)] at hr
      rw [hf] at hC
      rw [hnm] at hN
      subst hr
      clear hf hnm h0 hm hes hn
      go_enter Tryz.func43, Tryz.ntmps43
      go_wp2_with fail
      refine (hC _ hA).out.mono ?_
      rintro e w1 ⟨rfl, hb1⟩
      go_wp2_with fail
      refine (hN _).out.mono ?_
      rintro e w2 ⟨rfl, rfl⟩
      go_wp2
      go_ret2
      exact ⟨rfl, hb1⟩
  · rw [atErr, if_neg hf] at hr
    rw [hr] at hC
    have c1 : (r == 0) = false := beq_eq_false_iff_ne.2 h0
    clear hf h0 hm hes hn hN hr
    go_enter Tryz.func43, Tryz.ntmps43
    go_wp2_with fail
    refine (hC _ hA).out.mono ?_
    rintro e w1 ⟨rfl, hb1⟩
    go_wp2
    go_ret2
    exact ⟨rfl, hb1⟩

theorem good_5 {es : List Ent} (hg : Good es) : ∀ x ∈ es, x.1.length + x.2.length ≤ 596 := fun x hx => by
  have h1 := (Bin.name_len (hg.name x hx)).2
  have h2 := hg.value x hx
  omega
theorem mem_und {q : Bytes} {es : List Ent} {x : Ent} (h : x ∈ und q es) : x ∈ es := (List.mem_filter.1 h).1

set_option maxRecDepth 100000 in
set_option maxHeartbeats 800000 in
theorem treeAt_yes (A : Option Addr) (c : Nat) (es : List Ent) (q : Bytes) (w : World) (hg : Good es) (hq : goodPre q = true) (hA : Row w A (encells es)) (x : Nat) (hx : prefMark es q = x) :
    Calls Tryz.prog 43 #[.slice A es.length c, .string (S q)] w fun e w' => e = .returned (.tuple #[.int .u64 (x : Int), .int .i64 0]) ∧ Below w.heap.size w w' := by
  obtain ⟨hm, hes⟩ := small_of_good hg
  have hq16 := goodPre_len hq
  have hC := fun (w : World) hA => Lib.hid (treeCheck A c es w hm hes hA _ ((fault_ok es).2 hg))
  have hN := fun w => Lib.hid (treeIsPrefix q w (by unfold maxLen; omega) true hq)
  have hl := hg.len
  have hU := fun (w : World) hA => Lib.hid (treeUnder A c es q w (by omega) hg.name (by omega) hA)
  have hle := und_le q es
  have hH := fun (A B : Option Addr) (c d : Nat) (w : World) (hc : (und q es).length ≤ c) (hd : (und q es).length ≤ d) hA hB => Lib.hid (hash_all (16 - q.length) q (und q es) A B c d _ _ w (by omega) rfl rfl (by omega) hc hd (fun y hy => good_5 hg y (mem_und hy)) (und_begins q es) (und_order q hg.order) hA hB x (by rw [prefMark_und]; exact hx))
  generalize und q es = L at *
  clear hg hq hm hes hx
  go_enter Tryz.func43, Tryz.ntmps43
  go_wp2_with fail
  refine (hC _ hA).out.mono ?_
  rintro e w1 ⟨rfl, hb1⟩
  go_wp2_with fail
  refine (hN _).out.mono ?_
  rintro e w2 ⟨rfl, rfl⟩
  go_wp2_with fail
  refine (hU _ (hA.below hb1)).out.mono ?_
  rintro e w3 ⟨A3, c3, B3, d3, rfl, hc3, hd3, hA3, hB3, hb3⟩
  go_wp2_with fail
  refine (hH A3 B3 c3 d3 _ hc3 hd3 hA3 hB3).out.mono ?_
  rintro e w4 ⟨rfl, hb4⟩
  go_wp2
  go_ret2
  exact ⟨rfl, below_chain (below_chain hb1 hb3) hb4⟩

set_option maxHeartbeats 400000 in
theorem treeRoot_no (A : Option Addr) (c : Nat) (es : List Ent) (w : World) (hm : es.length ≤ maxLen) (hes : ∀ x ∈ es, x.1.length ≤ maxLen ∧ x.2.length ≤ maxLen) (hA : Row w A (encells es)) (r : Int) (hr : fault es = r) (h0 : r ≠ 0) :
    Calls Tryz.prog 15 #[.slice A es.length c] w fun e w' => e = .returned (.tuple #[.int .u64 0, .int .i64 r]) ∧ Below w.heap.size w w' := by
  have hT := fun (w : World) hA => Lib.hid (treeAt_no A c es [] w hm hes (by simp) hA r (by rw [atErr, if_neg (by rw [hr]; exact h0)]; exact hr) h0)
  clear hm hes hr h0
  go_enter Tryz.func15, Tryz.ntmps15
  go_wp2_with fail
  refine (hT _ hA).out.mono ?_
  rintro e w1 ⟨rfl, hb1⟩
  go_wp2
  go_ret2
  exact ⟨rfl, hb1⟩

set_option maxHeartbeats 400000 in
theorem treeRoot_yes (A : Option Addr) (c : Nat) (es : List Ent) (w : World) (hg : Good es) (hA : Row w A (encells es)) (x : Nat) (hx : prefMark es [] = x) :
    Calls Tryz.prog 15 #[.slice A es.length c] w fun e w' => e = .returned (.tuple #[.int .u64 (x : Int), .int .i64 0]) ∧ Below w.heap.size w w' := by
  have hT := fun (w : World) hA => Lib.hid (treeAt_yes A c es [] w hg rfl hA x hx)
  clear hg hx
  go_enter Tryz.func15, Tryz.ntmps15
  go_wp2_with fail
  refine (hT _ hA).out.mono ?_
  rintro e w1 ⟨rfl, hb1⟩
  go_wp2
  go_ret2
  exact ⟨rfl, hb1⟩
end Go.Proofs.YtjcockcilkiggaaGreat
