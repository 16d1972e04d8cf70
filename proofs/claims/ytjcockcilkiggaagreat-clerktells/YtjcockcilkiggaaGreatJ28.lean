/- Package clerk: last (of heads, of books), checkBook, crowded, closed; slices.Clone at books. They write nothing that was there. -/
import Derived.Test.YtjcockcilkiggaaGreatJ17
import Derived.Test.YtjcockcilkiggaaGreatJ22
import Derived.Test.YtjcockcilkiggaaGreatJ27
namespace Go.Proofs.YtjcockcilkiggaaGreat
set_option maxRecDepth 100000
open Go.RowKit Go.Maps

theorem clerkLastH (A : Option Addr) (c : Nat) (l : List Hd) (w : World) (h0 : 0 < l.length) (hm : l.length ≤ maxLen) (hA : Row w A (hcells l)) (ep : Int) (rt pv : Nat) (tm : Int) (hx : lastH l = (ep, rt, pv, tm)) :
    Calls Tryz.prog 34 #[.slice A l.length c] w fun e w' => e = .returned (.agg #[.int .i64 ep, .int .u64 (rt : Int), .int .u64 (pv : Int), .int .i64 tm]) ∧ Below w.heap.size w w' := by
  unfold maxLen at hm
  obtain ⟨n, hn⟩ : ∃ n, l.length = n + 1 := ⟨l.length - 1, by omega⟩
  rw [lastH_at hn] at hx
  have hA0 := hA.alloc (.cells #[.int .i64 0, .int .u64 0, .int .u64 0, .int .i64 0] 45)
  obtain ⟨g, off, rfl, h1, h2, h3, h4⟩ := hA0.head n (by omega)
  rw [hx] at h1 h2 h3 h4
  rw [hn] at hm ⊢
  clear hx hA hA0 hn h0
  dsimp only at h1 h2 h3 h4
  have i2 : (0 : Int) ≤ (n : Int) := by omega
  have hb9 : Below w.heap.size w (w.alloc (.cells #[.int .i64 ep, .int .u64 (rt : Int), .int .u64 (pv : Int), .int .i64 tm] 45)) := (Below.refl _ _).alloc (Nat.le_refl _) _
  have hz9 := Bx.new w _ rfl _ [.int .i64 ep, .int .u64 (rt : Int), .int .u64 (pv : Int), .int .i64 tm] 45 rfl
  go_enter Tryz.func34, Tryz.ntmps34
  go_wp2
  generalize (w.alloc (.cells #[.int .i64 ep, .int .u64 (rt : Int), .int .u64 (pv : Int), .int .i64 tm] 45)) = w9 at *
  obtain ⟨⟨r0, r1, r2, r3⟩, _⟩ := hz9.get4
  refine bodyPost_ret (v := .agg #[.int .i64 ep, .int .u64 (rt : Int), .int .u64 (pv : Int), .int .i64 tm]) ?_ rfl ⟨rfl, hb9⟩
  rw [results_cellOne rfl]
  go_simp
theorem clerkLastB (B : Option Addr) (e n : Nat) (ps : List Bp) (w : World) (hn : ps.length = n + 1) (hm : n ≤ 1000) (hB : Books w B ps) (P : Option Addr) (c m : Nat) (h1 : (ps[n]'(by omega)).1 = P) (h2 : (ps[n]'(by omega)).2.1 = c) (h3 : (ps[n]'(by omega)).2.2.length = m) :
    Calls Tryz.prog 37 #[.slice B (n + 1) e] w fun x w' => x = .returned (.slice P m c) ∧ w = w' := by
  obtain ⟨g, off, rfl, j, -⟩ := hB.get n (by omega)
  rw [h1, h2, h3] at j
  clear h1 h2 h3 hB hn
  have i2 : (0 : Int) ≤ (n : Int) := by omega
  go_enter Tryz.func37, Tryz.ntmps37
  go_wp2
  go_ret
  exact ⟨rfl, rfl⟩
/-- The error of a book and its head's root. -/
def bookErr (bk : List Ent) (rt : Nat) : Int := if fault bk = 0 then (if prefMark bk [] = rt then 0 else 8) else fault bk
theorem clerkCheckBook (A : Option Addr) (c : Nat) (bk : List Ent) (ep : Int) (rt pv : Nat) (tm : Int) (w : World) (hm : bk.length ≤ maxLen) (hes : ∀ x ∈ bk, x.1.length ≤ maxLen ∧ x.2.length ≤ maxLen) (hA : Row w A (encells bk)) (r : Int) (hr : bookErr bk rt = r) :
    Calls Tryz.prog 35 #[.slice A bk.length c, .agg #[.int .i64 ep, .int .u64 (rt : Int), .int .u64 (pv : Int), .int .i64 tm]] w fun x w' => x = .returned (.int .i64 r) ∧ Below w.heap.size w w' := by
  have x0 := Bx.new w _ rfl _ [.int .i64 ep, .int .u64 (rt : Int), .int .u64 (pv : Int), .int .i64 tm] 45 rfl
  have hb0 := (Below.refl w.heap.size w).alloc (Nat.le_refl _) (.cells #[.int .i64 ep, .int .u64 (rt : Int), .int .u64 (pv : Int), .int .i64 tm] 45)
  have hA0 := hA.alloc (.cells #[.int .i64 ep, .int .u64 (rt : Int), .int .u64 (pv : Int), .int .i64 tm] 45)
  unfold bookErr at hr
  obtain ⟨f, hf⟩ : ∃ f, fault bk = f := ⟨_, rfl⟩
  rw [hf] at hr
  by_cases h0 : f = 0
  · subst h0
    rw [if_pos rfl] at hr
    obtain ⟨pm, hpm⟩ : ∃ u, prefMark bk [] = u := ⟨_, rfl⟩
    rw [hpm] at hr
    have hT := fun (w : World) hA => Lib.hid (treeRoot_yes A c bk w ((fault_ok bk).1 hf) hA pm hpm)
    clear hf hpm hm hes hA
    by_cases h1 : pm = rt
    · rw [if_pos h1] at hr
      subst hr
      subst h1
      go_enter Tryz.func35, Tryz.ntmps35
      go_wp2_with fail
      refine (hT _ hA0).out.mono ?_
      rintro x w1 ⟨rfl, hb1⟩
      obtain ⟨⟨a0, a1, a2, a3⟩, _⟩ := (x0.below hb1).get4
      go_wp2
      go_ret
      exact ⟨rfl, below_chain hb0 hb1⟩
    · rw [if_neg h1] at hr
      subst hr
      have cp : ((pm : Int) != (rt : Int)) = true := bne_iff_ne.2 (fun h => h1 (by omega))
      clear h1
      go_enter Tryz.func35, Tryz.ntmps35
      go_wp2_with fail
      refine (hT _ hA0).out.mono ?_
      rintro x w1 ⟨rfl, hb1⟩
      obtain ⟨⟨a0, a1, a2, a3⟩, _⟩ := (x0.below hb1).get4
      go_wp2
      go_ret
      exact ⟨rfl, below_chain hb0 hb1⟩
  · rw [if_neg h0] at hr
    subst hr
    have hT := fun (w : World) hA => Lib.hid (treeRoot_no A c bk w hm hes hA f hf h0)
    have cf : (f != 0) = true := bne_iff_ne.2 h0
    clear hf hm hes hA h0 x0
    go_enter Tryz.func35, Tryz.ntmps35
    go_wp2_with fail
    refine (hT _ hA0).out.mono ?_
    rintro x w1 ⟨rfl, hb1⟩
    go_wp2
    go_ret
    exact ⟨rfl, below_chain hb0 hb1⟩
/-- A set of names. -/
def setN (L : List Bytes) : DataW Value := setOf (.held (.bool true)) (L.map Lit.string)
theorem setN_snoc (L : List Bytes) (p : Bytes) : setN (L ++ [p]) = (setN L).put (.string p) (.held (.bool true)) := by
  unfold setN
  rw [List.map_append]
  exact setOf_snoc _ _ _
theorem keysN (L : List Bytes) : ∀ x ∈ L.map Lit.string, WideAt.IsKeyLit x := fun x hx => by
  obtain ⟨p, _, rfl⟩ := List.mem_map.1 hx
  exact isKeyStr p
theorem tidyN (L : List Bytes) : Tidy (setN L) := tidy_setOf _ _ (keysN L)
theorem has_setN (L : List Bytes) (p : Bytes) : has (setN L) (.string p) = true ↔ p ∈ L := by
  unfold setN
  rw [has_setOf _ _ _ (keysN L), List.any_eq_true]
  constructor
  · rintro ⟨x, hx, he⟩
    obtain ⟨q, hq, rfl⟩ := List.mem_map.1 hx
    by_cases e : q = p
    · rw [← e]; exact hq
    · rw [sameKey_ne (fun h => e (by injection h))] at he
      exact absurd he (by decide)
  · intro hp
    exact ⟨_, List.mem_map_of_mem hp, WideAt.sameKey_self (isKeyStr p)⟩
theorem srt_snoc_length (L : List Bytes) (p : Bytes) : (Bin.srt (L ++ [p])).length = if p ∈ L then (Bin.srt L).length else (Bin.srt L).length + 1 := by
  have hm : (((Bin.srt L).map fun x => ((x, []) : Ent)).map (·.1)) = Bin.srt L := by rw [List.map_map]; exact List.map_id _
  have h1 := setTo_length p [] ((Bin.srt L).map fun x => ((x, []) : Ent)) (by rw [hm]; exact Bin.srt_pairwise L)
  have h2 : (setTo p [] ((Bin.srt L).map fun x => ((x, []) : Ent))).length = (Bin.srt (L ++ [p])).length := by
    have : (setTo p [] ((Bin.srt L).map fun x => ((x, []) : Ent))).length = ((setTo p [] ((Bin.srt L).map fun x => ((x, []) : Ent))).map (·.1)).length := by rw [List.length_map]
    rw [this, setTo_names, hm]
    congr 1
    exact Bin.srt_only (Bin.srt_pairwise _) (Bin.srt_pairwise _) fun x => by
      rw [Bin.srt_mem, Bin.srt_mem, List.mem_append, List.mem_append, Bin.srt_mem]
  rw [h2, stands_map (fun _ => []), List.length_map] at h1
  rw [h1]
  by_cases hp : p ∈ L
  · rw [if_pos ((Bin.srt_mem L p).2 hp), if_pos hp]; rfl
  · rw [if_neg (fun h => hp ((Bin.srt_mem L p).1 h)), if_neg hp]; rfl
theorem size_setN : ∀ (n : Nat) (L : List Bytes), L.length = n → Maps.size (setN L) = (Bin.srt L).length
  | 0, L, h => by
    obtain rfl : L = [] := List.eq_nil_of_length_eq_zero h
    have : Bin.srt [] = [] := Bin.srt_only (Bin.srt_pairwise _) List.Pairwise.nil fun x => by rw [Bin.srt_mem]
    rw [this]
    rfl
  | n + 1, L, h => by
    obtain ⟨M, p, rfl⟩ : ∃ M p, L = M ++ [p] := ⟨L.dropLast, L.getLast (by intro e; rw [e] at h; simp at h), (List.dropLast_concat_getLast _).symm⟩
    rw [setN_snoc, size_put (tidyN M), srt_snoc_length, size_setN n M (by simpa using h)]
    by_cases hp : p ∈ M
    · rw [if_pos hp, if_pos ((has_setN M p).2 hp)]
    · rw [if_neg hp, if_neg (fun h => hp ((has_setN M p).1 h))]
set_option maxHeartbeats 2000000 in
theorem clerkCrowded (A Q : Option Addr) (c d : Nat) (bk : List Ent) (l : List Ak) (w : World) (hb : bk.length ≤ 1000) (hl : l.length ≤ 1000) (hbn : ∀ x ∈ bk, x.1.length ≤ maxLen) (hln : ∀ x ∈ l, x.1.length ≤ maxLen) (hA : Row w A (encells bk)) (hQ : Row w Q (qcells l)) (r : Bool) (hr : decide (24 < (Bin.srt (namesOf bk l [])).length) = r) :
    Calls Tryz.prog 36 #[.slice A bk.length c, .slice Q l.length d] w fun x w' => x = .returned (.bool r) ∧ Below w.heap.size w w' := by
  have hmm := @run_makeMap Tryz.prog
  have HB := Lib.hid hbn
  have HL := Lib.hid hln
  have HR := Lib.hid hr
  clear hbn hln hr
  go_enter Tryz.func36, Tryz.ntmps36
  go_wp2
  go_loopw [13] (fun i wr => ∃ (k : Nat) (L : List Bytes), k ≤ bk.length ∧ i = .int .i64 k ∧ Hid (L = (bk.take k).map (·.1)) ∧ wr.ownsMap Tryz.prog 9 raw w.heap.size k (setN L) ∧ Below w.heap.size w wr ∧ w.heap.size + 1 ≤ wr.heap.size) (fun i _ => bk.length - (intOf i).toNat)
  case atStart => exact ⟨0, [], Nat.zero_le _, rfl, rfl, World.ownsMap_made _ _ _ _, (Below.refl _ _).alloc (Nat.le_refl _) _, by simp⟩
  case round =>
    obtain ⟨k, L, hk, rfl, HK, hown, hbl, hws⟩ := hrel
    have hsz := hbl.size
    by_cases hlt : k < bk.length
    · obtain ⟨g, off, rfl, h1, h2⟩ := (hA.below hbl).ent k hlt
      have i0 : (0 : Int) ≤ (k : Int) := by omega
      have i1 : (k : Int) < (bk.length : Int) := by omega
      have hx := HB.out _ (List.getElem_mem hlt)
      have HK2 : Hid (L ++ [bk[k].1] = (bk.take (k + 1)).map (·.1)) := by show _ = _; rw [HK.out, List.take_succ_eq_append_getElem hlt, List.map_append]; rfl
      have hkey := strKey bk[k].1 hx
      have hb1 := hbl.alloc hsz (.cells #[.string (S bk[k].1), .string (S bk[k].2)] 51)
      have hown1 := hown.alloc (.cells #[.string (S bk[k].1), .string (S bk[k].2)] 51)
      have hsn := setN_snoc L bk[k].1
      have hs1 : (wr.alloc (.cells #[.string (S bk[k].1), .string (S bk[k].2)] 51)).heap.size = wr.heap.size + 1 := by simp
      generalize bk[k].1 = na at *
      generalize bk[k].2 = va at *
      clear HK hown hbl
      go_wp2_with (at_mapUpdate; refine wpList_mapUpdate_own _ rfl _ _ _ 104 rfl 9 4 strLaw Tryz.underlying104 raw w.heap.size k _ rfl hown1 (by unfold maxLen; omega) _ _ _ rfl rfl hkey (.held (.bool true)) [] rfl ?_; intro w1 hown2 hgrow2)
      have hs2 := hgrow2.size
      go_roundw
      case rel => exact ⟨k + 1, L ++ [na], by omega, by go_num, HK2, by rw [hsn]; exact hown2, hb1.grown hgrow2 (by omega) (fun j hj => by cases hj; exact Nat.le_refl _), by omega⟩
      case measure => simp [intOf]; omega
    · have hL : L = bk.map (·.1) := by rw [HK.out, List.take_of_length_le (by omega)]
      have hkb : k = bk.length := by omega
      subst hkb
      subst hL
      clear HK hlt
      go_wp2
      go_loopw [23] (fun i wr => ∃ (k : Nat) (L : List Bytes), k ≤ l.length ∧ i = .int .i64 k ∧ Hid (L = bk.map (·.1) ++ (l.take k).map (·.1)) ∧ wr.ownsMap Tryz.prog 9 raw w.heap.size (bk.length + k) (setN L) ∧ Below w.heap.size w wr ∧ w.heap.size + 1 ≤ wr.heap.size) (fun i _ => l.length - (intOf i).toNat)
      case atStart => exact ⟨0, bk.map (·.1), Nat.zero_le _, rfl, by show _ = _; simp, hown, hbl, hws⟩
      case round =>
        obtain ⟨k, L, hk', rfl, HK, hown', hbl', hws'⟩ := hrel
        have hsz := hbl'.size
        by_cases hlt : k < l.length
        · obtain ⟨g, off, rfl, j0, j1, j2, j3⟩ := (hQ.below hbl').ask k hlt
          have i0 : (0 : Int) ≤ (k : Int) := by omega
          have i1 : (k : Int) < (l.length : Int) := by omega
          have hx := HL.out _ (List.getElem_mem hlt)
          have HK2 : Hid (L ++ [l[k].1] = bk.map (·.1) ++ (l.take (k + 1)).map (·.1)) := by show _ = _; rw [HK.out, List.take_succ_eq_append_getElem hlt, List.map_append, List.append_assoc]; rfl
          have hkey := strKey l[k].1 hx
          have hb1 := hbl'.alloc hsz (.cells #[.string (S l[k].1), .string (S l[k].2.1), .int .u64 (l[k].2.2.1 : Int), .int .u64 (l[k].2.2.2 : Int)] 31)
          have hown1 := hown'.alloc (.cells #[.string (S l[k].1), .string (S l[k].2.1), .int .u64 (l[k].2.2.1 : Int), .int .u64 (l[k].2.2.2 : Int)] 31)
          have hsn := setN_snoc L l[k].1
          have hs1 : (wr.alloc (.cells #[.string (S l[k].1), .string (S l[k].2.1), .int .u64 (l[k].2.2.1 : Int), .int .u64 (l[k].2.2.2 : Int)] 31)).heap.size = wr.heap.size + 1 := by simp
          generalize l[k].1 = na at *
          generalize l[k].2.1 = va at *
          generalize l[k].2.2.1 = nu at *
          generalize l[k].2.2.2 = tg at *
          clear HK hown' hbl'
          go_wp2_with (at_mapUpdate; refine wpList_mapUpdate_own _ rfl _ _ _ 104 rfl 9 4 strLaw Tryz.underlying104 raw w.heap.size (bk.length + k) _ rfl hown1 (by unfold maxLen; omega) _ _ _ rfl rfl hkey (.held (.bool true)) [] rfl ?_; intro w1 hown2 hgrow2)
          have hs2 := hgrow2.size
          go_roundw
          case rel => exact ⟨k + 1, L ++ [na], by omega, by go_num, HK2, by rw [hsn, ← Nat.add_assoc]; exact hown2, hb1.grown hgrow2 (by omega) (fun j hj => by cases hj; exact Nat.le_refl _), by omega⟩
          case measure => simp [intOf]; omega
        · have hL : L = namesOf bk l [] := by rw [HK.out, List.take_of_length_le (by omega)]; unfold namesOf; rw [if_pos rfl, List.append_nil]
          obtain ⟨n, hn⟩ : ∃ n, Maps.size (setN L) = n := ⟨_, rfl⟩
          have HRn : Hid (decide (24 < n) = r) := by show _ = _; rw [← HR.out, ← hn, size_setN _ L rfl, hL]
          clear HR HK hL
          cases r with
          | true =>
            have c24 : decide ((24 : Int) < (n : Int)) = true := by have := of_decide_eq_true HRn.out; exact decide_eq_true (by omega)
            clear HRn
            go_wp2_with (at_len; refine wpList_len_own _ rfl _ 104 rfl 9 4 Tryz.underlying104 _ w.heap.size _ _ rfl hown' ?_; rw [hn])
            go_ret
            exact ⟨rfl, hbl'⟩
          | false =>
            have c24 : decide ((24 : Int) < (n : Int)) = false := by have := of_decide_eq_false HRn.out; exact decide_eq_false (by omega)
            clear HRn
            go_wp2_with (at_len; refine wpList_len_own _ rfl _ 104 rfl 9 4 Tryz.underlying104 _ w.heap.size _ _ rfl hown' ?_; rw [hn])
            go_ret
            exact ⟨rfl, hbl'⟩
set_option maxHeartbeats 1000000 in
theorem clerkClosed (most ba ev nw : Int) (A H B : Option Addr) (na c nh d nb e : Nat) (w : World) (r : Bool) (hr : (decide (nh = 40) || decide (nw = 1000000000)) = r) :
    Calls Tryz.prog 20 #[.agg #[.int .i64 most, .slice A na c, .int .i64 ba, .int .i64 ev, .int .i64 nw, .slice H nh d, .slice B nb e]] w fun x w' => x = .returned (.bool r) ∧ Below w.heap.size w w' := by
  have x0 := Bx.new w _ rfl _ [.int .i64 most, .slice A na c, .int .i64 ba, .int .i64 ev, .int .i64 nw, .slice H nh d, .slice B nb e] 28 rfl
  have hb0 := (Below.refl w.heap.size w).alloc (Nat.le_refl _) (.cells #[.int .i64 most, .slice A na c, .int .i64 ba, .int .i64 ev, .int .i64 nw, .slice H nh d, .slice B nb e] 28)
  obtain ⟨a0, a1, a2, a3, a4, a5, a6⟩ := x0.get7
  by_cases h1 : nh = 40
  · rw [decide_eq_true h1, Bool.true_or] at hr
    subst hr
    have c1 : ((nh : Int) == 40) = true := beq_iff_eq.2 (by omega)
    clear h1 x0
    go_enter Tryz.func20, Tryz.ntmps20
    go_wp2
    go_ret
    exact ⟨rfl, hb0⟩
  · rw [decide_eq_false h1, Bool.false_or] at hr
    have c1 : ((nh : Int) == 40) = false := beq_eq_false_iff_ne.2 (by omega)
    by_cases h2 : nw = 1000000000
    · rw [decide_eq_true h2] at hr
      subst hr
      have c2 : (nw == 1000000000) = true := beq_iff_eq.2 h2
      clear h1 h2 x0
      go_enter Tryz.func20, Tryz.ntmps20
      go_wp2
      go_ret
      exact ⟨rfl, hb0⟩
    · rw [decide_eq_false h2] at hr
      subst hr
      have c2 : (nw == 1000000000) = false := beq_eq_false_iff_ne.2 h2
      clear h1 h2 x0
      go_enter Tryz.func20, Tryz.ntmps20
      go_wp2
      go_ret
      exact ⟨rfl, hb0⟩
end Go.Proofs.YtjcockcilkiggaaGreat
