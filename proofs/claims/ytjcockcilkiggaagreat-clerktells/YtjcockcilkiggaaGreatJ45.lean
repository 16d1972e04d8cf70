/- The reference's Levels returns a map with the hash of each prefix that some path begins with. It writes nothing that was there. -/
import Derived.Test.YtjcockcilkiggaaGreatJ44
namespace Go.Proofs.YtjcockcilkiggaaGreat
open Go.RowKit Go.Maps

set_option maxRecDepth 100000 in
set_option maxHeartbeats 16000000 in
theorem refLevels (A : Option Addr) (c : Nat) (es : List Ent) (w : World) (hm : es.length ≤ 1000) (hes : ∀ x ∈ es, x.1.length + x.2.length ≤ 596) (hA : Row w A (encells es)) :
    Calls Tryz.prog 59 #[.slice A es.length c] w (LevelsGives es w) := by
  have hmm := @run_makeMap Tryz.prog
  have HE := Lib.hid hes
  have hzE := zeroE
  clear hes
  go_enter Tryz.func59, Tryz.ntmps59
  go_wp2
  go_loopw [20] (fun i wr => ∃ (k : Nat) (g : Bytes → Option Value), k ≤ es.length ∧ i = .int .i64 k ∧ MapOf wr w.heap.size k g ∧ Grouped wr (w.heap.size + 1) (es.take k) g ∧ w.heap.size + 1 ≤ wr.heap.size ∧ Below w.heap.size w wr) (fun i _ => es.length - (intOf i).toNat)
  case atStart => exact ⟨0, _, Nat.zero_le _, rfl, MapOf.made w, Grouped.start _ _, by simp, (Below.refl _ _).alloc (Nat.le_refl _) _⟩
  case round =>
    obtain ⟨k, g, hk, rfl, hmap, hgrp, hws, hbl⟩ := hrel
    have hsz := hbl.size
    by_cases hlt : k < es.length
    · obtain ⟨ga, off, rfl, h1, h2⟩ := (hA.below hbl).ent k hlt
      have hi0 : (0 : Int) ≤ (k : Int) := by omega
      have hi1 : (k : Int) < (es.length : Int) := by omega
      have hx := HE.out _ (List.getElem_mem hlt)
      have hP := fun w => Lib.hid (refPath es[k].1 w (by unfold maxLen; omega))
      have hpl := Bin.of_length es[k].1
      have HG : Hid (∀ w' v', (w' : World).ownsRow (w.heap.size + 1) 51 2 v' (at16 (es.take k) (Bin.of es[k].1) ++ [(es[k].1, es[k].2)]).length (encells (at16 (es.take k) (Bin.of es[k].1) ++ [(es[k].1, es[k].2)])) →
          ∀ w1 : World, Grouped w1 (w.heap.size + 1) (es.take k) g → w1.grownBy w' ((g (Bin.of es[k].1)).getD (.slice none 0 0)).ownBlock → (v'.ownBlock = ((g (Bin.of es[k].1)).getD (.slice none 0 0)).ownBlock ∨ ∃ j, v'.ownBlock = some j ∧ w1.heap.size ≤ j) →
          Grouped w' (w.heap.size + 1) (es.take (k + 1)) (fun q => if q = Bin.of es[k].1 then some v' else g q)) := by
        show ∀ w' v', _
        intro w' v' ho w1 hg1 hgr hl
        rw [List.take_succ_eq_append_getElem hlt]
        exact hg1.step es[k] v' _ rfl hgr ho hl
      have hat := hgrp.at (Bin.of es[k].1)
      obtain ⟨v, hv⟩ : ∃ v, (g (Bin.of es[k].1)).getD (.slice none 0 0) = v := ⟨_, rfl⟩
      rw [hv] at hat HG
      have hal : (at16 (es.take k) (Bin.of es[k].1)).length ≤ k := Nat.le_trans (List.length_filter_le _ _) (by simp; omega)
      have HV := Lib.hid hv
      clear hx hA hv
      generalize at16 (es.take k) (Bin.of es[k].1) = l at *
      generalize Bin.of es[k].1 = p at *
      generalize es[k].1 = a at *
      generalize es[k].2 = b at *
      go_wp2_with fail
      refine (hP _).out.mono ?_
      rintro e w1 ⟨rfl, hw⟩
      have hbl1 : Below w.heap.size w w1 := by rw [← hw]; exact hbl.alloc hsz _
      have hmap1 : MapOf w1 w.heap.size k g := by rw [← hw]; exact hmap.alloc _
      have hgrp1 : Grouped w1 (w.heap.size + 1) (es.take k) g := by rw [← hw]; exact hgrp.below ((Below.refl _ _).alloc (Nat.le_refl _) _)
      have hat1 : w1.ownsRow (w.heap.size + 1) 51 2 v l.length (encells l) := by rw [← hw]; exact hat.alloc _
      have k1 : w1.cell? ⟨wr.heap.size, 0, none⟩ = some (.string (S a)) := by rw [← hw, World.cell?_alloc_new]; rfl
      have k2 : w1.cell? ⟨wr.heap.size, 1, none⟩ = some (.string (S b)) := by rw [← hw, World.cell?_alloc_new]; rfl
      have hws1 : w.heap.size + 1 ≤ w1.heap.size := by rw [← hw]; simp; omega
      have hsz1 := hbl1.size
      clear hw hbl hmap hgrp hat hws hsz h1 h2 hP
      generalize wr.heap.size = gx at *
      have hne : some w.heap.size ≠ v.ownBlock := fun e => by have := (hat1.lt _ e.symm).1; omega
      have hvl : ∀ g', v.ownBlock = some g' → w.heap.size ≤ g' := fun g' hg' => by have := (hat1.lt _ hg').1; omega
      go_wp2_with (first
        | (at_lookup; refine map_look _ rfl _ _ 116 rfl 39 Tryz.underlying116 _ (hzE _) w.heap.size k g rfl hmap1 p (by unfold maxLen; omega) rfl v HV.out ?_)
        | (at_builtin; refine app_ent_at _ rfl _ _ rfl (w.heap.size + 1) v l rfl (hat1.alloc _) ⟨w1.heap.size, 0, none⟩ 1 (a, b) rfl (ent_one w1 a b _) (by omega) (by simp; omega) ?_; intro v2 w2 hown2 hgrow2 hloc2; have hgr2 := (World.grownBy_alloc w1 (.cells #[.string (S a), .string (S b)] 51) _).trans hgrow2)
        | (at_mapUpdate; refine map_update _ rfl _ _ _ 116 rfl 39 Tryz.underlying116 w.heap.size k g rfl (hmap1.kept hgr2 hne) (by unfold maxLen; omega) p (by unfold maxLen; omega) v2 rfl rfl ?_; intro w3 hmap3 hgrow3; go_frame))
      have hgrp2 := HG.out w2 v2 hown2 w1 hgrp1 hgr2 (hloc2.imp id fun h => ⟨_, h, by simp⟩)
      have hb2 := hbl1.grown hgr2 hsz1 hvl
      go_roundw
      case rel => exact ⟨k + 1, _, by omega, by go_num, hmap3, hgrp2.low hgrow3 (by omega), Nat.le_trans hws1 (Nat.le_trans hgr2.size hgrow3.size), hb2.grown hgrow3 hb2.size (fun g' hg' => by injection hg' with hg'; omega)⟩
      case measure => simp [intOf]; omega
    · obtain rfl : k = es.length := by omega
      rw [List.take_length] at hgrp
      have hZ := fun w => Lib.hid (refMark_0 w)
      have hLV0 := fun t t' => LV.make hmap hgrp hws hbl t t'
      clear hA
      go_wp2_with fail
      refine (hZ _).out.mono ?_
      rintro e w1 ⟨rfl, rfl⟩
      clear hZ
      go_wp2_with (first
        | (at_range; refine map_range _ rfl _ 116 rfl 39 Tryz.underlying116 w.heap.size es.length g rfl (hLV0 _ _).leaves ?_; intro w0 cnt0 hcn0 hrg0 hg0 hs0))
      go_frame
      have e3 : (((wr.alloc (.cells #[.int .u64 (nil0 : Int)] 29)).alloc (.map #[] 0)).alloc (.cells #[.map (some (wr.heap.size + 1))] 99)).heap.size = wr.heap.size + 3 := by simp
      rw [e3] at hrg0 hs0 ⊢
      have hlv0 := (hLV0 29 99).kept hg0 (fun k hk => by cases hk)
      clear hLV0 hg0 hs0 e3 hmap hgrp hws hbl hsz hmm
      generalize wr.heap.size = n0 at *
      go_loopw [9] (fun _ wv => ∃ (left : Bytes → Bool) (cnt nM : Nat) (f : Bytes → Option Value), LV w wv es n0 nM g f ∧ RangeOf wv w.heap.size (n0 + 3) es.length g left cnt ∧ nM + cnt ≤ es.length ∧ Hid (LeafTo es left f)) (fun _ wv => wv.rangeLeft w.heap.size (n0 + 3))
      case atStart => exact ⟨_, cnt0, 0, _, hlv0, hrg0, by omega, ⟨fun q v hv => (by cases hv), fun x hx hl => by
          have h5 := (hlv0.rows.none_ (Bin.of x.1)).1 (by simpa using hl)
          have h6 : x ∈ at16 es (Bin.of x.1) := List.mem_filter.2 ⟨hx, beq_iff_eq.2 rfl⟩
          rw [h5] at h6
          simp at h6⟩⟩
      case round =>
        obtain ⟨left, cnt, nM, f, hlv, hrg, hcn, HL⟩ := hrel
        clear hlv0 hrg0
        go_wp2_with (first
          | (at_next; refine map_next _ rfl _ rfl w.heap.size (n0 + 3) es.length g left cnt rfl hrg ?_ ?_)
          | go_in)
        · intro hl0
          have HL' := Lib.hid (HL.out.done hl0)
          clear HL hl0 hrg
          go_wp2
          go_loopw [12] (fun i wz => ∃ (d nM : Nat) (f : Bytes → Option Value), d ≤ 16 ∧ i = .int .i64 ((d : Int) - 1) ∧ LV w wz es n0 nM g f ∧ nM ≤ (17 - d) * 1000 ∧ Hid (LevTo es d f)) (fun i _ => (intOf i + 1).toNat)
          case atStart => exact ⟨16, nM, f, Nat.le_refl _, rfl, hlv, by omega, HL'⟩
          case round =>
            clear hlv HL' hcn
            obtain ⟨d, nM, f, hd, rfl, hlv, hnm, HL⟩ := hrel
            by_cases hlt : 0 < d
            · obtain ⟨j, rfl⟩ : ∃ j, d = j + 1 := ⟨d - 1, by omega⟩
              rw [show ((j + 1 : Nat) : Int) - 1 = (j : Int) by omega]
              have hi0 : (0 : Int) ≤ (j : Int) := by omega
              have hi1 : (j : Int) < 16 := by omega
              have hhi := hlv.hi
              go_wp2_with (first
                | (at_range; refine map_range _ rfl _ 116 rfl 39 Tryz.underlying116 w.heap.size es.length g rfl hlv.leaves ?_; intro w0 cnt0 hcn0 hrg0 hg0 hs0))
              go_frame
              have hlv0 := hlv.kept hg0 (fun k hk => by cases hk)
              have HS : Hid (NodeTo es j (fun p => (g p).isSome) f) := NodeTo.start HL.out fun x hx => by
                cases hg : g (Bin.of x.1) with
                | some v => rfl
                | none =>
                  have h5 := (hlv.rows.none_ (Bin.of x.1)).1 hg
                  have h6 : x ∈ at16 es (Bin.of x.1) := List.mem_filter.2 ⟨hx, beq_iff_eq.2 rfl⟩
                  rw [h5] at h6
                  simp at h6
              clear hg0 hs0 hlv HL
              generalize wr.heap.size = r at *
              go_loopw [13] (fun _ wu => ∃ (left : Bytes → Bool) (cnt nM : Nat) (f : Bytes → Option Value), LV w wu es n0 nM g f ∧ RangeOf wu w.heap.size r es.length g left cnt ∧ nM + cnt ≤ (17 - j) * 1000 ∧ Hid (NodeTo es j left f)) (fun _ wu => wu.rangeLeft w.heap.size r)
              case atStart => exact ⟨_, cnt0, nM, f, hlv0, hrg0, by omega, HS⟩
              case round =>
                clear hlv0 hrg0 HS hcn0 hnm
                obtain ⟨left, cnt, nM, f, hlv, hrg, hcn, HN⟩ := hrel
                go_wp2_with (first
                  | (at_next; refine map_next _ rfl _ rfl w.heap.size r es.length g left cnt rfl hrg ?_ ?_)
                  | go_in)
                · intro hl0
                  have HL := Lib.hid (HN.out.done hl0)
                  clear HN hl0 hrg
                  go_wp2
                  go_roundw
                  case rel => exact ⟨j, nM, f, by omega, by go_num, hlv, by omega, HL⟩
                  case measure => simp [intOf]
                · intro p v w3 cnt3 hpl hlp hgp hrg3 hlt3 hg3 hs3 hen
                  have hlv3 := hlv.kept hg3 (fun k hk => by injection hk with hk; omega)
                  have hp16 : p.length = 16 := by
                    obtain ⟨x, _, hx⟩ := at16_mem (es := es) (p := p) (fun e => by rw [(hlv.rows.none_ p).2 e] at hgp; cases hgp)
                    rw [← hx, Bin.of_length]
                  have HC := Lib.hid hrg.left_eq
                  have hzU := zeroU
                  have hlo := hlv3.lo
                  have cM3 := hlv3.cM
                  have hq16 : (p.take j).length = j := by rw [List.length_take]; omega
                  clear hlv hrg hgp hlp
                  cases hf : f (p.take j) with
                  | some u =>
                    have HN' := Lib.hid (HN.out.have p (by rw [hf]; simp))
                    clear HN
                    go_wp2_with (first
                      | (at_lookup; refine map_look_some _ rfl _ _ 99 rfl 29 Tryz.underlying99 _ (hzU _) (n0 + 1) nM f rfl hlv3.marks (p.take j) (by unfold maxLen; omega) rfl _ hf ?_))
                    go_roundw
                    case rel => exact ⟨_, cnt3, nM, f, hlv3, hrg3, by omega, HN'⟩
                    case measure => rw [hrg3.left_eq, HC.out]; exact hlt3
                  | none =>
                    obtain ⟨X, hX⟩ : ∃ X : UInt8 → Nat, ∀ c, prefMark es (p.take j ++ [c]) = X c := ⟨_, fun _ => rfl⟩
                    have hql : ∀ c : UInt8, (p.take j ++ [c]).length = j + 1 := fun c => by rw [List.length_append, hq16, List.length_singleton]
                    have hcc : ∀ c : UInt8, f (p.take j ++ [c]) = some (.int .u64 (X c : Int)) ∨ f (p.take j ++ [c]) = none ∧ X c = nil0 := fun c => by
                      rw [← hX c]
                      exact HN.out.1.look (p.take j ++ [c]) (by rw [hql]; omega) (by rw [hql]; exact Nat.le_refl _)
                    have hXl : ∀ c, X c < 18446744073709551616 := fun c => by rw [← hX c]; exact Nat.lt_trans (pm_lt _ _ _) (by decide)
                    have hat := fun c => Lib.hid (levAt_c c (p.take j) w3.drew n0 nM f (by rw [hql]; unfold maxLen; omega) hlv3.marks hlv3.cM hlv3.cN _ (hcc c))
                    obtain ⟨nd, hnd0⟩ : ∃ nd, nodeOf (X 48) (X 49) = nd := ⟨_, rfl⟩
                    have hnd := fun w' => Lib.hid (refNode (X 48) (X 49) w' (hXl _) (hXl _))
                    obtain ⟨hh, hhe⟩ : ∃ hh, Hash.of nd = hh := ⟨_, rfl⟩
                    have hmk := fun w' => Lib.hid (refMark nd w' (by rw [← hnd0]; exact nodeOf_le _ _))
                    have HN' := Lib.hid (HN.out.put p hq16 (by omega) hh (by rw [hX, hX, hnd0, hhe]))
                    rw [hnd0] at hnd
                    rw [hhe] at hmk
                    clear HN hcc hXl hhe hnd0 hX hql
                    go_wp2_with (first
                      | (at_lookup; refine map_look_none _ rfl _ _ 99 rfl 29 Tryz.underlying99 _ (hzU _) (n0 + 1) nM f rfl hlv3.marks (p.take j) (by unfold maxLen; omega) rfl hf ?_))
                    go_region_with (first
                      | (go_at_call 75; refine (hat _).out.mono ?_; rintro e w5 ⟨rfl, rfl⟩)
                      | (go_at_call 76; refine (hnd _).out.mono ?_; rintro e w4 ⟨rfl, hb4⟩; have hb5 : Below w3.heap.size w3 w4 := below_chain (bdrew (Below.refl _ _)) hb4; have hlv4 := hlv3.grow hb5; have cM4 := hlv4.cM; have hrg4 := hrg3.below hb5; obtain ⟨w6, hrun6, hmap6, hgrow6⟩ := map_run hlv4.marks 99 29 Tryz.underlying99 (by unfold maxLen; omega) (p.take j) (by unfold maxLen; omega) (.int .u64 (hh : Int)))
                      | (go_at_call 9; refine (hmk _).out.mono ?_; rintro e w5 ⟨rfl, rfl⟩))
                    all_goals
                      have hrg6 := hrg4.kept hgrow6 (fun e => by injection e with e; omega) (fun e => by injection e with e; omega)
                      have hlv6 := hlv4.store hgrow6 hmap6
                      go_wp2
                      go_roundw
                      case rel => exact ⟨_, cnt3, nM + 1, _, hlv6, hrg6, by omega, HN'⟩
                      case measure => rw [hrg6.left_eq, HC.out]; exact hlt3
            · obtain rfl : d = 0 := by omega
              have cM3 := hlv.cM
              go_wp2
              go_ret
              exact ⟨n0 + 1, nM, f, rfl, hlv.marks, HL.out, hlv.below⟩
        · intro p v w3 cnt3 hpl hlp hgp hrg3 hlt3 hg3 hs3 hen
          have hlv3 := hlv.kept hg3 (fun k hk => by injection hk with hk; omega)
          have hp16 : p.length = 16 := by
            obtain ⟨x, _, hx⟩ := at16_mem (es := es) (p := p) (fun e => by rw [(hlv.rows.none_ p).2 e] at hgp; cases hgp)
            rw [← hx, Bin.of_length]
          have HL' := Lib.hid (HL.out.step p hp16)
          have hro := hlv3.rows.rows p v hgp
          obtain ⟨D, d, rfl⟩ := own_shapeE hro
          have hrow := Row.ownE hro
          have hll : (at16 es p).length ≤ 1000 := Nat.le_trans (List.length_filter_le _ _) hm
          have hlf := fun w' h => Lib.hid (refLeaf D d (at16 es p) w' hll (fun x hx => HE.out x (List.mem_filter.1 hx).1) h)
          have hmk := fun w' => Lib.hid (refMark (leafOf (at16 es p)) w' (leafOf_le _ hll (fun x hx => HE.out x (List.mem_filter.1 hx).1)))
          have hlo := hlv3.lo
          have HC := Lib.hid hrg.left_eq
          clear HL hro hlv hrg
          generalize leafOf (at16 es p) = lf at *
          generalize at16 es p = L at *
          generalize Hash.of lf = hh at *
          have cM3 := hlv3.cM
          go_wp2
          go_region_with (first
            | (go_at_call 74; refine (hlf w3.drew hrow).out.mono ?_; rintro e w4 ⟨rfl, hb4⟩; have hb5 : Below w3.heap.size w3 w4 := below_chain (bdrew (Below.refl _ _)) hb4; have hlv4 := hlv3.grow hb5; have cM4 := hlv4.cM; have hrg4 := hrg3.below hb5; obtain ⟨w6, hrun6, hmap6, hgrow6⟩ := map_run hlv4.marks 99 29 Tryz.underlying99 (by unfold maxLen; omega) p hpl (.int .u64 (hh : Int)))
            | (go_at_call 9; refine (hmk _).out.mono ?_; rintro e w5 ⟨rfl, rfl⟩))
          all_goals
            have hrg6 := hrg4.kept hgrow6 (fun e => by injection e with e; omega) (fun e => by injection e with e; omega)
            have hlv6 := hlv4.store hgrow6 hmap6
            go_wp2
            go_roundw
            case rel => exact ⟨_, cnt3, nM + 1, _, hlv6, hrg6, by omega, HL'⟩
            case measure => rw [hrg6.left_eq, HC.out]; exact hlt3
end Go.Proofs.YtjcockcilkiggaaGreat
/- The reference's PrefixMark returns the hash of a prefix in a book. It writes nothing that was there. -/
namespace Go.Proofs.YtjcockcilkiggaaGreat
open Go.RowKit Go.Maps

/-- What PrefixMark returns. -/
theorem refPrefix (A : Option Addr) (c : Nat) (es : List Ent) (q : Bytes) (w : World) (hm : es.length ≤ 1000) (hes : ∀ x ∈ es, x.1.length + x.2.length ≤ 596) (hq : q.length ≤ 16) (hA : Row w A (encells es)) (x : Nat) (hx : prefMark es q = x) :
    Calls Tryz.prog 30 #[.slice A es.length c, .string (S q)] w fun e w' => e = .returned (.int .u64 (x : Int)) ∧ Below w.heap.size w w' := by
  have hL := Lib.hid (refLevels A c es w hm hes hA)
  have hZ := fun w => Lib.hid (refMark_0 w)
  have hz := zeroU
  clear hA hes
  go_enter Tryz.func30, Tryz.ntmps30
  go_wp2_with fail
  refine hL.out.mono ?_
  rintro e w1 ⟨b, n, f, rfl, hmap, hlev, hb1⟩
  have hl := hlev.look q hq (Nat.zero_le _)
  rw [hx] at hl
  clear hlev hL hx
  rcases hl with hf | ⟨hf, hp⟩
  · go_wp2_with (first
      | (at_lookup; refine map_look_some _ rfl _ _ 99 rfl 29 Tryz.underlying99 _ (hz _) b n f rfl hmap q (by unfold maxLen; omega) rfl _ hf ?_))
    go_ret
    exact ⟨rfl, hb1⟩
  · rw [← hp] at hZ
    clear hp
    go_wp2_with (first
      | (at_lookup; refine map_look_none _ rfl _ _ 99 rfl 29 Tryz.underlying99 _ (hz _) b n f rfl hmap q (by unfold maxLen; omega) rfl hf ?_)
      | (go_at_call 9; refine (hZ _).out.mono ?_; rintro e w5 ⟨rfl, rfl⟩))
    go_ret
    exact ⟨rfl, hb1⟩
end Go.Proofs.YtjcockcilkiggaaGreat
