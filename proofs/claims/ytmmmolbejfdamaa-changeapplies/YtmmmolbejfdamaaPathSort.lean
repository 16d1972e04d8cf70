/- path.Sort returns the distinct names in their order, or ErrForm where one is no name; it writes nothing that was there. -/
import Derived.Test.YtmmmolbejfdamaaPath
import Derived.Test.YtmmmolbejfdamaaSorts
namespace Go.Proofs.Ytmmmolbejfdamaa
open Go.RowKit

/-- What Sort returns. -/
def SortGives (ss : List Bytes) (w : World) (e : Ending) (w' : World) : Prop :=
  ((∀ s ∈ ss, Bin.name s = true) ∧ ∃ A c, e = .returned (.tuple #[.slice A (Bin.srt ss).length c, .int .i64 0]) ∧ Row w' A (scells (Bin.srt ss)) ∧ Below w.heap.size w w') ∨
  ((∃ s ∈ ss, Bin.name s = false) ∧ e = .returned (.tuple #[.slice none 0 0, .int .i64 3]) ∧ Below w.heap.size w w')

set_option maxRecDepth 100000 in
set_option maxHeartbeats 800000 in
theorem pathSort (A : Option Addr) (c : Nat) (ss : List Bytes) (w : World) (hm : ss.length * 16 ≤ 140737488351232) (hs : ∀ s ∈ ss, s.length ≤ maxLen) (hA : Row w A (scells ss)) :
    Calls Try.prog 31 #[.slice A ss.length c] w (SortGives ss w) := by
  go_enter Try.func31, Try.ntmps31
  go_wp2
  go_loopw [4, 14] (fun o i wr => ∃ (k : Nat) (ps : List Bytes), k ≤ ss.length ∧ i = .int .i64 k ∧ ps.length = k ∧ Hid (ps = (ss.take k).map Bin.key) ∧ wr.ownsRow w.heap.size 9 1 o ps.length (scells ps) ∧ Hid (∀ s ∈ ss.take k, Bin.name s = true) ∧ Below w.heap.size w wr) (fun _ i _ => ss.length - (intOf i).toNat)
  case atStart => exact ⟨0, [], Nat.zero_le _, rfl, rfl, rfl, World.ownsRow_nil _ _ _ _, (by show ∀ s ∈ ss.take 0, _; simp), Below.refl _ _⟩
  case round =>
    obtain ⟨k, ps, hk, rfl, hpk, HP, hown, HN, hbl⟩ := hrel
    have hsz := hbl.size
    obtain ⟨B, cb, rfl⟩ := own_shape hown
    have hpl : ps.length ≤ k := by omega
    have HPK := Lib.hid hpk
    clear hpk
    by_cases hlt : k < ss.length
    · obtain ⟨g, off, rfl, hc⟩ := (hA.below hbl) (by rw [scells_length]; omega)
      have h1 := hc k (by rw [scells_length]; exact hlt)
      simp only [scells, List.getElem_map] at h1
      have hi0 : (0 : Int) ≤ (k : Int) := by omega
      have hi1 : (k : Int) < (ss.length : Int) := by omega
      have hsl := hs _ (List.getElem_mem hlt)
      clear hA hc
      cases hnm : Bin.name ss[k] with
      | false =>
        have hO := fun w => Lib.hid (pathOf_no ss[k] w hsl hnm)
        have HX : Hid (∃ s ∈ ss, Bin.name s = false) := ⟨_, List.getElem_mem hlt, hnm⟩
        clear hnm
        generalize ss[k] = s at *
        go_wp2_with fail
        refine (hO _).out.mono ?_
        rintro e w1 ⟨rfl, rfl⟩
        go_wp2
        go_ret2
        exact .inr ⟨HX.out, rfl, hbl⟩
      | true =>
        have hO := fun w => Lib.hid (pathOf_yes ss[k] w hnm)
        have HN' : Hid (∀ s ∈ ss.take (k + 1), Bin.name s = true) := by
          show ∀ s ∈ ss.take (k + 1), Bin.name s = true
          intro s hs'
          rw [List.take_succ_eq_append_getElem hlt] at hs'
          rcases List.mem_append.1 hs' with h | h
          · exact HN.out s h
          · rw [List.mem_singleton.1 h]; exact hnm
        have HP' : Hid (ps ++ [Bin.of ss[k] ++ ss[k]] = (ss.take (k + 1)).map Bin.key) := by
          show ps ++ [Bin.of ss[k] ++ ss[k]] = (ss.take (k + 1)).map Bin.key
          rw [List.take_succ_eq_append_getElem hlt, List.map_append, ← HP.out]
          rfl
        have hp16 := Bin.of_length ss[k]
        have hs12 := (Bin.name_len hnm).2
        clear hnm HN HP
        generalize Bin.of ss[k] = p at *
        generalize ss[k] = s at *
        go_wp2_with fail
        refine (hO _).out.mono ?_
        rintro e w1 ⟨rfl, hb1⟩
        have hown1 := own_below hown hb1
        have hbl1 := below_chain hbl hb1
        have hsz1 := hbl1.size
        clear hO hown hb1
        go_wp2_with (first
          | (at_builtin; refine app_strs _ rfl _ _ rfl w.heap.size _ ps rfl (hown1.alloc _) ⟨w1.heap.size, 0, none⟩ 1 [p ++ s] 1 rfl rfl (str_one w1 (p ++ s) _) (by simp; omega) (by simp; omega) ?_; intro v1 w2 hown2 hgrow2))
        have hb2 : Below w.heap.size w w2 := (hbl1.alloc hsz1 _).grown hgrow2 (by simp; omega) (fun g' hg' => (hown1.lt g' hg').1)
        go_roundw
        case rel => exact ⟨k + 1, ps ++ [p ++ s], by omega, by go_num, by simp [HPK.out], HP', hown2, HN', hb2⟩
        case measure => simp [intOf]; omega
    · obtain rfl : k = ss.length := by omega
      have hall : Hid (∀ s ∈ ss, Bin.name s = true) := by
        have := HN.out
        rwa [List.take_length] at this
      have HK : Hid (Lib.compact (ps.mergeSort Bin.leB) = (Bin.srt ss).map Bin.key) := by
        show _ = _
        rw [HP.out, List.take_length, Bin.srt_keys]
      have hle := Bin.srt_le ss
      clear HN HP hs hA
      have hS := Lib.hid (sortStrs _ _ _ _ _ hown (by omega))
      clear hpl
      go_wp2_with fail
      refine hS.out.mono ?_
      rintro e w1 ⟨rfl, hown1, hgr1⟩
      have hbl1 : Below w.heap.size w w1 := hbl.grown hgr1 hsz (fun g' hg' => (hown.lt g' hg').1)
      have hsz1 := hbl1.size
      clear hS hown hgr1 hbl hsz
      have hC := Lib.hid (compactStrs _ _ _ _ _ hown1 (by rw [List.length_mergeSort, HPK.out]; omega))
      go_wp2_with fail
      refine hC.out.mono ?_
      rintro e w2 ⟨D, cd, rfl, hrow2, hgr2⟩
      have hbl2 : Below w.heap.size w w2 := hbl1.grown hgr2 hsz1 (fun g' hg' => (hown1.lt g' hg').1)
      have hsz2 := hbl2.size
      clear hC hown1 hgr2 hbl1 hsz1
      rw [HK.out] at hrow2 ⊢
      rw [List.length_map]
      clear HK HPK
      generalize ht : Bin.srt ss = T at *
      have HT := Lib.hid ht
      clear ht
      go_wp2
      go_loopw [9, 38] (fun o i wr => ∃ (k : Nat) (qs : List Bytes), k ≤ T.length ∧ i = .int .i64 k ∧ Hid (qs = T.take k) ∧ wr.ownsRow w2.heap.size 9 1 o qs.length (scells qs) ∧ Below w2.heap.size w2 wr) (fun _ i _ => T.length - (intOf i).toNat)
      case atStart => exact ⟨0, [], Nat.zero_le _, rfl, rfl, World.ownsRow_nil _ _ _ _, Below.refl _ _⟩
      case round =>
        obtain ⟨k, qs, hk, rfl, HQ, hown, hbl⟩ := hrel
        have hsz := hbl.size
        obtain ⟨E, ce, rfl⟩ := own_shape hown
        by_cases hlt : k < T.length
        · obtain ⟨g, off, rfl, hc⟩ := (hrow2.below hbl) (by rw [scells_length, List.length_map]; omega)
          have h1 := hc k (by rw [scells_length, List.length_map]; exact hlt)
          simp only [scells, List.getElem_map] at h1
          have hi0 : (0 : Int) ≤ (k : Int) := by omega
          have hi1 : (k : Int) < (T.length : Int) := by omega
          have hql : qs.length ≤ k := by rw [HQ.out, List.length_take]; omega
          have HQ' : Hid (qs ++ [(Bin.key T[k]).drop 16] = T.take (k + 1)) := by
            show qs ++ [(Bin.key T[k]).drop 16] = T.take (k + 1)
            rw [List.take_succ_eq_append_getElem hlt, ← HQ.out, Bin.key_drop]
          have hkl : 16 ≤ (Bin.key T[k]).length := by rw [Bin.key_length]; omega
          clear hc hrow2 HQ
          generalize Bin.key T[k] = x at *
          go_wp2_with (first
            | (at_builtin; refine app_strs _ rfl _ _ rfl w2.heap.size _ qs rfl (hown.alloc _) ⟨wr.heap.size, 0, none⟩ 1 [x.drop 16] 1 rfl rfl (str_one wr (x.drop 16) _) (by simp; omega) (by simp; omega) ?_; intro v1 w3 hown3 hgrow3))
          have hb3 : Below w2.heap.size w2 w3 := (hbl.alloc hsz _).grown hgrow3 (by simp; omega) (fun g' hg' => (hown.lt g' hg').1)
          go_roundw
          case rel => exact ⟨k + 1, qs ++ [x.drop 16], by omega, by go_num, HQ', hown3, hb3⟩
          case measure => simp [intOf]; omega
        · obtain rfl : k = T.length := by omega
          obtain rfl : qs = T := by have := HQ.out; rwa [List.take_length] at this
          go_wp2
          go_ret2
          refine .inl ⟨hall.out, E, ce, ?_, ?_, below_chain hbl2 hbl⟩
          · rw [HT.out]; rfl
          · rw [HT.out]; exact Row.own hown
end Go.Proofs.Ytmmmolbejfdamaa
