/- The reference's Differ returns the names in which two books differ, in order. It writes nothing that was there. -/
import Derived.Test.YtmmmolbejfdamaaDiffer
import Derived.Test.YtmmmolbejfdamaaSaid
import Derived.Deep.Onto
namespace Go.Proofs.Ytmmmolbejfdamaa
open Go.RowKit

theorem Row.strD {w : World} {A : Option Addr} {ss : List Bytes} (h : Row w A (scells ss)) (k : Nat) (hk : k < ss.length) : ∃ g off, A = some ⟨g, off, none⟩ ∧ w.cell? ⟨g, off + k, none⟩ = some (.string (S ss[k])) := by
  obtain ⟨g, off, e1, hc⟩ := h (by rw [scells_length]; omega)
  refine ⟨g, off, e1, ?_⟩
  rw [hc k (by rw [scells_length]; exact hk)]
  simp [scells]
theorem filter_step (l : List Bytes) (P : Bytes → Bool) (k : Nat) (h : k < l.length) : (l.take (k + 1)).filter P = (l.take k).filter P ++ if P l[k] = true then [l[k]] else [] := by
  rw [List.take_succ_eq_append_getElem h, List.filter_append, List.filter_cons, List.filter_nil]

/-- A list of strings in a row of the call's own. -/
def OwnGives (T : List Bytes) (w : World) (e : Ending) (w' : World) : Prop := ∃ D d, e = .returned (.slice D T.length d) ∧ w'.ownsRow w.heap.size 9 1 (.slice D T.length d) T.length (scells T) ∧ Below w.heap.size w w'

set_option maxRecDepth 100000 in
set_option maxHeartbeats 2000000 in
theorem refDifferO (A B : Option Addr) (c d : Nat) (a b : List Ent) (w : World) (hma : a.length ≤ 1000) (hmb : b.length ≤ 1000) (ha : ∀ x ∈ a, x.1.length ≤ maxLen) (hb : ∀ x ∈ b, x.1.length ≤ maxLen) (hA : Row w A (encells a)) (hB : Row w B (encells b)) :
    Calls Try.prog 19 #[.slice A a.length c, .slice B b.length d] w (OwnGives (differ a b) w) := by
  have HO := fun (D : Option Addr) (e : Nat) (w : World) hA => Lib.hid (refOrdered D e ((a ++ b).map (·.1)) w (by rw [List.length_map, List.length_append]; omega) (fun s hs => by
    obtain ⟨x, hx, rfl⟩ := List.mem_map.1 hs
    rcases List.mem_append.1 hx with h | h
    · exact ha x h
    · exact hb x h) hA)
  have hSa := fun (n : Bytes) (w : World) hA => Lib.hid (refStands A c a n w (by unfold maxLen; omega) hA _ rfl)
  have hSb := fun (n : Bytes) (w : World) hB => Lib.hid (refStands B d b n w (by unfold maxLen; omega) hB _ rfl)
  have HD : Hid (differ a b = ((Bin.srt ((a ++ b).map (·.1))).filter fun n => !(stands a n == stands b n))) := rfl
  have hsl := Bin.srt_le ((a ++ b).map (·.1))
  rw [List.length_map, List.length_append] at hsl
  clear ha hb
  go_enter Try.func19, Try.ntmps19
  go_wp2_with (first
    | (at_builtin; refine app_ents_any _ rfl _ _ rfl w.heap.size _ [] rfl (World.ownsRow_nil _ _ _ _) A c a rfl hA (by simp; omega) (Nat.le_refl _) ?_; intro v1 w1 hown1 hgrow1; rw [List.nil_append] at hown1; have hb1 : Below w.heap.size w w1 := (Below.refl _ w).grown hgrow1 (Nat.le_refl _) (fun k hk => by cases hk); have hBs := hB.below hb1; have hs1 := hb1.size)
    | (at_builtin; refine app_ents_any _ rfl _ _ rfl w.heap.size _ a rfl hown1 B d b rfl hBs (by omega) hs1 ?_; intro v2 w2 hown2 hgrow2; have hb2 : Below w.heap.size w w2 := hb1.grown hgrow2 hs1 (fun k hk => (hown1.lt k hk).1); obtain ⟨D2, d2, rfl⟩ := own_shapeE hown2; have hE2 := Row.ownE hown2; have hl2 : (a ++ b).length ≤ 2000 := (by rw [List.length_append]; omega)))
  go_loopw [5, 20] (fun v i wr => ∃ (k : Nat) (L : List Bytes), k ≤ a.length + b.length ∧ i = .int .i64 k ∧ Hid (L = ((a ++ b).map (·.1)).take k) ∧ Hid (L.length = k) ∧ wr.ownsRow w2.heap.size 9 1 v L.length (scells L) ∧ Below w2.heap.size w2 wr) (fun _ i _ => a.length + b.length - (intOf i).toNat)
  case atStart => exact ⟨0, [], Nat.zero_le _, rfl, rfl, rfl, World.ownsRow_nil _ _ _ _, Below.refl _ _⟩
  case round =>
    obtain ⟨k, L, hk, rfl, HL, HLl, hown, hbl⟩ := hrel
    have hsz := hbl.size
    have hs02 := hb2.size
    obtain ⟨D, e0, rfl⟩ := own_shape hown
    by_cases hlt : k < a.length + b.length
    · have hlt' : k < (a ++ b).length := by rw [List.length_append]; exact hlt
      obtain ⟨g, off, hDe, h1, h2⟩ := (hE2.below hbl).ent k hlt'
      have hi0 : (0 : Int) ≤ (k : Int) := by omega
      have hi1 : (k : Int) < (a.length : Int) + (b.length : Int) := by omega
      have HL' : Hid (L ++ [(a ++ b)[k].1] = ((a ++ b).map (·.1)).take (k + 1)) := by
        show _ = _
        rw [List.take_succ_eq_append_getElem (by rw [List.length_map]; exact hlt'), ← HL.out, List.getElem_map]
      have hLk : L.length ≤ 2000 := by rw [HLl.out]; omega
      generalize (a ++ b)[k].1 = na at *
      generalize (a ++ b)[k].2 = va at *
      have hown1 := hown.alloc (.cells #[.string (S na), .string (S va)] 34)
      have hbw : Below w2.heap.size w2 (wr.alloc (.cells #[.string (S na), .string (S va)] 34)) := hbl.alloc hsz _
      have k4 : (wr.alloc (.cells #[.string (S na), .string (S va)] 34)).cell? ⟨wr.heap.size, 0, none⟩ = some (.string (S na)) := by rw [World.cell?_alloc_new]; rfl
      subst hDe
      clear HL hE2 HO hSa hSb HD
      go_wp2_with (at_builtin; refine app_strs _ rfl _ _ rfl w2.heap.size _ L rfl (hown1.alloc _) ⟨wr.heap.size + 1, 0, none⟩ 1 [na] 1 rfl rfl (by simpa using str_one (wr.alloc (.cells #[.string (S na), .string (S va)] 34)) na _) (by simp; omega) (by simp; omega) ?_; intro v3 w3 hown3 hgrow3)
      have hb3 : Below w2.heap.size w2 w3 := (hbw.alloc hbw.size (.cells #[.string (S na)] 9)).grown hgrow3 (by simp; omega) (fun j hj => ((hown1.alloc (.cells #[.string (S na)] 9)).lt j hj).1)
      go_roundw
      case rel => exact ⟨k + 1, L ++ [na], by omega, by go_num, HL', by show _ = _; rw [List.length_append, HLl.out]; rfl, hown3, hb3⟩
      case measure => simp [intOf]; omega
    · have HL' : Hid (L = (a ++ b).map (·.1)) := by
        show L = _
        rw [HL.out, List.take_of_length_le (by rw [List.length_map, List.length_append]; omega)]
      have hrL := Row.own hown
      have hb0 : Below w.heap.size w wr := hb2.trans (hbl.mono hb2.size)
      clear HL HLl hown hE2 hown2 hgrow2 hgrow1 hown1
      have hO := HO D e0 wr (by rw [← HL'.out]; exact hrL)
      rw [← HL'.out] at hO HD hsl
      clear HO HL'
      go_wp2_with fail
      refine hO.out.mono ?_
      rintro e w5 ⟨D5, d5, rfl, hr5, hb5⟩
      have hb05 := below_chain hb0 hb5
      clear hO hb5 hb0 hbl hrL hb2 hb1
      generalize Bin.srt L = O at *
      go_wp2
      go_loopw [6, 33] (fun v i wr => ∃ (k : Nat) (M : List Bytes), k ≤ O.length ∧ i = .int .i64 k ∧ Hid (M = (O.take k).filter fun n => !(stands a n == stands b n)) ∧ M.length ≤ k ∧ wr.ownsRow w5.heap.size 9 1 v M.length (scells M) ∧ Below w5.heap.size w5 wr) (fun _ i _ => O.length - (intOf i).toNat)
      case atStart => exact ⟨0, [], Nat.zero_le _, rfl, rfl, Nat.le_refl _, World.ownsRow_nil _ _ _ _, Below.refl _ _⟩
      case round =>
        obtain ⟨k, M, hk, rfl, HM, hMl, hown, hbl⟩ := hrel
        have hsz := hbl.size
        obtain ⟨D6, e6, rfl⟩ := own_shape hown
        have hb0r : Below w.heap.size w wr := below_chain hb05 hbl
        by_cases hlt : k < O.length
        · obtain ⟨g, off, hDe, h1⟩ := (hr5.below hbl).strD k hlt
          have hi0 : (0 : Int) ≤ (k : Int) := by omega
          have hi1 : (k : Int) < (O.length : Int) := by omega
          have HM' : Hid ((O.take (k + 1)).filter (fun n => !(stands a n == stands b n)) = M ++ if (!(stands a O[k] == stands b O[k])) = true then [O[k]] else []) := by
            show _ = _
            rw [filter_step O _ k hlt, ← HM.out]
          have ha := fun w hA => hSa O[k] w hA
          have hb := fun w hB => hSb O[k] w hB
          generalize O[k] = n at *
          have hsame : (stands a n = stands b n ∧ ((stands a n).isSome == (stands b n).isSome) = true ∧ ((stands a n).getD [] == (stands b n).getD []) = true) ∨ (¬ stands a n = stands b n ∧ (((stands a n).isSome == (stands b n).isSome) = false ∨ ((stands a n).isSome == (stands b n).isSome) = true ∧ ((stands a n).getD [] == (stands b n).getD []) = false)) := by
            cases stands a n <;> cases stands b n <;> simp
            exact Classical.em _
          clear HM hSa hSb
          subst hDe
          have hO2 : O.length ≤ 2000 := by omega
          rcases hsame with ⟨he, c1, c2⟩ | ⟨he, hc⟩
          · rw [he, beq_self_eq_true] at HM'
            simp only [Bool.not_true, Bool.false_eq_true, if_false, List.append_nil] at HM'
            clear he
            generalize (stands a n).isSome = ia at *
            generalize (stands b n).isSome = ib at *
            generalize (stands a n).getD [] = xa at *
            generalize (stands b n).getD [] = xb at *
            have c1b : (ia != ib) = false := by rw [bne, c1]; rfl
            go_wp2_with fail
            refine (ha _ (hA.below hb0r)).out.mono ?_
            rintro e w6 ⟨rfl, hb6⟩
            go_wp2_with fail
            refine (hb _ (hB.below (below_chain hb0r hb6))).out.mono ?_
            rintro e w7 ⟨rfl, hb7⟩
            have hbr7 := below_chain hb6 hb7
            have hb57 : Below w5.heap.size w5 w7 := hbl.trans (hbr7.mono hsz)
            have hown7 := own_below hown hbr7
            have hs7 := hb57.size
            clear ha hb hown hb6 hb7 hbl
            go_wp2
            go_roundw
            case rel => exact ⟨k + 1, M, by omega, by go_num, HM'.out.symm, by omega, hown7, hb57⟩
            case measure => simp [intOf]; omega
          · rw [beq_eq_false_iff_ne.2 he] at HM'
            simp only [Bool.not_false, if_true] at HM'
            clear he
            generalize (stands a n).isSome = ia at *
            generalize (stands b n).isSome = ib at *
            generalize (stands a n).getD [] = xa at *
            generalize (stands b n).getD [] = xb at *
            rcases hc with c1 | ⟨c1, c2⟩
            · have c1b : (ia != ib) = true := by rw [bne, c1]; rfl
              go_wp2_with fail
              refine (ha _ (hA.below hb0r)).out.mono ?_
              rintro e w6 ⟨rfl, hb6⟩
              go_wp2_with fail
              refine (hb _ (hB.below (below_chain hb0r hb6))).out.mono ?_
              rintro e w7 ⟨rfl, hb7⟩
              have hbr7 := below_chain hb6 hb7
              have hb57 : Below w5.heap.size w5 w7 := hbl.trans (hbr7.mono hsz)
              have hown7 := own_below hown hbr7
              have hs7 := hb57.size
              clear ha hb hown hb6 hb7 hbl
              go_wp2_with (at_builtin; refine app_strs _ rfl _ _ rfl w5.heap.size _ M rfl (hown7.alloc _) ⟨w7.heap.size, 0, none⟩ 1 [n] 1 rfl rfl (str_one w7 n _) (by simp; omega) (by simp; omega) ?_; intro v3 w3 hown3 hgrow3)
              have hb3 : Below w5.heap.size w5 w3 := (hb57.alloc hb57.size (.cells #[.string (S n)] 9)).grown hgrow3 (by simp; omega) (fun j hj => ((hown7.alloc (.cells #[.string (S n)] 9)).lt j hj).1)
              go_roundw
              case rel => exact ⟨k + 1, M ++ [n], by omega, by go_num, HM'.out.symm, by simp; omega, hown3, hb3⟩
              case measure => simp [intOf]; omega
            · have c1b : (ia != ib) = false := by rw [bne, c1]; rfl
              go_wp2_with fail
              refine (ha _ (hA.below hb0r)).out.mono ?_
              rintro e w6 ⟨rfl, hb6⟩
              go_wp2_with fail
              refine (hb _ (hB.below (below_chain hb0r hb6))).out.mono ?_
              rintro e w7 ⟨rfl, hb7⟩
              have hbr7 := below_chain hb6 hb7
              have hb57 : Below w5.heap.size w5 w7 := hbl.trans (hbr7.mono hsz)
              have hown7 := own_below hown hbr7
              have hs7 := hb57.size
              clear ha hb hown hb6 hb7 hbl
              go_wp2_with (at_builtin; refine app_strs _ rfl _ _ rfl w5.heap.size _ M rfl (hown7.alloc _) ⟨w7.heap.size, 0, none⟩ 1 [n] 1 rfl rfl (str_one w7 n _) (by simp; omega) (by simp; omega) ?_; intro v3 w3 hown3 hgrow3)
              have hb3 : Below w5.heap.size w5 w3 := (hb57.alloc hb57.size (.cells #[.string (S n)] 9)).grown hgrow3 (by simp; omega) (fun j hj => ((hown7.alloc (.cells #[.string (S n)] 9)).lt j hj).1)
              go_roundw
              case rel => exact ⟨k + 1, M ++ [n], by omega, by go_num, HM'.out.symm, by simp; omega, hown3, hb3⟩
              case measure => simp [intOf]; omega
        · have HM' : Hid (differ a b = M) := by
            show _ = M
            rw [HD.out, HM.out, List.take_of_length_le (by omega)]
          have hrM := hown.mono hb05.size
          go_wp2
          go_ret
          rw [HM'.out]
          exact ⟨D6, e6, rfl, hrM, hb0r⟩
theorem refDiffer (A B : Option Addr) (c d : Nat) (a b : List Ent) (w : World) (hma : a.length ≤ 1000) (hmb : b.length ≤ 1000) (ha : ∀ x ∈ a, x.1.length ≤ maxLen) (hb : ∀ x ∈ b, x.1.length ≤ maxLen) (hA : Row w A (encells a)) (hB : Row w B (encells b)) :
    Calls Try.prog 19 #[.slice A a.length c, .slice B b.length d] w (ListGives (differ a b) w) :=
  (refDifferO A B c d a b w hma hmb ha hb hA hB).mono fun _ _ ⟨D, d, h1, h2, h3⟩ => ⟨D, d, h1, Row.own h2, h3⟩
end Go.Proofs.Ytmmmolbejfdamaa
