/- package change: sameHash returns whether a prefix has one hash in two books; onPath returns the names that have a path. They write nothing that was there. -/
import Derived.Test.YtmmmolbejfdamaaRefDiffer
import Derived.Test.YtmmmolbejfdamaaTreeAt
namespace Go.Proofs.Ytmmmolbejfdamaa
set_option maxRecDepth 100000
open Go.RowKit

set_option maxHeartbeats 400000 in
theorem sameHash (A B : Option Addr) (c d : Nat) (a b : List Ent) (q : Bytes) (w : World) (ha : Good a) (hb : Good b) (hq : goodPre q = true) (hA : Row w A (encells a)) (hB : Row w B (encells b)) (r : Bool) (hr : decide (prefMark a q = prefMark b q) = r) :
    Calls Try.prog 34 #[.slice A a.length c, .slice B b.length d, .string (S q)] w fun e w' => e = .returned (.bool r) ∧ Below w.heap.size w w' := by
  have h1 := fun (w : World) hA => Lib.hid (treeAt_yes A c a q w ha hq hA _ rfl)
  have h2 := fun (w : World) hB => Lib.hid (treeAt_yes B d b q w hb hq hB _ rfl)
  have hc : ((prefMark a q : Int) == (prefMark b q : Int)) = r := by
    rw [← hr]
    by_cases e : prefMark a q = prefMark b q
    · rw [e, decide_eq_true rfl, beq_self_eq_true]
    · rw [decide_eq_false e]
      exact beq_eq_false_iff_ne.2 (by omega)
  clear hr hq ha hb
  generalize prefMark a q = x at *
  generalize prefMark b q = y at *
  go_enter Try.func34, Try.ntmps34
  go_wp2_with fail
  refine (h1 _ hA).out.mono ?_
  rintro e w1 ⟨rfl, hb1⟩
  go_wp2_with fail
  refine (h2 _ (hB.below hb1)).out.mono ?_
  rintro e w2 ⟨rfl, hb2⟩
  have hb02 := below_chain hb1 hb2
  clear h1 h2 hA hB hb1 hb2
  go_wp2
  go_ret
  exact ⟨by rw [← hc]; rfl, hb02⟩

set_option maxHeartbeats 800000 in
theorem pathNames (A : Option Addr) (c : Nat) (ss : List Bytes) (p : Bytes) (w : World) (hm : ss.length ≤ 1000) (hs : ∀ s ∈ ss, Bin.name s = true) (hA : Row w A (scells ss)) :
    Calls Try.prog 35 #[.slice A ss.length c, .string (S p)] w (OwnGives (ss.filter fun n => Bin.of n == p) w) := by
  have HF0 : ∀ k, (h : k < ss.length) → Hid ((ss.take (k + 1)).filter (fun n => Bin.of n == p) = (ss.take k).filter (fun n => Bin.of n == p) ++ if (Bin.of ss[k] == p) = true then [ss[k]] else []) := fun k h => filter_step ss _ k h
  have HT : Hid ((ss.take ss.length).filter (fun n => Bin.of n == p) = ss.filter fun n => Bin.of n == p) := by show _ = _; rw [List.take_length]
  have HS := Lib.hid hs
  clear hs
  generalize (ss.filter fun n => Bin.of n == p) = T at *
  go_enter Try.func35, Try.ntmps35
  go_wp2
  go_loopw [5, 12] (fun v i wr => ∃ (k : Nat) (L : List Bytes), k ≤ ss.length ∧ i = .int .i64 k ∧ Hid ((ss.take k).filter (fun n => Bin.of n == p) = L) ∧ L.length ≤ k ∧ wr.ownsRow w.heap.size 9 1 v L.length (scells L) ∧ Below w.heap.size w wr) (fun _ i _ => ss.length - (intOf i).toNat)
  case atStart => exact ⟨0, [], Nat.zero_le _, rfl, rfl, Nat.le_refl _, World.ownsRow_nil _ _ _ _, Below.refl _ _⟩
  case round =>
    obtain ⟨k, L, hk, rfl, HL0, hLk, hown, hbl⟩ := hrel
    have hsz := hbl.size
    obtain ⟨D, e0, rfl⟩ := own_shape hown
    by_cases hlt : k < ss.length
    · obtain ⟨g, off, rfl, h1⟩ := (hA.below hbl).strD k hlt
      have hi0 : (0 : Int) ≤ (k : Int) := by omega
      have hi1 : (k : Int) < (ss.length : Int) := by omega
      have HM := HF0 k hlt
      rw [HL0.out] at HM
      have hO := fun w => Lib.hid (pathOf_yes ss[k] w (HS.out _ (List.getElem_mem hlt)))
      clear HF0 HT HL0 HS hA
      generalize ss[k] = s at *
      cases hc : Bin.of s == p with
      | true =>
        rw [hc, if_pos rfl] at HM
        generalize Bin.of s = q at *
        go_wp2_with fail
        refine (hO _).out.mono ?_
        rintro e w2 ⟨rfl, hb2⟩
        have hb02 := below_chain hbl hb2
        have hown2 := own_below hown hb2
        have hs02 := hb02.size
        clear hO hb2 hown hbl h1
        go_wp2_with (at_builtin; refine app_strs _ rfl _ _ rfl w.heap.size _ L rfl (hown2.alloc _) ⟨w2.heap.size, 0, none⟩ 1 [s] 1 rfl rfl (str_one w2 s _) (by simp; omega) (by simp; omega) ?_; intro v3 w3 hown3 hgrow3)
        have hb3 : Below w.heap.size w w3 := (hb02.alloc hs02 (.cells #[.string (S s)] 9)).grown hgrow3 (by simp; omega) (fun j hj => ((hown2.alloc (.cells #[.string (S s)] 9)).lt j hj).1)
        go_roundw
        case rel => exact ⟨k + 1, L ++ [s], by omega, by go_num, HM, by simp; omega, hown3, hb3⟩
        case measure => simp [intOf]; omega
      | false =>
        rw [hc, if_neg (by simp), List.append_nil] at HM
        generalize Bin.of s = q at *
        go_wp2_with fail
        refine (hO _).out.mono ?_
        rintro e w2 ⟨rfl, hb2⟩
        have hb02 := below_chain hbl hb2
        have hown2 := own_below hown hb2
        clear hO hb2 hown hbl h1
        go_wp2
        go_roundw
        case rel => exact ⟨k + 1, L, by omega, by go_num, HM, by omega, hown2, hb02⟩
        case measure => simp [intOf]; omega
    · obtain rfl : k = ss.length := by omega
      have HF : Hid (T = L) := by
        show T = L
        rw [← HT.out, HL0.out]
      clear HF0 HT HL0 HS
      go_wp2
      go_ret
      rw [HF.out]
      exact ⟨D, e0, rfl, hown, hbl⟩
end Go.Proofs.Ytmmmolbejfdamaa
