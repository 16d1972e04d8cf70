/- Where two books differ in a name that the search does not find, two unlike preimages on the name's way have one hash; the check 'beneath' of the law ChangeFinds finds them. It writes nothing that was there. -/
import Derived.Test.YtmmmolbejfdamaaLook
import Derived.Test.YtmmmolbejfdamaaClash
import Derived.Test.YtmmmolbejfdamaaProofSaid
import Derived.Test.YtmmmolbejfdamaaAlike
import Derived.Test.YtmmmolbejfdamaaGood
namespace Go.Proofs.Ytmmmolbejfdamaa
set_option maxRecDepth 100000
open Go.RowKit

theorem bit_cases {c : UInt8} (h : Bin.bitByte c = true) : c = 48 ∨ c = 49 := by
  unfold Bin.bitByte at h
  rw [Bool.or_eq_true, beq_iff_eq, beq_iff_eq] at h
  rcases h with h | h
  · exact .inl (UInt8.toNat_inj.1 h)
  · exact .inr (UInt8.toNat_inj.1 h)
/-- A name that differs and is not found: on its way there is a prefix with one hash in both books. -/
theorem missed (a b : List Ent) (n : Bytes) (hn : n ∈ differ a b) (k : Nat) (p : Bytes) (hk : p.length + k = 16) (hp : (Bin.of n).take p.length = p) (hf : n ∉ found a b k p) :
    ∃ m, m ≤ 16 ∧ prefMark a ((Bin.of n).take m) = prefMark b ((Bin.of n).take m) := by
  induction k generalizing p with
  | zero =>
    rw [found] at hf
    by_cases he : prefMark a p = prefMark b p
    · exact ⟨p.length, by omega, by rw [hp]; exact he⟩
    · rw [if_neg he] at hf
      refine absurd (List.mem_filter.2 ⟨hn, ?_⟩) hf
      rw [beq_iff_eq]
      have := Bin.of_length n
      rw [List.take_of_length_le (by omega)] at hp
      exact hp
  | succ k ih =>
    rw [found] at hf
    by_cases he : prefMark a p = prefMark b p
    · exact ⟨p.length, by omega, by rw [hp]; exact he⟩
    · rw [if_neg he, List.mem_append, not_or] at hf
      have hl := Bin.of_length n
      have hlt : p.length < (Bin.of n).length := by omega
      have hb : Bin.bitByte (Bin.of n)[p.length] = true := by
        have := Bin.low_bits 16 (Hash.of n)
        rw [List.all_eq_true] at this
        exact this _ (List.getElem_mem hlt)
      have ht : (Bin.of n).take (p.length + 1) = p ++ [(Bin.of n)[p.length]] := by rw [List.take_succ_eq_append_getElem hlt, hp]
      have e : ∀ c : UInt8, (p ++ [c]).length + k = 16 := fun c => by rw [List.length_append, List.length_singleton]; omega
      rcases bit_cases hb with h | h
      · rw [h] at ht
        exact ih _ (e 48) (by rw [List.length_append, List.length_singleton]; exact ht) hf.1
      · rw [h] at ht
        exact ih _ (e 49) (by rw [List.length_append, List.length_singleton]; exact ht) hf.2
/-- One preimage higher up, the same in both proofs: the hashes below it are the same. -/
theorem climb_down (n : Bytes) (es es' : List Ent) (ss ss' : List Nat) (hp : PGood n es ss) (hq : PGood n es' ss') (i : Nat) (hi : i < 16) (he : climb n es ss (i + 1) = climb n es' ss' (i + 1)) : Hash.of (climb n es ss i) = Hash.of (climb n es' ss' i) := by
  have b1 : ∀ l, Hash.of l < 18446744073709551616 := fun l => Nat.lt_trans (Hash.of_lt l) (by decide)
  have b2 : ∀ ss : List Nat, ss.length = 16 → lowM ss = true → ss[i]?.getD 0 < 18446744073709551616 := fun ss hl hw => by
    rw [List.getElem?_eq_getElem (show i < ss.length by omega), Option.getD_some]
    exact Nat.lt_trans (lowM_get hw i (by omega)) (by decide)
  rw [climb, climb, up, up] at he
  by_cases hb : (Bin.of n)[15 - i]? = some 48
  · rw [if_pos hb, if_pos hb] at he
    exact (nodeOf_inj (b1 _) (b2 ss hp.len hp.low) (b1 _) (b2 ss' hq.len hq.low) he).1
  · rw [if_neg hb, if_neg hb] at he
    exact (nodeOf_inj (b2 ss hp.len hp.low) (b1 _) (b2 ss' hq.len hq.low) (b1 _) he).2
theorem climb_alike (n : Bytes) (es es' : List Ent) (ss ss' : List Nat) (hp : PGood n es ss) (hq : PGood n es' ss') (hne : stands es n ≠ stands es' n) (i : Nat) (hi : i ≤ 16) (he : Hash.of (climb n es ss i) = Hash.of (climb n es' ss' i)) :
    ∃ j, j ≤ 16 ∧ alikeB (climb n es ss j) (climb n es' ss' j) = true := by
  induction i with
  | zero =>
    by_cases h : climb n es ss 0 = climb n es' ss' 0
    · exact absurd (by rw [leafOf_inj hq.book h]) hne
    · exact ⟨0, by omega, (alikeB_iff _ _).2 ⟨h, he⟩⟩
  | succ i ih =>
    by_cases h : climb n es ss (i + 1) = climb n es' ss' (i + 1)
    · exact ih (by omega) (climb_down n es es' ss ss' hp hq i (by omega) h)
    · exact ⟨i + 1, hi, (alikeB_iff _ _).2 ⟨h, he⟩⟩
/-- Two books, a name in which they differ and that the search does not find: a collision on its way. -/
theorem beneath_way {a b : List Ent} (ha : Good a) (hb : Good b) {n : Bytes} (hnm : Bin.name n = true) (hn : n ∈ differ a b) (hf : n ∉ foundAt a b []) :
    ∃ j, j ≤ 16 ∧ alikeB (climb n (at16 a (Bin.of n)) (sidesOf a n) j) (climb n (at16 b (Bin.of n)) (sidesOf b n) j) = true := by
  obtain ⟨m, hm, he⟩ := missed a b n hn 16 [] rfl rfl hf
  refine climb_alike n _ _ _ _ (proofOf_good ha hnm) (proofOf_good hb hnm) ?_ (16 - m) (by omega) ?_
  · rw [stands_at16, stands_at16]
    exact (differ_mem a b n).1 hn
  · rw [climb_of a n (16 - m) (by omega), climb_of b n (16 - m) (by omega), show 16 - (16 - m) = m by omega]
    exact he
theorem psaid_short {n : Bytes} {es : List Ent} {ss : List Nat} (hp : PGood n es ss) : ∀ s ∈ psaid n es ss, s.length ≤ maxLen := fun s hs => by
  rw [psaid, List.mem_map] at hs
  obtain ⟨i, _, rfl⟩ := hs
  have := hp.book.len
  exact climb_le n es ss (by omega) (good_5 hp.book) i
theorem psaid_get (n : Bytes) (es : List Ent) (ss : List Nat) (i : Nat) (h : i < (psaid n es ss).length) : (psaid n es ss)[i] = climb n es ss i := by
  simp [psaid]
theorem alike_at (T T' : List Bytes) (f f' : Nat → Bytes) (hT : T.length = 17) (hT' : T'.length = 17) (hf : ∀ i (h : i < T.length), T[i] = f i) (hf' : ∀ i (h : i < T'.length), T'[i] = f' i) (hal : ∃ j, j ≤ 16 ∧ alikeB (f j) (f' j) = true) :
    ∃ j, ∃ (h : j < T.length) (h' : j < T'.length), alikeB T[j] T'[j] = true := by
  obtain ⟨j, hj, he⟩ := hal
  exact ⟨j, by omega, by omega, by rw [hf, hf']; exact he⟩

set_option maxHeartbeats 1000000 in
theorem beneath (n : Bytes) (es es' : List Ent) (ss ss' : List Nat) (A B A' B' : Option Addr) (c d c' d' : Nat) (w : World) (hp : PGood n es ss) (hq : PGood n es' ss')
    (hA : Row w A (encells es)) (hB : Row w B (mcells ss)) (hA' : Row w A' (encells es')) (hB' : Row w B' (mcells ss')) (hal : ∃ j, j ≤ 16 ∧ alikeB (climb n es ss j) (climb n es' ss' j) = true) :
    Calls Try.prog 25 #[.agg #[.string (S n), .slice A es.length c, .slice B ss.length d], .agg #[.string (S n), .slice A' es'.length c', .slice B' ss'.length d']] w fun e w' => e = .returned (.bool true) ∧ Below w.heap.size w w' := by
  have hb0 : Below w.heap.size w ((w.alloc (.cells #[.string (S n), .slice A es.length c, .slice B ss.length d] 53)).alloc (.cells #[.string (S n), .slice A' es'.length c', .slice B' ss'.length d'] 53)) := balloc (balloc (Below.refl _ w) _) _
  have hx0 := (PBox.new w n A B es.length c ss.length d 53).alloc (.cells #[.string (S n), .slice A' es'.length c', .slice B' ss'.length d'] 53)
  have hy0 := PBox.new (w.alloc (.cells #[.string (S n), .slice A es.length c, .slice B ss.length d] 53)) n A' B' es'.length c' ss'.length d' 53
  have hsz : (w.alloc (.cells #[.string (S n), .slice A es.length c, .slice B ss.length d] 53)).heap.size = w.heap.size + 1 := by simp
  rw [hsz] at hy0
  clear hsz
  have h1 := fun (w : World) hA hB => Lib.hid (proofSaid_yes n es ss A B c d w hp hA hB)
  have h2 := fun (w : World) hA hB => Lib.hid (proofSaid_yes n es' ss' A' B' c' d' w hq hA hB)
  have hG := fun w g hg => Lib.hid (goods2 0 0 w g 24 hg true rfl)
  have HL := Lib.hid (psaid_length n es ss)
  have HL' := Lib.hid (psaid_length n es' ss')
  have HS := Lib.hid (psaid_short hp)
  have HS' := Lib.hid (psaid_short hq)
  have HJ := Lib.hid (alike_at (psaid n es ss) (psaid n es' ss') _ _ (psaid_length n es ss) (psaid_length n es' ss') (psaid_get n es ss) (psaid_get n es' ss') hal)
  clear hp hq hal
  generalize psaid n es ss = T at *
  generalize psaid n es' ss' = T' at *
  have c17 : ((T.length : Int) != (T'.length : Int)) = false := by rw [HL.out, HL'.out]; rfl
  go_enter Try.func25, Try.ntmps25
  obtain ⟨x0, x1, x2⟩ := hx0
  have hx0 := PBox.mk x0 x1 x2
  obtain ⟨y0, y1, y2⟩ := hy0
  have hy0 := PBox.mk y0 y1 y2
  go_wp2_with fail
  refine (h1 _ (hA.below hb0) (hB.below hb0)).out.mono ?_
  rintro e w1 ⟨D1, d1, rfl, hr1, hb1⟩
  have hb01 := below_chain hb0 hb1
  obtain ⟨z0, z1, z2⟩ := hy0.below hb1
  clear h1 hb1 hb0 hx0 hy0 x0 x1 x2 y0 y1 y2 hA hB
  go_wp2_with fail
  refine (h2 _ (hA'.below hb01) (hB'.below hb01)).out.mono ?_
  rintro e w2 ⟨D2, d2, rfl, hr2, hb2⟩
  have hb02 := below_chain hb01 hb2
  have hr12 := hr1.below hb2
  clear h2 hb2 hb01 hA' hB' z0 z1 z2 hr1
  go_wp2_with fail
  refine (hG _ _ rfl).out.mono ?_
  rintro e w3 ⟨rfl, hw3⟩
  have hb3 : Below w2.heap.size w2 w3 := by rw [← hw3]; exact balloc (Below.refl _ _) _
  have hb03 := below_chain hb02 hb3
  have hr13 := hr12.below hb3
  have hr23 := hr2.below hb3
  clear hG hw3 hb3 hb02 hr12 hr2
  go_wp2_with fail
  go_loopw [34] (fun i wr => ∃ k : Nat, k ≤ T.length ∧ i = .int .i64 k ∧ Below w3.heap.size w3 wr ∧ Hid (∀ j, j < k → ∀ (h : j < T.length) (h' : j < T'.length), alikeB T[j] T'[j] = false)) (fun i _ => T.length - (intOf i).toNat)
  case atStart => exact ⟨0, Nat.zero_le _, rfl, Below.refl _ _, fun j hj => absurd hj (Nat.not_lt_zero _)⟩
  case round =>
    obtain ⟨k, hk, rfl, hbl, HP⟩ := hrel
    have hb0r := below_chain hb03 hbl
    have hTT : T'.length = T.length := HL'.out.trans HL.out.symm
    have hT17 : T.length ≤ 1000 := by rw [HL.out]; omega
    by_cases hlt : k < T.length
    · have hlt' : k < T'.length := by omega
      obtain ⟨g, off, rfl, q1⟩ := (hr13.below hbl).strC k hlt
      obtain ⟨g', off', rfl, q2⟩ := (hr23.below hbl).strC k hlt'
      have hi0 : (0 : Int) ≤ (k : Int) := by omega
      have hi1 : (k : Int) < (T.length : Int) := by omega
      have hi2 : (k : Int) < (T'.length : Int) := by omega
      have hal := fun w => Lib.hid (markAlike T[k] T'[k] w (HS.out _ (List.getElem_mem hlt)) (HS'.out _ (List.getElem_mem hlt')) _ rfl)
      have HP' : Hid (alikeB T[k] T'[k] = false → ∀ j, j < k + 1 → ∀ (h : j < T.length) (h' : j < T'.length), alikeB T[j] T'[j] = false) := by
        show _ → _
        intro e j hj h h'
        rcases Nat.lt_or_ge j k with hjk | hjk
        · exact HP.out j hjk h h'
        · obtain rfl : j = k := by omega
          exact e
      clear HP HJ HS HS' hr13 hr23 HL HL' hTT
      generalize T[k] = s at *
      generalize T'[k] = t at *
      cases hb : alikeB s t with
      | true =>
        rw [hb] at hal
        clear HP' hb
        go_wp2
        go_quiet (first | (go_at_call 51; refine Calls.quiet_of ((hal _).out)) | fail)
        go_wp2
        go_ret
        exact ⟨rfl, below_drewN hb0r _⟩
      | false =>
        rw [hb] at hal
        have HF := Lib.hid (HP'.out hb)
        clear HP' hb
        go_wp2
        go_quiet (first | (go_at_call 51; refine Calls.quiet_of ((hal _).out)) | fail)
        go_wp2
        go_roundw
        case rel => exact ⟨k + 1, by omega, by go_num, below_drewN hbl _, HF⟩
        case measure => simp [intOf]; omega
    · exfalso
      obtain ⟨j, h, h', e⟩ := HJ.out
      rw [HP.out j (by omega) h h'] at e
      cases e
end Go.Proofs.Ytmmmolbejfdamaa
