/- The check that package roll is built returns true; slices.Clone at hashes gives a row of the call's own; what the laws of package roll need of proofs. -/
import Derived.Test.YtlobpjpkldmnaaaRollIn
import Derived.Test.YtlobpjpkldmnaaaRollVerify
import Derived.Test.YtlobpjpkldmnaaaGood
import Derived.Lib.SliceRun
namespace Go.Proofs.Ytlobpjpkldmnaaa
set_option maxRecDepth 100000
open Go.RowKit

set_option maxHeartbeats 1000000 in
theorem rolls (w : World) : Calls Try.prog 20 #[] w fun e w' => e = .returned (.bool true) ∧ Below w.heap.size w w' := by
  have hg : RGood [[97], [98]] := ⟨by simp, by simp, by simp⟩
  have hI := fun (A : Option Addr) (w : World) hA => Lib.hid (rollIn_yes A 2 [[97], [98]] 0 w hg (by simp) (by simp) hA)
  have hlen : (inn [[97], [98]] 0).length = 1 := by rw [inn_length, sides_left (by decide) (by decide), sides_none 0 (by decide)]; rfl
  have hrow : Row (w.alloc (.cells #[.string ⟨#[97]⟩, .string ⟨#[98]⟩] 9)) (some ⟨w.heap.size, 0, none⟩) (scells [[97], [98]]) := Row.new w _ _ _ _ rfl rfl
  have HLEN := Lib.hid hlen
  generalize inn [[97], [98]] 0 = L at *
  clear hg hlen
  simp only [List.length_cons, List.length_nil, Nat.zero_add, Nat.reduceAdd, Int.cast_ofNat_Int] at hI
  go_enter Try.func20, Try.ntmps20
  go_wp2_with fail
  refine (hI (some ⟨w.heap.size, 0, none⟩) _ hrow).out.mono ?_
  rintro e w1 ⟨D, d, rfl, hown, hb1⟩
  have hb := below_chain ((Below.refl _ w).alloc (Nat.le_refl _) (.cells #[.string ⟨#[97]⟩, .string ⟨#[98]⟩] 9)) hb1
  have hl := HLEN.out
  rw [hl]
  go_wp2
  go_ret
  exact ⟨rfl, hb⟩

set_option maxHeartbeats 800000 in
theorem cloneOwn (A : Option Addr) (c : Nat) (ss : List Nat) (w : World) (hm : ss.length * 8 ≤ 140737488351232) (hA : Row w A (mcells ss)) :
    Calls Try.prog 21 #[.slice A ss.length c] w (RollGives ss w) := by
  have q : ∀ (w : World) (a : Option Addr) (n c n' c' : Nat), (binOp .eql 24 (.slice a n c) (.slice none n' c')).run Try.prog w = .ok (.bool a.isNone) w := fun w a n c n' c' => Lib.run_eql_slice_nil w _ _ a n c n' c' Try.underlying24
  cases A with
  | none =>
    have h0 : ss.length = 0 := by
      rcases Nat.eq_zero_or_pos ss.length with h | h
      · exact h
      · obtain ⟨g, off, e, _⟩ := hA (by rw [mcells_length]; omega)
        cases e
    obtain rfl : ss = [] := List.eq_nil_of_length_eq_zero h0
    go_enter Try.func21, Try.ntmps21
    go_wp2
    go_ret
    exact ⟨none, 0, rfl, World.ownsRow_nil _ _ _ _, Below.refl _ _⟩
  | some a =>
    have hown := World.ownsRow_made (e := 23) (size := 1) w #[] 0 (Nat.le_refl _) (Nat.zero_le _) rfl
    have hcell : ∀ j u, (mcells ss)[j]? = some u → (w.alloc (.cells #[] 23)).cell? (a.add j) = some u := by
      intro j u hu
      obtain ⟨hj, rfl⟩ := List.getElem?_eq_some_iff.1 hu
      obtain ⟨g, off, e, hc⟩ := (hA.alloc (.cells #[] 23)) (by omega)
      injection e with e
      subst e
      rw [Go.WideShapes.add_plain]
      exact hc j hj
    go_enter Try.func21, Try.ntmps21
    go_wp2_with (at_builtin; refine app_marks _ rfl _ _ rfl w.heap.size _ [] rfl hown a c ss ss.length rfl rfl hcell (by simp; omega) (by simp) ?_; intro v1 w1 hown1 hgrow1; rw [List.nil_append] at hown1)
    obtain ⟨D, d, rfl⟩ := own_shape hown1
    go_ret
    exact ⟨D, d, rfl, hown1, ((Below.refl _ w).alloc (Nat.le_refl _) _).grown hgrow1 (by simp) (fun k hk => (hown.lt k hk).1)⟩

theorem inn_lt (l : List Bytes) (i : Nat) : ∀ z ∈ inn l i, z < 18446744073709551616 := fun z hz => Nat.lt_trans (besideOf_lt _ _ z hz) (by decide)
theorem inn_right_root (l : List Bytes) (i : Nat) (hi : i < l.length) : mk (Hash.of (4 :: l[i])) (sides l.length i) (inn l i) = rhash l := by
  have := mk_root l (sides l.length i) (sides_steps _ _)
  rw [rest_side l i hi, rhash_one] at this
  exact this
theorem isAns_inn (l : List Bytes) (i : Nat) (hi : i < l.length) (r : Nat) (b : Bool) (hb : decide (rhash l = r) = b) : isAns r l.length i l[i] (inn l i) = b := by
  unfold isAns
  rw [inn_right_root l i hi, inn_length, ← hb, Bool.eq_iff_iff]
  simp
theorem isAns_long (n i : Nat) (t : Bytes) (p q : List Nat) (r : Nat) (hp : p.length = (sides n i).length) (hq : q.length = p.length + 1) : isAns r n i t q = false := by
  unfold isAns
  rw [Bool.and_eq_false_iff]
  left
  rw [beq_eq_false_iff_ne]
  omega
theorem grw_lt (l : List Bytes) (m : Nat) (wh : Bool) : ∀ z ∈ grw l m wh, z < 18446744073709551616 := fun z hz => by
  unfold grw at hz
  rcases List.mem_append.1 hz with h | h
  · split at h
    · cases h
    · rw [List.mem_singleton] at h
      subst h
      exact Nat.lt_trans (rhash_lt _) (by decide)
  · exact Nat.lt_trans (besideOf_lt _ _ z h) (by decide)
theorem isg_grown (l : List Bytes) (m : Nat) (h1 : 1 ≤ m) (hm : m ≤ l.length) (b : Nat) (u : Bool) (hu : decide (rhash l = b) = u) : isgAns (rhash (l.take m)) m b l.length (grw l m true) = u := by
  have e1 := mo_root l m h1 hm
  have e2 := mk_root l (turns l.length m) (turns_steps _ _ h1)
  have hlen := besideOf_length l (turns l.length m)
  unfold isgAns gfits gold gnew grw core body
  rw [Bool.true_and]
  cases hw : (turns l.length m).all id with
  | true =>
    have e3 := mo_all (rhash (restOf l (turns l.length m))) _ _ hw hlen.symm
    rw [e1] at e3
    simp only [if_true, List.nil_append, Nat.add_zero]
    rw [hlen, mo_all _ _ _ hw hlen.symm]
    rw [← e3] at e2
    rw [e2, ← hu, Bool.eq_iff_iff]
    simp
  | false =>
    simp only [Bool.false_eq_true, if_false, List.singleton_append, List.length_cons, List.headD_cons, List.tail_cons]
    rw [hlen, e1, e2, ← hu, Bool.eq_iff_iff]
    simp
end Go.Proofs.Ytlobpjpkldmnaaa
