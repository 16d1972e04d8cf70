/- package tree: preimage returns the preimage of entries of one path, isPrefix whether a string is a prefix; Leaf returns the preimage of a book of one path. They write nothing that was there. -/
import Derived.Test.YtmmmolbejfdamaaTreeCheck
import Derived.Test.YtmmmolbejfdamaaRefLeaf
import Derived.Test.YtmmmolbejfdamaaFits
namespace Go.Proofs.Ytmmmolbejfdamaa
open Go.RowKit

theorem put_two (a b : Bytes) (w : World) (g : Nat) (hg : g = w.heap.size) (h : a.length + b.length ≤ 596) (t : TypeId) :
    Calls Try.prog 102 #[.slice (some ⟨g, 0, none⟩) 2 2] (w.alloc (.cells #[.string (S a), .string (S b)] t)) fun e w' => e = .returned (.tuple #[.string (S (Wire.enc [a, b])), .int .i64 0]) ∧ Below (w.alloc (.cells #[.string (S a), .string (S b)] t)).heap.size (w.alloc (.cells #[.string (S a), .string (S b)] t)) w' :=
  put_yes (some ⟨g, 0, none⟩) 2 [a, b] _ (by simp [Wire.okB, Wire.fitsB, Wire.encLen]; omega) (Row.new w g _ _ t hg rfl)

set_option maxRecDepth 100000 in
set_option maxHeartbeats 400000 in
theorem treeSaid (A : Option Addr) (c : Nat) (es : List Ent) (w : World) (hm : es.length ≤ 1000) (hes : ∀ x ∈ es, x.1.length + x.2.length ≤ 596) (hA : Row w A (encells es)) :
    Calls Try.prog 85 #[.slice A es.length c] w fun e w' => e = .returned (.string (S (leafOf es))) ∧ Below w.heap.size w w' := by
  rcases Nat.eq_zero_or_pos es.length with h0 | h0
  · obtain rfl : es = [] := List.eq_nil_of_length_eq_zero h0
    rw [List.length_nil]
    clear hes h0 hm hA
    go_enter Try.func85, Try.ntmps85
    go_wp2
    go_ret
    exact ⟨rfl, Below.refl _ _⟩
  · have c1 : ((es.length : Int) == 0) = false := by
      rw [beq_eq_false_iff_ne]
      omega
    have HL : Hid (leafOf es = 1 :: leafBytes es) := by
      show leafOf es = _
      rw [leafOf, if_neg (by rintro rfl; simp at h0)]
    have HE := Lib.hid hes
    clear hes h0
    go_enter Try.func85, Try.ntmps85
    go_wp2
    go_loopw [3, 13] (fun o i wr => ∃ (k : Nat) (out : Bytes), k ≤ es.length ∧ i = .int .i64 k ∧ o = .string (S out) ∧ out.length ≤ 1 + k * 600 ∧ Hid (out = 1 :: leafBytes (es.take k)) ∧ Below w.heap.size w wr) (fun _ i _ => es.length - (intOf i).toNat)
    case atStart => exact ⟨0, [1], Nat.zero_le _, rfl, rfl, by simp, rfl, Below.refl _ _⟩
    case round =>
      obtain ⟨k, out, hk, rfl, rfl, hol, HO, hbl⟩ := hrel
      have hsz := hbl.size
      clear c1
      by_cases hlt : k < es.length
      · obtain ⟨g, off, rfl, h1, h2⟩ := (hA.below hbl).ent k hlt
        have hi0 : (0 : Int) ≤ (k : Int) := by omega
        have hi1 : (k : Int) < (es.length : Int) := by omega
        have hx := HE.out _ (List.getElem_mem hlt)
        have HO' : Hid (out ++ Wire.enc [es[k].1, es[k].2] = 1 :: leafBytes (es.take (k + 1))) := by
          show out ++ _ = _
          rw [List.take_succ_eq_append_getElem hlt, leafBytes_snoc, HO.out]
          rfl
        have hel : (Wire.enc [es[k].1, es[k].2]).length ≤ 600 := by
          rw [Wire.enc_length]
          simp [Wire.encLen]
          omega
        have hP := fun w g hg t => Lib.hid (put_two es[k].1 es[k].2 w g hg hx t)
        clear hA HO hx
        generalize Wire.enc [es[k].1, es[k].2] = z at *
        generalize es[k].1 = a at *
        generalize es[k].2 = b at *
        go_wp2_with fail
        refine (hP _ _ (by simp) _).out.mono ?_
        rintro e w1 ⟨rfl, hb1⟩
        have hb0 : Below w.heap.size w w1 := below_chain ((hbl.alloc hsz _).alloc (by simp; omega) _) hb1
        go_wp2
        go_roundw
        case rel => exact ⟨k + 1, out ++ z, by omega, by go_num, rfl, by rw [List.length_append]; omega, HO', hb0⟩
        case measure => simp [intOf]; omega
      · have HO' : Hid (leafOf es = out) := by
          show leafOf es = out
          rw [HL.out, HO.out, List.take_of_length_le (by omega)]
        go_wp2
        go_ret
        exact ⟨by rw [HO'.out]; rfl, hbl⟩

set_option maxRecDepth 100000 in
set_option maxHeartbeats 800000 in
theorem treeIsPrefix (l : Bytes) (w : World) (hl : l.length ≤ maxLen) (b : Bool) (hb : (l.all Bin.bitByte && decide (l.length ≤ 16)) = b) :
    Calls Try.prog 63 #[.string (S l)] w fun e w' => e = .returned (.bool b) ∧ w = w' := by
  unfold maxLen at hl
  have HB := Lib.hid hb
  clear hb
  go_enter Try.func63, Try.ntmps63
  go_wp2
  go_loop [3] (fun i => ∃ k : Nat, k ≤ l.length ∧ i = .int .i64 k ∧ Hid ((l.take k).all Bin.bitByte = true)) (fun i => l.length - (intOf i).toNat)
  case atStart => exact ⟨0, Nat.zero_le _, rfl, rfl⟩
  case round =>
    obtain ⟨k, hk, rfl, hpre⟩ := hrel
    by_cases hlt : k < l.length
    · have hi0 : (0 : Int) ≤ (k : Int) := by omega
      have hi1 : (k : Int) < (l.length : Int) := by omega
      have HV : Hid ((((l[k].toNat : Int) == 48) || ((l[k].toNat : Int) == 49)) = Bin.bitByte l[k]) := by
        show _ = _
        unfold Bin.bitByte
        congr 1 <;> rw [Bool.eq_iff_iff, beq_iff_eq, beq_iff_eq] <;> omega
      have HS : Hid (Bin.bitByte l[k] = true → (l.take (k + 1)).all Bin.bitByte = true) := by
        show Bin.bitByte l[k] = true → (l.take (k + 1)).all Bin.bitByte = true
        intro hv
        rw [List.take_succ_eq_append_getElem hlt, List.all_append, hpre.out]
        simp [hv]
      have HF : Hid (Bin.bitByte l[k] = false → b = false) := by
        show Bin.bitByte l[k] = false → b = false
        intro hv
        have : l.all Bin.bitByte = false := by
          rw [List.all_eq_false]
          exact ⟨l[k], List.getElem_mem hlt, by simp [hv]⟩
        rw [← HB.out, this, Bool.false_and]
      generalize Bin.bitByte l[k] = v at *
      clear HB
      have h1 : ((l[k].toNat : Int) == 48) = true ∨ ((l[k].toNat : Int) == 48) = false := by cases ((l[k].toNat : Int) == 48) <;> simp
      have h2 : ((l[k].toNat : Int) == 49) = true ∨ ((l[k].toNat : Int) == 49) = false := by cases ((l[k].toNat : Int) == 49) <;> simp
      rcases h1 with h1 | h1 <;> rcases h2 with h2 | h2 <;>
      · have H := HV.out
        rw [h1, h2] at H
        have g1 : ((l[k].toNat : Int) != 48) = !((l[k].toNat : Int) == 48) := rfl
        have g2 : ((l[k].toNat : Int) != 49) = !((l[k].toNat : Int) == 49) := rfl
        rw [h1] at g1
        rw [h2] at g2
        first
        | (obtain rfl : v = true := H.symm
           have HS' := Lib.hid (HS.out rfl)
           clear H HV HS HF
           go_wp2
           go_round
           case rel => exact ⟨k + 1, by omega, by go_num, HS'⟩
           case measure => simp [intOf]; omega)
        | (obtain rfl : v = false := H.symm
           have HF' := Lib.hid (HF.out rfl)
           clear H HV HS HF
           go_wp2
           go_ret
           exact ⟨by rw [HF'.out]; rfl, rfl⟩)
    · have hall : l.all Bin.bitByte = true := by
        have := hpre.out
        rwa [List.take_of_length_le (by omega)] at this
      have HV : Hid (decide ((l.length : Int) ≤ 16) = b) := by
        show _ = b
        rw [← HB.out, hall, Bool.true_and]
        exact decide_eq_decide.2 (by omega)
      clear hpre hall HB
      obtain rfl : k = l.length := by omega
      go_wp2
      go_ret
      exact ⟨by rw [← HV.out]; rfl, rfl⟩

/-- Whether all entries have one path. -/
def onePath : List Ent → Bool
  | [] => true
  | x :: es => es.all fun y => Bin.of y.1 == Bin.of x.1
theorem R_le {a b : Bytes} (h : Bin.R a b) : ¬ Bin.of b < Bin.of a := fun k => by
  rcases (Bin.R_iff a b).1 h with h | ⟨h, _⟩
  · exact Bin.bs_lt_irrefl _ (Bin.bs_lt_trans h k)
  · rw [h] at k; exact Bin.bs_lt_irrefl _ k
theorem bs_anti {a b : Bytes} (h : ¬ b < a) (k : ¬ a < b) : a = b := Classical.byContradiction fun e => k (Bin.bs_lt_of_le_ne (Bin.bs_le_of_not h) e)
theorem onePath_last (x : Ent) (es : List Ent) (n : Nat) (hn : (x :: es).length = n + 1) (ho : ((x :: es).map (·.1)).Pairwise Bin.R) : onePath (x :: es) = (Bin.of x.1 == Bin.of ((x :: es)[n]'(by omega)).1) := by
  have hg := List.pairwise_iff_getElem.1 ho
  rw [onePath, Bool.eq_iff_iff, List.all_eq_true, beq_iff_eq]
  constructor
  · intro h
    rcases Nat.eq_zero_or_pos n with rfl | hp
    · rfl
    · have hm : (x :: es)[n]'(by omega) ∈ es := by
        obtain ⟨m, rfl⟩ : ∃ m, n = m + 1 := ⟨n - 1, by omega⟩
        simp only [List.getElem_cons_succ]
        exact List.getElem_mem _
      exact (beq_iff_eq.1 (h _ hm)).symm
  · intro h y hy
    rw [beq_iff_eq]
    obtain ⟨j, hj, rfl⟩ := List.getElem_of_mem hy
    have h1 : Bin.R x.1 es[j].1 := by
      have := hg 0 (j + 1) (by simp) (by simpa using hj) (by omega)
      simpa using this
    rw [List.length_cons] at hn
    rcases Nat.lt_or_ge (j + 1) n with hlt | hge
    · have h2 := hg (j + 1) n (by simpa using hj) (by simp; omega) hlt
      simp only [List.getElem_map] at h2
      rw [List.getElem_cons_succ] at h2
      have h3 := R_le h2
      rw [← h] at h3
      exact (bs_anti (R_le h1) h3).symm
    · have e : n = j + 1 := by omega
      subst e
      rw [List.getElem_cons_succ] at h
      exact h.symm
end Go.Proofs.Ytmmmolbejfdamaa
