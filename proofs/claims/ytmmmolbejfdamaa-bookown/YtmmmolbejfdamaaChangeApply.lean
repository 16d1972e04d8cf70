/- package change: Apply returns the book after the entries are set one after the other, in a row of its own, or the first error. It writes nothing that was there. -/
import Derived.Test.YtmmmolbejfdamaaTreeAny
import Derived.Test.YtmmmolbejfdamaaClone
namespace Go.Proofs.Ytmmmolbejfdamaa
set_option maxRecDepth 100000
open Go.RowKit

/-- The book after the entries are set one after the other, and the first error. -/
def applyTo (es : List Ent) : List Ent → List Ent × Int
  | [] => (es, 0)
  | x :: c => if setErr es x.1 x.2 = 0 then applyTo (setTo x.1 x.2 es) c else ([], setErr es x.1 x.2)
def applyRes (es c : List Ent) : List Ent × Int := if fault es = 0 then applyTo es c else ([], fault es)
theorem applyTo_bad (es c : List Ent) (h : (applyTo es c).2 ≠ 0) : (applyTo es c).1 = [] := by
  induction c generalizing es with
  | nil => exact absurd rfl h
  | cons x c ih =>
    rw [applyTo] at h ⊢
    split
    · rename_i hs
      rw [if_pos hs] at h
      exact ih _ h
    · rfl
theorem applyTo_good (es c : List Ent) (hg : Good es) (h : (applyTo es c).2 = 0) : Good (applyTo es c).1 := by
  induction c generalizing es with
  | nil => exact hg
  | cons x c ih =>
    rw [applyTo] at h ⊢
    split
    · rename_i hs
      rw [if_pos hs] at h
      exact ih _ (setT_good hs) h
    · rename_i hs
      rw [if_neg hs] at h
      exact absurd h hs
theorem applyRes_bad (es c : List Ent) (h : (applyRes es c).2 ≠ 0) : (applyRes es c).1 = [] := by
  unfold applyRes at h ⊢
  split
  · rename_i hf
    rw [if_pos hf] at h
    exact applyTo_bad es c h
  · rfl
theorem applyRes_good (es c : List Ent) (h : (applyRes es c).2 = 0) : Good es ∧ Good (applyRes es c).1 := by
  unfold applyRes at h ⊢
  split
  · rename_i hf
    rw [if_pos hf] at h
    exact ⟨(fault_ok es).1 hf, applyTo_good es c ((fault_ok es).1 hf) h⟩
  · rename_i hf
    rw [if_neg hf] at h
    exact absurd h hf

/-- What Apply leaves. -/
def ApplyGives (T : List Ent) (r : Int) (w : World) (e : Ending) (w' : World) : Prop :=
  ∃ D d, e = .returned (.tuple #[.slice D T.length d, .int .i64 r]) ∧ ownsS w' w.heap.size (.slice D T.length d) T ∧ Below w.heap.size w w'

set_option maxHeartbeats 1000000 in
theorem changeApply (A C : Option Addr) (ca cc : Nat) (a c : List Ent) (w : World) (hma : a.length ≤ maxLen) (hea : ∀ x ∈ a, x.1.length ≤ maxLen ∧ x.2.length ≤ maxLen) (hmc : c.length ≤ maxLen) (hec : ∀ x ∈ c, x.1.length ≤ maxLen ∧ x.2.length ≤ maxLen)
    (hA : Row w A (encells a)) (hC : Row w C (encells c)) (T : List Ent) (r : Int) (hT : applyRes a c = (T, r)) :
    Calls Try.prog 10 #[.slice A a.length ca, .slice C c.length cc] w (ApplyGives T r w) := by
  have hK := fun (w : World) hA => Lib.hid (treeCheck A ca a w hma hea hA _ rfl)
  by_cases hf : fault a = 0
  · have hg := (fault_ok a).1 hf
    rw [applyRes, if_pos hf] at hT
    rw [hf] at hK
    have HT := Lib.hid hT
    have hl := hg.len
    have hCl := fun (w : World) hA => Lib.hid (cloneEntsS A ca a w (by omega) hA)
    have HG := Lib.hid hg
    unfold maxLen at hmc
    clear hf hT hma hea hg
    go_enter Try.func10, Try.ntmps10
    go_wp2_with fail
    refine (hK _ hA).out.mono ?_
    rintro e w1 ⟨rfl, hb1⟩
    go_wp2_with fail
    refine (hCl _ (hA.below hb1)).out.mono ?_
    rintro e w2 ⟨D2, d2, rfl, hown2, hb2⟩
    have hb02 := below_chain hb1 hb2
    have hown02 := hown2.mono hb1.size
    clear hK hCl hA hown2 hb2 hb1
    go_wp2_with fail
    go_loopw [7, 21] (fun v i wr => ∃ (k : Nat) (L : List Ent), k ≤ c.length ∧ i = .int .i64 k ∧ Hid (applyTo L (c.drop k) = (T, r)) ∧ Hid (Good L) ∧ ownsS wr w.heap.size v L ∧ Below w.heap.size w wr) (fun _ i _ => c.length - (intOf i).toNat)
    case atStart => exact ⟨0, a, Nat.zero_le _, rfl, HT, HG, hown02, hb02⟩
    case round =>
      obtain ⟨k, L, hk, rfl, HL, HGL, hown, hbl⟩ := hrel
      have hsz := hbl.size
      obtain ⟨D, d, rfl⟩ := hown.shape
      clear hown02 hb02
      by_cases hlt : k < c.length
      · obtain ⟨g, off, rfl, h1, h2⟩ := (hC.below hbl).ent k hlt
        have hi0 : (0 : Int) ≤ (k : Int) := by omega
        have hi1 : (k : Int) < (c.length : Int) := by omega
        have hx := hec _ (List.getElem_mem hlt)
        have HS : Hid (if setErr L c[k].1 c[k].2 = 0 then applyTo (setTo c[k].1 c[k].2 L) (c.drop (k + 1)) = (T, r) else (([] : List Ent), setErr L c[k].1 c[k].2) = (T, r)) := by
          show if _ then _ else _
          have := HL.out
          rw [List.drop_eq_getElem_cons hlt, applyTo] at this
          by_cases hs : setErr L c[k].1 c[k].2 = 0
          · rw [if_pos hs] at this ⊢; exact this
          · rw [if_neg hs] at this ⊢; exact this
        have hbw : Below w.heap.size w (wr.alloc (.cells #[.string (S c[k].1), .string (S c[k].2)] 34)) := hbl.alloc hsz _
        have hown1 := hown.alloc (.cells #[.string (S c[k].1), .string (S c[k].2)] 34)
        have k4 : (wr.alloc (.cells #[.string (S c[k].1), .string (S c[k].2)] 34)).cell? ⟨wr.heap.size, 0, none⟩ = some (.string (S c[k].1)) := by rw [World.cell?_alloc_new]; rfl
        have k5 : (wr.alloc (.cells #[.string (S c[k].1), .string (S c[k].2)] 34)).cell? ⟨wr.heap.size, 1, none⟩ = some (.string (S c[k].2)) := by rw [World.cell?_alloc_new]; rfl
        have hcap := own_capE hown.row
        obtain ⟨hmL, heL⟩ := small_of_good HGL.out
        clear HL
        generalize c[k].1 = n at *
        generalize c[k].2 = v at *
        by_cases hs : setErr L n v = 0
        · have hSt := fun (w : World) hA => Lib.hid (treeSet_yesS D d L n v w hcap hA hs)
          have HG' := Lib.hid (setT_good hs)
          rw [if_pos hs] at HS
          clear hs hx hmL heL HGL
          generalize setTo n v L = L' at *
          go_wp2_with fail
          refine (hSt _ (Row.ownE hown1.row)).out.mono ?_
          rintro e w3 ⟨D3, d3, rfl, hown3, hb3⟩
          have hb03 := below_chain hbw hb3
          have hown03 := hown3.mono hbw.size
          clear hSt hown1 hown k4 k5 hbw hb3 hown3 hbl
          go_wp2
          go_roundw
          case rel => exact ⟨k + 1, L', by omega, by go_num, HS, HG', hown03, hb03⟩
          case measure => simp [intOf]; omega
        · have hSt := fun (w : World) hA => Lib.hid (treeSet_no D d L n v w hmL heL hx.1 hx.2 hA _ rfl hs)
          rw [if_neg hs] at HS
          have c1 : (setErr L n v == 0) = false := beq_eq_false_iff_ne.2 hs
          clear hs hx hmL heL HGL
          generalize setErr L n v = q at *
          go_wp2_with fail
          refine (hSt _ (Row.ownE hown1.row)).out.mono ?_
          rintro e w3 ⟨rfl, hb3⟩
          have hb03 := below_chain hbw hb3
          clear hSt hown1 hown k4 k5 hbw hb3 hbl
          go_wp2
          go_ret2
          obtain ⟨rfl, rfl⟩ := Prod.mk.inj HS.out
          exact ⟨none, 0, rfl, ownsS.nil _ _, hb03⟩
      · obtain rfl : k = c.length := by omega
        have HF : Hid (L = T ∧ 0 = r) := by
          show L = T ∧ 0 = r
          have := HL.out
          rw [List.drop_length, applyTo] at this
          exact Prod.mk.inj this
        clear HL HGL
        go_wp2
        go_ret2
        obtain ⟨rfl, rfl⟩ := HF.out
        exact ⟨D, d, rfl, hown, hbl⟩
  · rw [applyRes, if_neg hf] at hT
    obtain ⟨rfl, rfl⟩ := Prod.mk.inj hT
    have c1 : (fault a == 0) = false := beq_eq_false_iff_ne.2 hf
    clear hf hT hma hea
    generalize fault a = q at *
    go_enter Try.func10, Try.ntmps10
    go_wp2_with fail
    refine (hK _ hA).out.mono ?_
    rintro e w1 ⟨rfl, hb1⟩
    clear hK
    go_wp2
    go_ret2
    exact ⟨none, 0, rfl, ownsS.nil _ _, hb1⟩
end Go.Proofs.Ytmmmolbejfdamaa
