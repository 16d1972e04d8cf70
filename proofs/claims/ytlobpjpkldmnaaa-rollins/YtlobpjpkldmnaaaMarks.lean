/- Rows of uint64. -/
import Derived.Test.YtlobpjpkldmnaaaApps
import Derived.Test.YtlobpjpkldmnaaaBook
namespace Go.Proofs.Ytlobpjpkldmnaaa
set_option maxRecDepth 100000
open Go.RowKit

def mcells (ss : List Nat) : List Value := ss.map fun z : Nat => .int .u64 (z : Int)
theorem mcells_length (ss : List Nat) : (mcells ss).length = ss.length := by simp [mcells]
theorem mcells_append (a b : List Nat) : mcells (a ++ b) = mcells a ++ mcells b := by simp [mcells]
theorem Row.mark {w : World} {A : Option Addr} {ss : List Nat} (h : Row w A (mcells ss)) (k : Nat) (hk : k < ss.length) : ∃ g off, A = some ⟨g, off, none⟩ ∧ w.cell? ⟨g, off + k, none⟩ = some (.int .u64 (ss[k] : Int)) := by
  obtain ⟨g, off, e, hc⟩ := h (by rw [mcells_length]; omega)
  refine ⟨g, off, e, ?_⟩
  rw [hc k (by rw [mcells_length]; exact hk)]
  simp [mcells]
set_option maxRecDepth 100000 in
theorem u64_info : ∃ i, Try.prog.info? 23 = some i ∧ i.zero = some (.int .u64 0) ∧ i.size = 1 ∧ i.bytes = 8 := by
  refine ⟨_, rfl, ?_, ?_, ?_⟩ <;> rfl

section
variable {ops : Array Oper} {rest : List Oper} {o : Oper} {a : Act} {Q : Exit → Act → World → Prop}
/-- Hashes behind hashes. -/
theorem app_marks (w : World) (hgd : o.guard = none) (s x : Operand) (ho : o.op = .call { callee := .builtin .append, args := #[s, x], argTypes := #[24, 24] })
    (base : Nat) (v : Value) (l : List Nat) (hs : a.eval s = v) (hown : w.ownsRow base 23 1 v l.length (mcells l))
    (ad : Addr) (c : Nat) (r : List Nat) (m : Nat) (hm : m = r.length) (hx : a.eval x = .slice (some ad) m c) (hnews : ∀ j u, (mcells r)[j]? = some u → w.cell? (ad.add j) = some u)
    (hsmall : (l.length + r.length) * 8 ≤ 140737488355328) (hbase : base ≤ w.heap.size)
    (h : ∀ v' w', w'.ownsRow base 23 1 v' (l ++ r).length (mcells (l ++ r)) → w.grownBy w' v.ownBlock → wpList Try.prog ops Q rest (a.put o.dst v') w') : wpList Try.prog ops Q (o :: rest) a w := by
  obtain ⟨i0, hi, hz0, hz1, hz2⟩ := u64_info
  subst hm
  refine wpList_append_own w hgd s x 24 ho base 23 i0 (.int .u64 0) 1 8 Try.underlying24 hi hz0 hz1 hz2 rfl (by decide) v l.length (mcells l) hs hown ad r.length c (mcells r) hx (by rw [mcells_length]; omega) hnews
    (fun u hu => by obtain ⟨_, _, rfl⟩ := List.mem_map.1 hu; rfl) (by unfold maxLen; omega) hsmall hbase ?_
  intro v' w' h1 h2 _
  exact h v' w' (by rw [mcells_append, List.length_append]; exact h1) h2
end
theorem mark_one (w : World) (z : Nat) (t : TypeId) : ∀ j u, (mcells [z])[j]? = some u → (w.alloc (.cells #[.int .u64 (z : Int)] t)).cell? ((⟨w.heap.size, 0, none⟩ : Addr).add j) = some u := by
  intro j u hu
  rw [Go.WideShapes.add_plain, Nat.zero_add, World.cell?_alloc_new]
  simpa [mcells] using hu

set_option maxRecDepth 100000 in
set_option maxHeartbeats 400000 in
theorem eqMarks (A C : Option Addr) (ca cc : Nat) (ss tt : List Nat) (w : World) (hm : ss.length ≤ maxLen) (b : Bool) (hb : decide (ss = tt) = b)
    (hA : Row w A (mcells ss)) (hC : Row w C (mcells tt)) :
    Calls Try.prog 13 #[.slice A ss.length ca, .slice C tt.length cc] w fun e w' => e = .returned (.bool b) ∧ ∃ m, w' = w.drewN m := by
  unfold maxLen at hm
  by_cases hlen : ss.length = tt.length
  · have HB := Lib.hid hb
    clear hb
    have HL := Lib.hid hlen
    have hne : ((ss.length : Int) != (tt.length : Int)) = false := by simp [hlen]
    have hl1 : ss.length ≤ tt.length := by omega
    clear hlen
    go_enter Try.func13, Try.ntmps13
    go_wp2
    go_loopw [13] (fun i wr => ∃ k m : Nat, k ≤ ss.length ∧ i = .int .i64 k ∧ wr = w.drewN m ∧ Hid (ss.take k = tt.take k)) (fun i _ => ss.length - (intOf i).toNat)
    case atStart => exact ⟨0, 0, Nat.zero_le _, rfl, rfl, rfl⟩
    case round =>
      obtain ⟨k, m, hk, rfl, rfl, hpre⟩ := hrel
      by_cases hlt : k < ss.length
      · have hlt' : k < tt.length := by omega
        obtain ⟨g, off, rfl, h1⟩ := hA.mark k hlt
        obtain ⟨g', off', rfl, h3⟩ := hC.mark k hlt'
        have hi0 : (0 : Int) ≤ (k : Int) := by omega
        have hi1 : (k : Int) < (ss.length : Int) := by omega
        have hi2 : (k : Int) < (tt.length : Int) := by omega
        clear hA hC
        have HS : Hid (ss[k] = tt[k] → ss.take (k + 1) = tt.take (k + 1)) := by
          show _ → _
          intro e1
          rw [List.take_succ_eq_append_getElem hlt, List.take_succ_eq_append_getElem hlt', hpre.out, e1]
        have HN : Hid (¬ ss[k] = tt[k] → b = false) := by
          show _ → _
          intro h
          rw [← HB.out, decide_eq_false_iff_not]
          rintro rfl
          exact h rfl
        generalize ss[k] = a1 at *
        generalize tt[k] = b1 at *
        by_cases he : a1 = b1
        · have HS' := Lib.hid (HS.out he)
          have c1 : ((a1 : Int) == (b1 : Int)) = true := beq_iff_eq.2 (by rw [he])
          clear HS HN he
          go_wp2
          go_quiet (fail)
          go_wp2
          go_roundw
          case rel => exact ⟨k + 1, _, by omega, by go_num, rfl, HS'⟩
          case measure => simp [intOf]; omega
        · have HF := Lib.hid (HN.out he)
          have c1 : ((a1 : Int) == (b1 : Int)) = false := beq_eq_false_iff_ne.2 (by omega)
          clear HS HN he
          go_wp2
          go_quiet (fail)
          go_wp2
          go_ret
          exact ⟨by rw [HF.out]; rfl, _, World.drewN_drewN _ _ _⟩
      · have HF : Hid (b = true) := by
          show b = true
          rw [← HB.out, decide_eq_true_eq]
          have := hpre.out
          have e2 := HL.out
          rwa [List.take_of_length_le (by omega), List.take_of_length_le (by omega)] at this
        go_wp2
        go_ret
        exact ⟨by rw [HF.out]; rfl, _, rfl⟩
  · have hne : ((ss.length : Int) != (tt.length : Int)) = true := by simp; omega
    have HF : Hid (b = false) := by
      show b = false
      rw [← hb, decide_eq_false_iff_not]
      rintro rfl
      exact hlen rfl
    clear hlen hb
    go_enter Try.func13, Try.ntmps13
    go_wp2
    go_ret
    exact ⟨by rw [HF.out]; rfl, 0, rfl⟩

end Go.Proofs.Ytlobpjpkldmnaaa
/- The reference: SameBook returns whether two books are the same. It writes nothing that was there. -/
namespace Go.Proofs.Ytlobpjpkldmnaaa
set_option maxRecDepth 100000
open Go.RowKit

end Go.Proofs.Ytlobpjpkldmnaaa
