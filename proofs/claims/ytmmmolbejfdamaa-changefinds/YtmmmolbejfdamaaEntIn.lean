/- slices.Index and slices.Contains at entries: whether an entry is in a list of entries. They write nothing that was there. -/
import Derived.Test.YtmmmolbejfdamaaBook
namespace Go.Proofs.Ytmmmolbejfdamaa
open Go.RowKit

set_option maxRecDepth 100000 in
set_option maxHeartbeats 400000 in
theorem indexEnts (A : Option Addr) (c : Nat) (es : List Ent) (n v : Bytes) (w : World) (hm : es.length ≤ maxLen) (b : Bool) (hb : decide ((n, v) ∈ es) = b) (hA : Row w A (encells es)) :
    Calls Try.prog 80 #[.slice A es.length c, .agg #[.string (S n), .string (S v)]] w fun e w' => ∃ r : Int, e = .returned (.int .i64 r) ∧ decide (0 ≤ r) = b ∧ Below w.heap.size w w' := by
  unfold maxLen at hm
  have HB := Lib.hid hb
  clear hb
  have hA1 := hA.alloc (.cells #[.string (S n), .string (S v)] 34)
  have hb1 : Below w.heap.size w (w.alloc (.cells #[.string (S n), .string (S v)] 34)) := (Below.refl _ w).alloc (Nat.le_refl _) _
  have k1 : (w.alloc (.cells #[.string (S n), .string (S v)] 34)).cell? ⟨w.heap.size, 0, none⟩ = some (.string (S n)) := by rw [World.cell?_alloc_new]; rfl
  have k2 : (w.alloc (.cells #[.string (S n), .string (S v)] 34)).cell? ⟨w.heap.size, 1, none⟩ = some (.string (S v)) := by rw [World.cell?_alloc_new]; rfl
  go_enter Try.func80, Try.ntmps80
  go_wp2
  generalize w.alloc (.cells #[.string (S n), .string (S v)] 34) = w1 at *
  go_loopw [8] (fun i wr => ∃ k m : Nat, k ≤ es.length ∧ i = .int .i64 k ∧ wr = w1.drewN m ∧ Hid ((n, v) ∉ es.take k)) (fun i _ => es.length - (intOf i).toNat)
  case atStart => exact ⟨0, 0, Nat.zero_le _, rfl, rfl, (by show (n, v) ∉ es.take 0; simp)⟩
  case round =>
    obtain ⟨k, m, hk, rfl, rfl, hpre⟩ := hrel
    by_cases hlt : k < es.length
    · obtain ⟨g, off, rfl, h3, h4⟩ := hA1.ent k hlt
      have hi0 : (0 : Int) ≤ (k : Int) := by omega
      have hi1 : (k : Int) < (es.length : Int) := by omega
      clear hA hA1
      have HS : Hid (n = es[k].1 → v = es[k].2 → b = true) := by
        show _ → _ → _
        intro e1 e2
        rw [← HB.out, decide_eq_true_eq]
        have : (n, v) = es[k] := Prod.ext e1 e2
        rw [this]
        exact List.getElem_mem hlt
      have HN : Hid (¬ (n = es[k].1 ∧ v = es[k].2) → (n, v) ∉ es.take (k + 1)) := by
        show _ → _
        intro h
        rw [List.take_succ_eq_append_getElem hlt, List.mem_append, not_or]
        refine ⟨hpre.out, fun e => h ?_⟩
        rw [← List.mem_singleton.1 e]
        exact ⟨rfl, rfl⟩
      generalize es[k].1 = a1 at *
      generalize es[k].2 = a2 at *
      have c1 : (n == a1) = true ∨ (n == a1) = false := by cases n == a1 <;> simp
      have c2 : (v == a2) = true ∨ (v == a2) = false := by cases v == a2 <;> simp
      rcases c1 with c1 | c1
      · rcases c2 with c2 | c2
        · have HF := Lib.hid (HS.out (beq_iff_eq.1 c1) (beq_iff_eq.1 c2))
          clear HS HN
          go_wp2
          go_quiet (fail)
          go_wp2
          go_ret
          exact ⟨(k : Int), rfl, by rw [HF.out]; exact decide_eq_true hi0, by first | exact below_drewN hb1 _ | exact below_drewN (below_drewN hb1 _) _⟩
        · have HN' := Lib.hid (HN.out (fun h => by rw [beq_eq_false_iff_ne] at c2; exact c2 h.2))
          clear HS HN
          go_wp2
          go_quiet (fail)
          go_wp2
          go_roundw
          case rel => exact ⟨k + 1, _, by omega, by go_num, rfl, HN'⟩
          case measure => simp [intOf]; omega
      · have HN' := Lib.hid (HN.out (fun h => by rw [beq_eq_false_iff_ne] at c1; exact c1 h.1))
        clear HS HN c2
        go_wp2
        go_quiet (fail)
        go_wp2
        go_roundw
        case rel => exact ⟨k + 1, _, by omega, by go_num, rfl, HN'⟩
        case measure => simp [intOf]; omega
    · have HF : Hid (b = false) := by
        show b = false
        rw [← HB.out, decide_eq_false_iff_not]
        have := hpre.out
        rwa [List.take_of_length_le (by omega)] at this
      go_wp2
      go_ret
      exact ⟨-1, rfl, by rw [HF.out]; rfl, below_drewN hb1 _⟩

theorem containsEnts (A : Option Addr) (c : Nat) (es : List Ent) (n v : Bytes) (w : World) (hm : es.length ≤ maxLen) (b : Bool) (hb : decide ((n, v) ∈ es) = b) (hA : Row w A (encells es)) :
    Calls Try.prog 58 #[.slice A es.length c, .agg #[.string (S n), .string (S v)]] w fun e w' => e = .returned (.bool b) ∧ Below w.heap.size w w' := by
  have hI := fun (w : World) hA => Lib.hid (indexEnts A c es n v w hm b hb hA)
  have hb1 : Below w.heap.size w (w.alloc (.cells #[.string (S n), .string (S v)] 34)) := (Below.refl _ w).alloc (Nat.le_refl _) _
  clear hb hm
  go_enter Try.func58, Try.ntmps58
  go_wp2_with fail
  refine (hI _ (hA.alloc _)).out.mono ?_
  rintro e w1 ⟨r, rfl, hr, hb2⟩
  have hb3 := below_chain hb1 hb2
  clear hI hA
  go_wp2
  go_ret
  exact ⟨by rw [← hr]; rfl, hb3⟩
end Go.Proofs.Ytmmmolbejfdamaa
