/- package tree: zeros returns how many paths at the front have 0 at a byte. It writes nothing. -/
import Derived.Test.YtmmmolbejfdamaaLeaves
namespace Go.Proofs.Ytmmmolbejfdamaa
open Go.RowKit

theorem Row.strAt {w : World} {A : Option Addr} {ss : List Bytes} (h : Row w A (scells ss)) (k : Nat) (hk : k < ss.length) : ∃ g off, A = some ⟨g, off, none⟩ ∧ w.cell? ⟨g, off + k, none⟩ = some (.string (S ss[k])) := by
  obtain ⟨g, off, e, hc⟩ := h (by rw [scells_length]; omega)
  refine ⟨g, off, e, ?_⟩
  rw [hc k (by rw [scells_length]; exact hk)]
  simp [scells]

set_option maxHeartbeats 800000 in
theorem treeZeros (B : Option Addr) (d : Nat) (ps : List Bytes) (n : Nat) (w : World) (m : Nat) (hm : ps.length = m) (hml : m ≤ 1000) (hps : ∀ s ∈ ps, s.length = 16) (hn : n < 16) (hB : Row w B (scells ps)) (z : Nat) (hz : zcount n ps = z) :
    Calls Try.prog 86 #[.slice B m d, .int .i64 (n : Int)] w fun e w' => e = .returned (.int .i64 (z : Int)) ∧ w = w' := by
  have HP := Lib.hid hps
  have HZ : Hid (z = 0 + zcount n (ps.drop 0)) := by show z = _; rw [List.drop_zero, hz, Nat.zero_add]
  subst hm
  clear hps hz
  go_enter Try.func86, Try.ntmps86
  go_wp2
  go_loop [5] (fun i => ∃ k : Nat, k ≤ ps.length ∧ i = .int .i64 k ∧ Hid (z = k + zcount n (ps.drop k))) (fun i => ps.length - (intOf i).toNat)
  case atStart => exact ⟨0, Nat.zero_le _, rfl, HZ⟩
  case round =>
    obtain ⟨k, hk, rfl, HS⟩ := hrel
    by_cases hlt : k < ps.length
    · obtain ⟨g, off, rfl, h1⟩ := hB.strAt k hlt
      have hi0 : (0 : Int) ≤ (k : Int) := by omega
      have hi1 : (k : Int) < (ps.length : Int) := by omega
      have hl := HP.out _ (List.getElem_mem hlt)
      have HS' : Hid (z = k + if ps[k][n]? = some 48 then zcount n (ps.drop (k + 1)) + 1 else 0) := by
        have := HS.out
        rw [List.drop_eq_getElem_cons hlt, zcount] at this
        exact this
      clear HS HZ hB
      generalize ps[k] = s at *
      have hn0 : (0 : Int) ≤ (n : Int) := by omega
      have hn1 : (n : Int) < (s.length : Int) := by omega
      have hn2 : n < s.length := by omega
      rw [List.getElem?_eq_getElem hn2] at HS'
      by_cases hc : s[n] = 48
      · have c1 : ((s[n].toNat : Int) == 48) = true := by rw [hc]; rfl
        have HS2 : Hid (z = k + 1 + zcount n (ps.drop (k + 1))) := by
          show z = _
          rw [HS'.out, if_pos (by rw [hc])]
          omega
        clear HS' hc
        go_wp2
        go_round
        case rel => exact ⟨k + 1, by omega, by go_num, HS2⟩
        case measure => simp [intOf]; omega
      · have c1 : ((s[n].toNat : Int) == 48) = false := by
          rw [beq_eq_false_iff_ne]
          intro e
          apply hc
          have e' : s[n].toNat = 48 := by omega
          exact UInt8.toNat_inj.1 e'
        have HS2 : Hid (z = k) := by
          show z = _
          rw [HS'.out, if_neg (fun e => hc (by injection e))]
          rfl
        clear HS' hc
        go_wp2
        go_ret
        exact ⟨by rw [HS2.out]; rfl, rfl⟩
    · have HS2 : Hid (z = k) := by
        show z = k
        rw [HS.out, List.drop_eq_nil_of_le (by omega)]
        rfl
      have c0 : decide ((k : Int) < (ps.length : Int)) = false := decide_eq_false (by omega)
      go_wp2
      go_ret
      exact ⟨by rw [HS2.out]; rfl, rfl⟩
end Go.Proofs.Ytmmmolbejfdamaa
