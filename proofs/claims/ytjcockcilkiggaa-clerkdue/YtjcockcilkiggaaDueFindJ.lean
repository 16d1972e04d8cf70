/- slices.ContainsFunc at requests with the law ClerkDue's closure: is one of them of a name? It writes nothing that was there. -/
import Derived.Test.YtjcockcilkiggaaJ02
import Derived.Test.YtjcockcilkiggaaJ01
import Derived.Test.YtjcockcilkiggaaJ06
namespace Go.Proofs.Ytjcockcilkiggaa
set_option maxRecDepth 100000
open Go.RowKit

theorem dueSame (n v : Bytes) (x t : Nat) (g : Nat) (m : Bytes) (w : World) (hc : w.cell? ⟨g, 0, none⟩ = some (.string (S m))) (b : Bool) (hb : (n == m) = b) :
    Calls Try.prog 16 #[.agg #[.string (S n), .string (S v), .int .u64 (x : Int), .int .u64 (t : Int)], .pointer (some ⟨g, 0, none⟩)] w fun e w' => e = .returned (.bool b) ∧ Below w.heap.size w w' := by
  subst hb
  have x0 := Bx.new w _ rfl _ [.string (S n), .string (S v), .int .u64 (x : Int), .int .u64 (t : Int)] 35 rfl
  have hb0 := balloc (Below.refl w.heap.size w) (.cells #[.string (S n), .string (S v), .int .u64 (x : Int), .int .u64 (t : Int)] 35)
  have hc1 := kept hc hb0
  obtain ⟨⟨a0, a1, a2, a3⟩, _⟩ := x0.get4
  go_enter Try.func16, Try.ntmps16
  go_wp2
  go_ret
  exact ⟨rfl, hb0⟩
set_option maxHeartbeats 1000000 in
theorem dueIndex (A : Option Addr) (c : Nat) (l : List Ak) (g : Nat) (m : Bytes) (w : World) (hm : l.length ≤ 9223372036854775807) (hA : Row w A (qcells l)) (hc : w.cell? ⟨g, 0, none⟩ = some (.string (S m))) (hex : ∃ x ∈ l, x.1 = m) :
    Calls Try.prog 35 #[.slice A l.length c, .func (.func 16) #[] #[.pointer (some ⟨g, 0, none⟩)]] w fun e w' => (∃ i : Nat, e = .returned (.int .i64 (i : Int))) ∧ Below w.heap.size w w' := by
  have HE := Lib.hid hex
  clear hex
  go_enter Try.func35, Try.ntmps35
  go_wp2
  go_loopw [8] (fun i wr => ∃ k : Nat, k ≤ l.length ∧ i = .int .i64 k ∧ Hid (∀ x ∈ l.take k, x.1 ≠ m) ∧ Below w.heap.size w wr) (fun i _ => l.length - (intOf i).toNat)
  case atStart => exact ⟨0, Nat.zero_le _, rfl, fun x hx => by simp at hx, Below.refl _ _⟩
  case round =>
    obtain ⟨k, hk, rfl, hpre, hbl⟩ := hrel
    by_cases hlt : k < l.length
    · obtain ⟨ga, off, rfl, j0, j1, j2, j3⟩ := (hA.below hbl).ask k hlt
      have hc1 := kept hc hbl
      have i0 : (0 : Int) ≤ (k : Int) := by omega
      have i1 : (k : Int) < (l.length : Int) := by omega
      cases hv : (l[k].1 == m) with
      | false =>
        have HS : Hid (∀ x ∈ l.take (k + 1), x.1 ≠ m) := fun x hx => by
          rw [List.take_succ_eq_append_getElem hlt] at hx
          rcases List.mem_append.1 hx with h | h
          · exact hpre.out x h
          · rw [List.mem_singleton.1 h]; exact fun e => absurd (beq_iff_eq.2 e) (by rw [hv]; decide)
        generalize l[k].1 = na at *
        generalize l[k].2.1 = va at *
        generalize l[k].2.2.1 = nu at *
        generalize l[k].2.2.2 = tg at *
        have hG := fun (w : World) h => Lib.hid (dueSame na va nu tg g m w h false hv)
        clear hv hpre
        go_wp2_with fail
        refine (hG _ hc1).out.mono ?_
        rintro e w1 ⟨rfl, hb1⟩
        go_wp2
        go_roundw
        case rel => exact ⟨k + 1, by omega, by go_num, HS, below_chain hbl hb1⟩
        case measure => simp [intOf]; omega
      | true =>
        generalize l[k].1 = na at *
        generalize l[k].2.1 = va at *
        generalize l[k].2.2.1 = nu at *
        generalize l[k].2.2.2 = tg at *
        have hG := fun (w : World) h => Lib.hid (dueSame na va nu tg g m w h true hv)
        clear hv hpre
        go_wp2_with fail
        refine (hG _ hc1).out.mono ?_
        rintro e w1 ⟨rfl, hb1⟩
        go_wp2
        go_ret
        exact ⟨⟨k, rfl⟩, below_chain hbl hb1⟩
    · exfalso
      obtain ⟨x, hx, e⟩ := HE.out
      have := hpre.out
      rw [List.take_of_length_le (by omega)] at this
      exact this x hx e
theorem dueContains (A : Option Addr) (c : Nat) (l : List Ak) (g : Nat) (m : Bytes) (w : World) (hm : l.length ≤ 9223372036854775807) (hA : Row w A (qcells l)) (hc : w.cell? ⟨g, 0, none⟩ = some (.string (S m))) (hex : ∃ x ∈ l, x.1 = m) :
    Calls Try.prog 14 #[.slice A l.length c, .func (.func 16) #[] #[.pointer (some ⟨g, 0, none⟩)]] w fun e w' => e = .returned (.bool true) ∧ Below w.heap.size w w' := by
  have hI := fun (w : World) h1 h2 => Lib.hid (dueIndex A c l g m w hm h1 h2 hex)
  clear hex hm
  go_enter Try.func14, Try.ntmps14
  go_wp2_with fail
  refine (hI _ hA hc).out.mono ?_
  rintro e w1 ⟨⟨i, rfl⟩, hb1⟩
  have i0 : decide ((0 : Int) ≤ (i : Int)) = true := decide_eq_true (by omega)
  go_wp2
  go_ret
  exact ⟨rfl, hb1⟩
end Go.Proofs.Ytjcockcilkiggaa
