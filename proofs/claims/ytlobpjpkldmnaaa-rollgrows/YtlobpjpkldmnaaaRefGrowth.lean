/- The reference: growth returns the turns of the way to where the old strings end. -/
import Derived.Test.YtlobpjpkldmnaaaRollHash
import Derived.Test.YtlobpjpkldmnaaaRollRow
namespace Go.Proofs.Ytlobpjpkldmnaaa
set_option maxRecDepth 100000
open Go.RowKit

/-- What growth leaves. -/
def Turned (s : List Bool) (w : World) (e : Ending) (w' : World) : Prop :=
  ∃ D d, e = .returned (.tuple #[.slice D s.length d, .bool (s.all id)]) ∧ Row w' D (tcells s) ∧ Below w.heap.size w w'

set_option maxHeartbeats 4000000 in
theorem refGrowth (n m : Nat) (w : World) (h1 : 1 ≤ m) (h40 : n ≤ 40) (hmn : m ≤ n) :
    Calls Try.prog 35 #[.int .i64 (n : Int), .int .i64 (m : Int)] w (Turned (turns n m) w) := by
  have HL : ∀ n m : Nat, 1 ≤ m → m < n → ∀ k, hlf n = k → m ≤ k → Hid (turns n m = true :: turns k m) := fun n m h1 h2 k hk h => by show _ = _; rw [turns_left h1 h2 (by omega), hk]
  have HRr : ∀ n m : Nat, 1 ≤ m → m < n → ∀ k, hlf n = k → k < m → Hid (turns n m = false :: turns (n - k) (m - k)) := fun n m h1 h2 k hk h => by show _ = _; rw [turns_right h1 h2 (by omega), hk]
  have HN : ∀ n m : Nat, n ≤ m → Hid (turns n m = []) := fun n m h => turns_none h
  obtain ⟨s, hs⟩ : ∃ s, turns n m = s := ⟨_, rfl⟩
  rw [hs]
  have H0 : Hid (s = [] ++ turns n m) := by show s = [] ++ turns n m; rw [hs]; rfl
  clear hs
  go_enter Try.func35, Try.ntmps35
  go_wp2
  go_loopw [0, 1, 6, 7] (fun nv mv o uv wr => ∃ (n' m' : Nat) (R : List Bool) (D : Option Addr) (d : Nat), 1 ≤ m' ∧ n' ≤ 40 ∧ m' ≤ n' ∧ nv = .int .i64 (n' : Int) ∧ mv = .int .i64 (m' : Int) ∧ o = .slice D R.length d ∧ uv = .bool (R.all id) ∧ Hid (s = R ++ turns n' m') ∧ R.length + n' ≤ n ∧ wr.ownsRow w.heap.size 62 1 (.slice D R.length d) R.length (tcells R) ∧ Below w.heap.size w wr) (fun nv _ _ _ _ => (intOf nv).toNat)
  case atStart => exact ⟨n, m, [], none, 0, h1, h40, hmn, rfl, rfl, rfl, rfl, H0, by simp, World.ownsRow_nil _ _ _ _, Below.refl _ _⟩
  case round =>
    obtain ⟨n', m', R, D, d, h1', h40', hmn', rfl, rfl, rfl, rfl, HS, hRn, hown, hbw⟩ := hrel
    have hsz := hbw.size
    by_cases h2 : m' < n'
    · clear H0 HN
      obtain ⟨k, hk⟩ : ∃ k, hlf n' = k := ⟨_, rfl⟩
      have hk1 := hlf_pos n'
      have hk2 := hlf_lt (n := n') (by omega)
      rw [hk] at hk1 hk2
      have hH := fun w => Lib.hid (refHalf n' k w h40' hk)
      have c1 : (m' : Int) < (n' : Int) := by omega
      have HA : Hid ((R ++ [true]).all id = R.all id) := by show _ = _; simp
      have HB : Hid ((R ++ [false]).all id = false) := by show _ = _; simp
      generalize R.all id = u at *
      by_cases hik : m' ≤ k
      · have HS' := Lib.hid (HS.out.trans (congrArg (R ++ ·) (HL n' m' h1' h2 k hk hik).out))
        clear HL HRr HS hk HB
        have hik' : (m' : Int) ≤ (k : Int) := by omega
        go_wp2_with fail
        refine (hH _).out.mono ?_
        rintro e w1 ⟨rfl, hw⟩
        subst hw
        clear hH
        go_wp2_with (at_builtin; refine app_turns _ rfl _ _ rfl w.heap.size _ R rfl (hown.alloc _) (some ⟨wr.heap.size, 0, none⟩) 1 [true] rfl (truth_row wr true _) (by simp; omega) (by simp; omega) ?_; intro v3 w3 hown3 hgrow3)
        have hb4 : Below w.heap.size w w3 := (hbw.alloc hsz _).grown hgrow3 (by simp; omega) (fun j hj => (hown.lt j hj).1)
        obtain ⟨D3, d3, rfl⟩ := own_shape hown3
        go_roundw
        case rel => exact ⟨k, m', R ++ [true], D3, d3, h1', by omega, hik, rfl, rfl, by simp, by rw [HA.out], by show s = _; rw [HS'.out, List.append_assoc]; rfl, by simp; omega, hown3, hb4⟩
        case measure => simp [intOf]; omega
      · have HS' := Lib.hid (HS.out.trans (congrArg (R ++ ·) (HRr n' m' h1' h2 k hk (by omega)).out))
        clear HL HRr HS hk HA
        have hik' : ¬ m' ≤ k := hik
        have e1 : (n' : Int) - (k : Int) = ((n' - k : Nat) : Int) := by omega
        have e2 : (m' : Int) - (k : Int) = ((m' - k : Nat) : Int) := by omega
        have hn2 : 1 ≤ m' - k := by omega
        have hn3 : n' - k < n' := by omega
        have hn4 : m' - k ≤ n' - k := by omega
        generalize n' - k = n'' at *
        generalize m' - k = i'' at *
        have hw1 : IntKind.i64.wrap (n'' : Int) = (n'' : Int) := by rw [IntKind.wrap_i64]; omega
        have hw2 : IntKind.i64.wrap (i'' : Int) = (i'' : Int) := by rw [IntKind.wrap_i64]; omega
        go_wp2_with fail
        refine (hH _).out.mono ?_
        rintro e w1 ⟨rfl, hw⟩
        subst hw
        clear hH
        go_wp2_with (at_builtin; refine app_turns _ rfl _ _ rfl w.heap.size _ R rfl (hown.alloc _) (some ⟨wr.heap.size, 0, none⟩) 1 [false] rfl (truth_row wr false _) (by simp; omega) (by simp; omega) ?_; intro v3 w3 hown3 hgrow3)
        have hb4 : Below w.heap.size w w3 := (hbw.alloc hsz _).grown hgrow3 (by simp; omega) (fun j hj => (hown.lt j hj).1)
        obtain ⟨D3, d3, rfl⟩ := own_shape hown3
        go_roundw
        case rel => exact ⟨n'', i'', R ++ [false], D3, d3, hn2, by omega, hn4, by go_num, by go_num, by simp, by rw [HB.out], by show s = _; rw [HS'.out, List.append_assoc]; rfl, by simp; omega, hown3, hb4⟩
        case measure => simp [intOf]; omega
    · have HS' : Hid (s = R) := by show s = R; rw [HS.out, (HN n' m' (by omega)).out, List.append_nil]
      have e : R = s := HS'.out.symm
      subst e
      have c1 : ¬ m' < n' := h2
      have hRow := Row.own hown
      clear HL HRr HN HS HS' H0 hown
      generalize hu : R.all id = u at *
      have HU := Lib.hid hu
      clear hu
      go_wp2
      go_ret2
      exact ⟨D, d, by rw [HU.out]; rfl, hRow, hbw⟩
end Go.Proofs.Ytlobpjpkldmnaaa
