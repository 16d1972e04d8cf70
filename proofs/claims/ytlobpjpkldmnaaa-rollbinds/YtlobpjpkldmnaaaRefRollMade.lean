/- The reference: RollMade returns what a text at a place, and hashes, make. -/
import Derived.Test.YtlobpjpkldmnaaaRollHash
import Derived.Test.YtlobpjpkldmnaaaRollRow
namespace Go.Proofs.Ytlobpjpkldmnaaa
set_option maxRecDepth 100000
open Go.RowKit

/-- What the first k hashes make. -/
def mkTo (h : Nat) (s : List Bool) (p : List Nat) (k : Nat) : Nat := ((s.reverse.zip p).take k).foldl (fun h z => two z.1 h z.2) h
theorem mkTo_zero (h : Nat) (s : List Bool) (p : List Nat) : mkTo h s p 0 = h := rfl
theorem mkTo_all (h : Nat) (s : List Bool) (p : List Nat) (k : Nat) (hk : p.length ≤ k) : mkTo h s p k = mk h s p := by
  unfold mkTo mk
  rw [List.take_of_length_le (by simp; omega)]
theorem rev_at (s : List Bool) (k : Nat) (hk : k < s.length) (b : Bool) (hb : s[s.length - 1 - k]? = some b) : s.reverse[k]? = some b := by
  rw [List.getElem?_reverse hk]
  exact hb
theorem mkTo_succ (h : Nat) (s : List Bool) (p : List Nat) (k : Nat) (hl : s.length = p.length) (hk : k < p.length) (b : Bool) (hb : s[s.length - 1 - k]? = some b) : mkTo h s p (k + 1) = two b (mkTo h s p k) p[k] := by
  have hb' := rev_at s k (by omega) b hb
  obtain ⟨hk', e⟩ := List.getElem?_eq_some_iff.1 hb'
  unfold mkTo
  rw [List.take_succ_eq_append_getElem (by simp; omega), List.foldl_append, List.getElem_zip, e]
  rfl
theorem mkTo_lt (h : Nat) (s : List Bool) (p : List Nat) (k : Nat) (hh : h < 18446744073709551616) : mkTo h s p k < 18446744073709551616 := by
  unfold mkTo
  generalize (s.reverse.zip p).take k = l
  induction l generalizing h with
  | nil => exact hh
  | cons z l ih => exact ih _ (Nat.lt_trans (two_lt _ _ _) (by decide))

set_option maxHeartbeats 4000000 in
theorem refRollMade (n i : Nat) (t : Bytes) (p : List Nat) (B : Option Addr) (c : Nat) (w : World) (h1 : 1 ≤ n) (h40 : n ≤ 40) (hi : i < n) (ht : t.length ≤ 40) (hm : p.length ≤ maxLen) (hp : ∀ z ∈ p, z < 18446744073709551616) (hB : Row w B (mcells p))
    (ok : Bool) (hok : (p.length == (sides n i).length) = ok) (r : Nat) (hr : (if ok = true then mk (Hash.of (4 :: t)) (sides n i) p else 0) = r) :
    Calls Try.prog 15 #[.int .i64 (n : Int), .int .i64 (i : Int), .string (S t), .slice B p.length c] w fun e w' => e = .returned (.tuple #[.int .u64 (r : Int), .bool ok]) ∧ Below w.heap.size w w' := by
  unfold maxLen at hm
  have hO := fun w => Lib.hid (refMark ([4] ++ t) w (by rw [List.length_append]; unfold maxLen; simp; omega))
  rw [show Hash.of ([4] ++ t) = Hash.of (4 :: t) from rfl] at hO
  have ho : Hash.of (4 :: t) < 18446744073709551616 := Nat.lt_trans (Hash.of_lt _) (by decide)
  have e4 : (⟨#[4]⟩ : ByteArray) = S [4] := rfl
  have hsl := sides_length n i
  have HL : ∀ n i : Nat, 2 ≤ n → ∀ k, hlf n = k → i < k → Hid (sides n i = true :: sides k i) := fun n i h2 k hk h => by show _ = _; rw [sides_left h2 (by omega), hk]
  have HRr : ∀ n i : Nat, 2 ≤ n → ∀ k, hlf n = k → k ≤ i → Hid (sides n i = false :: sides (n - k) (i - k)) := fun n i h2 k hk h => by show _ = _; rw [sides_right h2 (by omega), hk]
  have HN : ∀ n i : Nat, n ≤ 1 → Hid (sides n i = []) := fun n i h => sides_none i h
  obtain ⟨s, hs⟩ : ∃ s, sides n i = s := ⟨_, rfl⟩
  rw [hs] at hok hr hsl
  have H0 : Hid (s = [] ++ sides n i) := by show s = [] ++ sides n i; rw [hs]; rfl
  have HP := Lib.hid hp
  have HOK := Lib.hid hok
  have HRES := Lib.hid hr
  clear hs hok hr hp
  go_enter Try.func15, Try.ntmps15
  go_wp2
  go_loopw [0, 1, 10] (fun nv iv o wr => ∃ (n' i' : Nat) (R : List Bool) (D : Option Addr) (d : Nat), 1 ≤ n' ∧ n' ≤ 40 ∧ i' < n' ∧ nv = .int .i64 (n' : Int) ∧ iv = .int .i64 (i' : Int) ∧ o = .slice D R.length d ∧ Hid (s = R ++ sides n' i') ∧ R.length + n' ≤ n ∧ wr.ownsRow w.heap.size 4 1 (.slice D R.length d) R.length (tcells R) ∧ Below w.heap.size w wr) (fun nv _ _ _ => (intOf nv).toNat)
  case atStart => exact ⟨n, i, [], none, 0, h1, h40, hi, rfl, rfl, rfl, H0, by simp, World.ownsRow_nil _ _ _ _, Below.refl _ _⟩
  case round =>
    obtain ⟨n', i', R, D, d, h1', h40', hi', rfl, rfl, rfl, HS, hRn, hown, hbw⟩ := hrel
    have hsz := hbw.size
    by_cases h2 : 1 < n'
    · clear hO ho HOK HRES hsl H0 HN
      obtain ⟨k, hk⟩ : ∃ k, hlf n' = k := ⟨_, rfl⟩
      have hk1 := hlf_pos n'
      have hk2 := hlf_lt h2
      rw [hk] at hk1 hk2
      have hH := fun w => Lib.hid (refHalf n' k w h40' hk)
      have c1 : (1 : Int) < (n' : Int) := by omega
      by_cases hik : i' < k
      · have HS' := Lib.hid (HS.out.trans (congrArg (R ++ ·) (HL n' i' h2 k hk hik).out))
        clear HL HRr HS hk
        have hik' : (i' : Int) < (k : Int) := by omega
        go_wp2_with fail
        refine (hH _).out.mono ?_
        rintro e w1 ⟨rfl, hw⟩
        subst hw
        clear hH
        go_wp2_with (at_builtin; refine app_bools _ rfl _ _ rfl w.heap.size _ R rfl (hown.alloc _) (some ⟨wr.heap.size, 0, none⟩) 1 [true] rfl (truth_row wr true _) (by simp; omega) (by simp; omega) ?_; intro v3 w3 hown3 hgrow3)
        have hb4 : Below w.heap.size w w3 := (hbw.alloc hsz _).grown hgrow3 (by simp; omega) (fun j hj => (hown.lt j hj).1)
        obtain ⟨D3, d3, rfl⟩ := own_shape hown3
        go_roundw
        case rel => exact ⟨k, i', R ++ [true], D3, d3, hk1, by omega, hik, rfl, rfl, by simp, by show s = _; rw [HS'.out, List.append_assoc]; rfl, by simp; omega, hown3, hb4⟩
        case measure => simp [intOf]; omega
      · have HS' := Lib.hid (HS.out.trans (congrArg (R ++ ·) (HRr n' i' h2 k hk (by omega)).out))
        clear HL HRr HS hk
        have hik' : ¬ i' < k := hik
        have e1 : (n' : Int) - (k : Int) = ((n' - k : Nat) : Int) := by omega
        have e2 : (i' : Int) - (k : Int) = ((i' - k : Nat) : Int) := by omega
        have hn2 : 1 ≤ n' - k := by omega
        have hn3 : n' - k < n' := by omega
        have hn4 : i' - k < n' - k := by omega
        generalize n' - k = n'' at *
        generalize i' - k = i'' at *
        have hw1 : IntKind.i64.wrap (n'' : Int) = (n'' : Int) := by rw [IntKind.wrap_i64]; omega
        have hw2 : IntKind.i64.wrap (i'' : Int) = (i'' : Int) := by rw [IntKind.wrap_i64]; omega
        go_wp2_with fail
        refine (hH _).out.mono ?_
        rintro e w1 ⟨rfl, hw⟩
        subst hw
        clear hH
        go_wp2_with (at_builtin; refine app_bools _ rfl _ _ rfl w.heap.size _ R rfl (hown.alloc _) (some ⟨wr.heap.size, 0, none⟩) 1 [false] rfl (truth_row wr false _) (by simp; omega) (by simp; omega) ?_; intro v3 w3 hown3 hgrow3)
        have hb4 : Below w.heap.size w w3 := (hbw.alloc hsz _).grown hgrow3 (by simp; omega) (fun j hj => (hown.lt j hj).1)
        obtain ⟨D3, d3, rfl⟩ := own_shape hown3
        go_roundw
        case rel => exact ⟨n'', i'', R ++ [false], D3, d3, hn2, by omega, hn4, by go_num, by go_num, by simp, by show s = _; rw [HS'.out, List.append_assoc]; rfl, by simp; omega, hown3, hb4⟩
        case measure => simp [intOf]; omega
    · have HS' : Hid (s = R) := by show s = R; rw [HS.out, (HN n' i' (by omega)).out, List.append_nil]
      have e : R = s := HS'.out.symm
      subst e
      have c1 : ¬ (1 : Int) < (n' : Int) := by omega
      have hRow := Row.own hown
      have hBr := hB.below hbw
      clear HL HRr HN HS HS' H0 hown hB
      by_cases hlen : p.length = R.length
      · obtain rfl : ok = true := by rw [← HOK.out, hlen]; simp
        have HRES' : Hid (mk (Hash.of (4 :: t)) R p = r) := by
          have := HRES.out
          rwa [if_pos rfl] at this
        have HM0 : Hid (Hash.of (4 :: t) = mkTo (Hash.of (4 :: t)) R p 0) := rfl
        have hT := fun (k : Nat) (hk : k < p.length) => (fun (w : World) => Lib.hid (refTwo 5 (mkTo (Hash.of (4 :: t)) R p k) p[k] w (mkTo_lt _ _ _ _ ho) (HP.out _ (List.getElem_mem hk))))
        have hF := fun (k : Nat) (hk : k < p.length) => (fun (w : World) => Lib.hid (refTwo 5 p[k] (mkTo (Hash.of (4 :: t)) R p k) w (HP.out _ (List.getElem_mem hk)) (mkTo_lt _ _ _ _ ho)))
        rw [show ((5 : UInt8).toNat : Int) = 5 from rfl] at hT hF
        have HN1 := fun (k : Nat) (hk : k < p.length) b hb => Lib.hid (mkTo_succ (Hash.of (4 :: t)) R p k hlen.symm hk b hb)
        have HD := fun (k : Nat) (hk : p.length ≤ k) => Lib.hid (mkTo_all (Hash.of (4 :: t)) R p k hk)
        generalize Hash.of (4 :: t) = o at *
        have cl : ((p.length : Int) != (R.length : Int)) = false := by simp [hlen]
        have HLEN := Lib.hid hlen
        have hRl : R.length ≤ 40 := by omega
        have hpl : p.length ≤ 40 := by omega
        clear HRES HOK hlen hm
        go_wp2_with fail
        refine (hO _).out.mono ?_
        rintro e w1 ⟨rfl, hw⟩
        subst hw
        clear hO
        go_wp2
        go_loopw [12, 45] (fun mv iv wz => ∃ (k m : Nat), k ≤ p.length ∧ iv = .int .i64 (k : Int) ∧ mv = .int .u64 (m : Int) ∧ Hid (m = mkTo o R p k) ∧ Below wr.heap.size wr wz) (fun _ iv _ => p.length - (intOf iv).toNat)
        case atStart => exact ⟨0, o, Nat.zero_le _, rfl, rfl, HM0, Below.refl _ _⟩
        case round =>
          obtain ⟨k, m, hkl, rfl, rfl, HM, hbz⟩ := hrel
          by_cases hlt : k < p.length
          · obtain ⟨g, off, rfl, j1⟩ := (hBr.below hbz).mark k hlt
            have hjl : R.length - 1 - k < R.length := by have := HLEN.out; omega
            obtain ⟨b, hb⟩ : ∃ b, R[R.length - 1 - k]? = some b := ⟨_, List.getElem?_eq_getElem hjl⟩
            obtain ⟨g', off', hD, j2⟩ := (hRow.below hbz).truth _ b hb
            subst hD
            have HS1 := HN1 k hlt b hb
            have hTk := hT k hlt
            have hFk := hF k hlt
            have hMT := fun (s : Bytes) (hs : s.length ≤ 100) w => Lib.hid (refMark s w (by unfold maxLen; omega))
            rw [← HM.out] at HS1 hTk hFk
            generalize p[k] = x at *
            clear hT hF HN1 HD HM HM0 hb hBr hRow HP
            have i0 : (0 : Int) ≤ (k : Int) := by omega
            have i1 : (k : Int) < (p.length : Int) := by omega
            have e1 : (R.length : Int) - 1 - (k : Int) = ((R.length - 1 - k : Nat) : Int) := by have := HLEN.out; omega
            generalize R.length - 1 - k = j at *
            have hwl : IntKind.i64.wrap ((R.length : Int) - 1) = (R.length : Int) - 1 := by rw [IntKind.wrap_i64]; omega
            have hwj : IntKind.i64.wrap (j : Int) = (j : Int) := by rw [IntKind.wrap_i64]; omega
            have i2 : (0 : Int) ≤ (j : Int) := by omega
            have i3 : (j : Int) < (R.length : Int) := by omega
            cases b with
            | true =>
              have hl : (said 5 m x).length ≤ 100 := by unfold said; simp [be8_length]
              have hM1 := hMT _ hl
              have HS2 : Hid (mkTo o R p (k + 1) = Hash.of (said 5 m x)) := HS1.out
              clear HS1 hFk hMT hl
              generalize said 5 m x = u at *
              go_wp2_with fail
              refine (hTk _).out.mono ?_
              rintro e w2 ⟨rfl, hb2⟩
              clear hTk
              go_wp2_with fail
              refine (hM1 _).out.mono ?_
              rintro e w3 ⟨rfl, hw⟩
              subst hw
              clear hM1
              go_wp2
              go_roundw
              case rel => exact ⟨k + 1, Hash.of u, by omega, by go_num, rfl, HS2.out.symm, below_chain hbz hb2⟩
              case measure => simp [intOf]; omega
            | false =>
              have hl : (said 5 x m).length ≤ 100 := by unfold said; simp [be8_length]
              have hM1 := hMT _ hl
              have HS2 : Hid (mkTo o R p (k + 1) = Hash.of (said 5 x m)) := HS1.out
              clear HS1 hTk hMT hl
              generalize said 5 x m = u at *
              go_wp2_with fail
              refine (hFk _).out.mono ?_
              rintro e w2 ⟨rfl, hb2⟩
              clear hFk
              go_wp2_with fail
              refine (hM1 _).out.mono ?_
              rintro e w3 ⟨rfl, hw⟩
              subst hw
              clear hM1
              go_wp2
              go_roundw
              case rel => exact ⟨k + 1, Hash.of u, by omega, by go_num, rfl, HS2.out.symm, below_chain hbz hb2⟩
              case measure => simp [intOf]; omega
          · have HF : Hid (r = m) := by show r = m; rw [HM.out, (HD k (by omega)).out, HRES'.out]
            clear hT hF HN1 HD HM HM0 hBr hRow HP
            go_wp2
            go_ret2
            exact ⟨by rw [HF.out]; rfl, below_chain hbw hbz⟩
      · obtain rfl : ok = false := by rw [← HOK.out]; exact beq_eq_false_iff_ne.2 hlen
        obtain rfl : (0 : Nat) = r := by have := HRES.out; rwa [if_neg (by simp)] at this
        have cl : ((p.length : Int) != (R.length : Int)) = true := by simp; omega
        clear HRES HOK hlen hO
        go_wp2
        go_ret2
        exact ⟨rfl, hbw⟩
end Go.Proofs.Ytlobpjpkldmnaaa
