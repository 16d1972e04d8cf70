/- The laws' own 'said': all preimages on the way from a string of a log up, from the deepest one on. -/
import Derived.Test.YtlobpjpkldmnaaaRefRollMade
namespace Go.Proofs.Ytlobpjpkldmnaaa
set_option maxRecDepth 100000
open Go.RowKit

/-- A preimage on the way: the other hash stands behind, or ahead. -/
def sd (b : Bool) (h q : Nat) : Bytes := if b then said 5 h q else said 5 q h
theorem sd_length (b : Bool) (h q : Nat) : (sd b h q).length = 17 := by unfold sd said; cases b <;> simp [be8_length]
theorem two_sd (b : Bool) (h q : Nat) : two b h q = Hash.of (sd b h q) := rfl
/-- The preimage behind k steps. -/
def sdAt (t : Bytes) (s : List Bool) (p : List Nat) : Nat → Bytes
  | 0 => 4 :: t
  | k + 1 => sd (s.reverse.getD k false) (Hash.of (sdAt t s p k)) (p.getD k 0)
theorem sdAt_succ (t : Bytes) (s : List Bool) (p : List Nat) (k : Nat) (hl : s.length = p.length) (hk : k < p.length) (b : Bool) (hb : s[s.length - 1 - k]? = some b) : sdAt t s p (k + 1) = sd b (Hash.of (sdAt t s p k)) p[k] := by
  have hb' := rev_at s k (by omega) b hb
  show sd (s.reverse.getD k false) _ (p.getD k 0) = _
  rw [List.getD_eq_getElem?_getD, List.getD_eq_getElem?_getD, hb', List.getElem?_eq_getElem hk]
  rfl
theorem sdAt_length (t : Bytes) (s : List Bool) (p : List Nat) (k : Nat) (ht : t.length ≤ 40) : (sdAt t s p k).length ≤ 41 := by
  cases k with
  | zero => show (4 :: t).length ≤ 41; rw [List.length_cons]; omega
  | succ k => show (sd _ _ _).length ≤ 41; rw [sd_length]; omega
theorem sdAt_mk (t : Bytes) (s : List Bool) (p : List Nat) (hl : s.length = p.length) (k : Nat) (hk : k ≤ p.length) : Hash.of (sdAt t s p k) = mkTo (Hash.of (4 :: t)) s p k := by
  induction k with
  | zero => rfl
  | succ k ih =>
    obtain ⟨b, hb⟩ : ∃ b, s[s.length - 1 - k]? = some b := ⟨_, List.getElem?_eq_getElem (by omega)⟩
    rw [sdAt_succ t s p k hl hk b hb, mkTo_succ _ s p k hl hk b hb, ih (by omega), two_sd]
def saids (t : Bytes) (s : List Bool) (p : List Nat) (k : Nat) : List Bytes := (List.range (k + 1)).map (sdAt t s p)
theorem saids_length (t : Bytes) (s : List Bool) (p : List Nat) (k : Nat) : (saids t s p k).length = k + 1 := by simp [saids]
theorem saids_succ (t : Bytes) (s : List Bool) (p : List Nat) (k : Nat) : saids t s p (k + 1) = saids t s p k ++ [sdAt t s p (k + 1)] := by
  unfold saids
  rw [List.range_succ, List.map_append]
  rfl
theorem saids_at (t : Bytes) (s : List Bool) (p : List Nat) (k j : Nat) (hj : j < (saids t s p k).length) : (saids t s p k)[j] = sdAt t s p j := by simp [saids]
theorem str_own (w : World) (s : Bytes) (base : Nat) (hb : base ≤ w.heap.size) : (w.alloc (.cells #[.string (S s)] 9)).ownsRow base 9 1 (.slice (some ⟨w.heap.size, 0, none⟩) 1 1) 1 (scells [s]) := by
  refine ⟨rfl, .inr ⟨w.heap.size, 1, _, rfl, hb, heap_alloc_new w _, Nat.le_refl _, by unfold maxLen; omega, rfl, rfl⟩⟩

/-- What said leaves. -/
def SaidGives (t : Bytes) (s : List Bool) (p : List Nat) (w : World) (e : Ending) (w' : World) : Prop :=
  ∃ D d, e = .returned (.slice D (saids t s p p.length).length d) ∧ Row w' D (scells (saids t s p p.length)) ∧ Below w.heap.size w w'

set_option maxHeartbeats 4000000 in
theorem keepSaid (n i : Nat) (t : Bytes) (p : List Nat) (B : Option Addr) (c : Nat) (w : World) (h1 : 1 ≤ n) (h40 : n ≤ 40) (hi : i < n) (ht : t.length ≤ 40) (hp : ∀ z ∈ p, z < 18446744073709551616) (hB : Row w B (mcells p)) (hlen : p.length = (sides n i).length) :
    Calls Try.prog 23 #[.int .i64 (n : Int), .int .i64 (i : Int), .string (S t), .slice B p.length c] w (SaidGives t (sides n i) p w) := by
  have e4 : (⟨#[4]⟩ : ByteArray) = S [4] := rfl
  have hsl := sides_length n i
  have HL : ∀ n i : Nat, 2 ≤ n → ∀ k, hlf n = k → i < k → Hid (sides n i = true :: sides k i) := fun n i h2 k hk h => by show _ = _; rw [sides_left h2 (by omega), hk]
  have HRr : ∀ n i : Nat, 2 ≤ n → ∀ k, hlf n = k → k ≤ i → Hid (sides n i = false :: sides (n - k) (i - k)) := fun n i h2 k hk h => by show _ = _; rw [sides_right h2 (by omega), hk]
  have HN : ∀ n i : Nat, n ≤ 1 → Hid (sides n i = []) := fun n i h => sides_none i h
  obtain ⟨s, hs⟩ : ∃ s, sides n i = s := ⟨_, rfl⟩
  rw [hs] at hlen hsl ⊢
  have H0 : Hid (s = [] ++ sides n i) := by show s = [] ++ sides n i; rw [hs]; rfl
  have HP := Lib.hid hp
  have HLEN := Lib.hid hlen
  have hpl : p.length ≤ 40 := by omega
  clear hs hp hlen
  go_enter Try.func23, Try.ntmps23
  go_wp2
  go_loopw [0, 1, 9] (fun nv iv o wr => ∃ (n' i' : Nat) (R : List Bool) (D : Option Addr) (d : Nat), 1 ≤ n' ∧ n' ≤ 40 ∧ i' < n' ∧ nv = .int .i64 (n' : Int) ∧ iv = .int .i64 (i' : Int) ∧ o = .slice D R.length d ∧ Hid (s = R ++ sides n' i') ∧ R.length + n' ≤ n ∧ wr.ownsRow w.heap.size 4 1 (.slice D R.length d) R.length (tcells R) ∧ Below w.heap.size w wr) (fun nv _ _ _ => (intOf nv).toNat)
  case atStart => exact ⟨n, i, [], none, 0, h1, h40, hi, rfl, rfl, rfl, H0, by simp, World.ownsRow_nil _ _ _ _, Below.refl _ _⟩
  case round =>
    obtain ⟨n', i', R, D, d, h1', h40', hi', rfl, rfl, rfl, HS, hRn, hown, hbw⟩ := hrel
    have hsz := hbw.size
    by_cases h2 : 1 < n'
    · clear HLEN H0 HN HP hB
      obtain ⟨k, hk⟩ : ∃ k, hlf n' = k := ⟨_, rfl⟩
      have hk1 := hlf_pos n'
      have hk2 := hlf_lt h2
      have HH0 : Hid (HalfAt n' 1) := ⟨hlf_pos n', .inl rfl⟩
      rw [hk] at hk1 hk2
      have HK := Lib.hid hk
      have c1 : (1 : Int) < (n' : Int) := by omega
      go_wp2
      go_loop [10] (fun q => ∃ j : Nat, j ≤ 32 ∧ q = .int .i64 (j : Int) ∧ Hid (HalfAt n' j)) (fun q => 64 - (intOf q).toNat)
      case atStart => exact ⟨1, by omega, rfl, HH0⟩
      case round =>
        obtain ⟨j, hj, rfl, H⟩ := hrel
        have hj1 : 1 ≤ j := by have := H.out.2; omega
        by_cases hlt : j + j < n'
        · have H' := Lib.hid (H.out.next (by omega) hlt)
          have hj' : j + j ≤ 32 := by have := H'.out.2; omega
          have c2 : 2 * (j : Int) < (n' : Int) := by omega
          have hwj : IntKind.i64.wrap (2 * (j : Int)) = 2 * (j : Int) := by rw [IntKind.wrap_i64]; omega
          have hwj2 : IntKind.i64.wrap ((j : Int) * 2) = (j : Int) * 2 := by rw [IntKind.wrap_i64]; omega
          go_wp2
          go_round
          case rel => exact ⟨j + j, hj', by go_num, H'⟩
          case measure => simp [intOf]; omega
        · have hjk : k = j := by have := H.out.done (by omega) hlt; have := HK.out; omega
          subst hjk
          have c2 : ¬ 2 * (k : Int) < (n' : Int) := by omega
          have hwj : IntKind.i64.wrap (2 * (k : Int)) = 2 * (k : Int) := by rw [IntKind.wrap_i64]; omega
          clear hlt H HH0
          by_cases hik : i' < k
          · have HS' := Lib.hid (HS.out.trans (congrArg (R ++ ·) (HL n' i' h2 k hk hik).out))
            clear HL HRr HS hk HK
            have hik' : (i' : Int) < (k : Int) := by omega
            go_wp2_with (at_builtin; refine app_bools _ rfl _ _ rfl w.heap.size _ R rfl (hown.alloc _) (some ⟨wr.heap.size, 0, none⟩) 1 [true] rfl (truth_row wr true _) (by simp; omega) (by simp; omega) ?_; intro v3 w3 hown3 hgrow3)
            have hb4 : Below w.heap.size w w3 := (hbw.alloc hsz _).grown hgrow3 (by simp; omega) (fun j hj => (hown.lt j hj).1)
            obtain ⟨D3, d3, rfl⟩ := own_shape hown3
            go_roundw
            case rel => exact ⟨k, i', R ++ [true], D3, d3, hk1, by omega, hik, rfl, rfl, by simp, by show s = _; rw [HS'.out, List.append_assoc]; rfl, by simp; omega, hown3, hb4⟩
            case measure => simp [intOf]; omega
          · have HS' := Lib.hid (HS.out.trans (congrArg (R ++ ·) (HRr n' i' h2 k hk (by omega)).out))
            clear HL HRr HS hk HK
            have hik' : ¬ i' < k := hik
            have e1 : (n' : Int) - (k : Int) = ((n' - k : Nat) : Int) := by omega
            have e2 : (i' : Int) - (k : Int) = ((i' - k : Nat) : Int) := by omega
            have hn2 : 1 ≤ n' - k := by omega
            have hn3 : n' - k < n' := by omega
            have hn4 : i' - k < n' - k := by omega
            generalize n' - k = n'' at *
            generalize i' - k = i'' at *
            have hw1 : IntKind.i64.wrap (n'' : Int) = (n'' : Int) := by rw [IntKind.wrap_i64]; omega
            have hw2 : IntKind.i64.wrap (i'' : Int) = (i'' : Int) := by rw [IntKind.wrap_i64]; omega
            go_wp2_with (at_builtin; refine app_bools _ rfl _ _ rfl w.heap.size _ R rfl (hown.alloc _) (some ⟨wr.heap.size, 0, none⟩) 1 [false] rfl (truth_row wr false _) (by simp; omega) (by simp; omega) ?_; intro v3 w3 hown3 hgrow3)
            have hb4 : Below w.heap.size w w3 := (hbw.alloc hsz _).grown hgrow3 (by simp; omega) (fun j hj => (hown.lt j hj).1)
            obtain ⟨D3, d3, rfl⟩ := own_shape hown3
            go_roundw
            case rel => exact ⟨n'', i'', R ++ [false], D3, d3, hn2, by omega, hn4, by go_num, by go_num, by simp, by show s = _; rw [HS'.out, List.append_assoc]; rfl, by simp; omega, hown3, hb4⟩
            case measure => simp [intOf]; omega
    · have HS' : Hid (s = R) := by show s = R; rw [HS.out, (HN n' i' (by omega)).out, List.append_nil]
      have e : R = s := HS'.out.symm
      subst e
      have c1 : ¬ (1 : Int) < (n' : Int) := by omega
      have hRow := Row.own hown
      have hBr := hB.below hbw
      have HN1 := fun (k : Nat) (hk : k < p.length) b hb => Lib.hid (sdAt_succ t R p k HLEN.out.symm hk b hb)
      have HX := fun (k : Nat) => Lib.hid (sdAt_length t R p k ht)
      have HSU := fun (k : Nat) => Lib.hid (saids_succ t R p k)
      have HSL := fun (k : Nat) => Lib.hid (saids_length t R p k)
      have HSA := fun (k : Nat) hj => Lib.hid (saids_at t R p k k hj)
      have HO0 : Hid ([[4] ++ t] = saids t R p 0) := rfl
      have hRl : R.length ≤ 40 := by omega
      have hown0 := str_own wr ([4] ++ t) wr.heap.size (Nat.le_refl _)
      have hb0 := (Below.refl wr.heap.size wr).alloc (Nat.le_refl _) (.cells #[.string (S ([4] ++ t))] 9)
      clear HL HRr HN HS HS' H0 hown hB
      obtain ⟨vr, hvr⟩ : ∃ v, v = wr := ⟨_, rfl⟩
      subst hvr
      go_wp2
      go_loopw [11, 44] (fun o iv wz => ∃ (k : Nat) (O : List Bytes) (E : Option Addr) (ec : Nat), k ≤ p.length ∧ iv = .int .i64 (k : Int) ∧ o = .slice E O.length ec ∧ Hid (O = saids t R p k) ∧ O.length ≤ k + 1 ∧ k < O.length ∧ wz.ownsRow vr.heap.size 9 1 (.slice E O.length ec) O.length (scells O) ∧ Below vr.heap.size vr wz) (fun _ iv _ => p.length - (intOf iv).toNat)
      case atStart => exact ⟨0, [[4] ++ t], _, 1, Nat.zero_le _, rfl, rfl, HO0, by simp, by simp, hown0, hb0⟩
      case round =>
        obtain ⟨k, O, E, ec, hkl, rfl, rfl, HO, hOl, hkO, hown, hbz⟩ := hrel
        have hszz := hbz.size
        by_cases hlt : k < p.length
        · obtain ⟨g, off, hBa, j1⟩ := (hBr.below hbz).mark k hlt
          subst hBa
          have hjl : R.length - 1 - k < R.length := by have := HLEN.out; omega
          obtain ⟨b, hb⟩ : ∃ b, R[R.length - 1 - k]? = some b := ⟨_, List.getElem?_eq_getElem hjl⟩
          obtain ⟨g', off', hD, j2⟩ := (hRow.below hbz).truth _ b hb
          subst hD
          obtain ⟨g2, off2, hE, j3⟩ := (Row.own hown).strR k hkO
          subst hE
          have hOk : O[k] = sdAt t R p k := by
            have := HO.out
            subst this
            exact (HSA k hkO).out
          have HS1 := HN1 k hlt b hb
          have hxl := (HX k).out
          have hz64 := HP.out _ (List.getElem_mem hlt)
          have HSk := HSU k
          have HSLk := HSL (k + 1)
          rw [hOk] at j3
          have hM := fun w => Lib.hid (markOf (sdAt t R p k) w (by unfold maxLen; omega))
          have hx64 : Hash.of (sdAt t R p k) < 18446744073709551616 := Nat.lt_trans (Hash.of_lt _) (by decide)
          generalize sdAt t R p k = x at *
          generalize Hash.of x = h at *
          generalize p[k] = z at *
          clear hOk HN1 hb HX HSA HSU HSL
          have i0 : (0 : Int) ≤ (k : Int) := by omega
          have i1 : (k : Int) < (p.length : Int) := by omega
          have i4 : (k : Int) < (O.length : Int) := by omega
          have e1 : (R.length : Int) - 1 - (k : Int) = ((R.length - 1 - k : Nat) : Int) := by have := HLEN.out; omega
          generalize R.length - 1 - k = j at *
          have hwl : IntKind.i64.wrap ((R.length : Int) - 1) = (R.length : Int) - 1 := by rw [IntKind.wrap_i64]; omega
          have hwj : IntKind.i64.wrap (j : Int) = (j : Int) := by rw [IntKind.wrap_i64]; omega
          have i2 : (0 : Int) ≤ (j : Int) := by omega
          have i3 : (j : Int) < (R.length : Int) := by omega
          have HSD : Hid (O ++ [sdAt t R p (k + 1)] = saids t R p (k + 1)) := by show _ = _; rw [HSk.out, HO.out]
          cases b with
          | true =>
            have hT := fun w => Lib.hid (markSaid 5 h z w hx64 hz64)
            rw [show ((5 : UInt8).toNat : Int) = 5 from rfl] at hT
            have HSD' : Hid (O ++ [said 5 h z] = saids t R p (k + 1)) := by show _ = _; rw [← HSD.out, HS1.out]; rfl
            clear HSD HSk HS1
            generalize said 5 h z = u at *
            go_wp2_with fail
            refine (hM _).out.mono ?_
            rintro e w1 ⟨rfl, m1, rfl⟩
            clear hM
            go_wp2_with fail
            refine (hT _).out.mono ?_
            rintro e w2 ⟨rfl, hb2⟩
            clear hT
            have hbz2 := below_chain (below_drewN hbz m1) hb2
            have hown2 := own_below (own_below hown (below_of_drewN _ _ m1)) hb2
            go_wp2_with (at_builtin; refine app_strs _ rfl _ _ rfl vr.heap.size _ O rfl (hown2.alloc _) ⟨w2.heap.size, 0, none⟩ 1 [u] 1 rfl rfl (str_one w2 u _) (by simp; omega) (by have := hbz2.size; simp; omega) ?_; intro v3 w3 hown3 hgrow3)
            have hb4 : Below vr.heap.size vr w3 := (hbz2.alloc hbz2.size _).grown hgrow3 (by have := hbz2.size; simp; omega) (fun j hj => (hown2.lt j hj).1)
            obtain ⟨D3, d3, rfl⟩ := own_shape hown3
            go_roundw
            case rel => exact ⟨k + 1, O ++ [u], D3, d3, by omega, by go_num, by simp, HSD', by simp; omega, by simp; omega, hown3, hb4⟩
            case measure => simp [intOf]; omega
          | false =>
            have hT := fun w => Lib.hid (markSaid 5 z h w hz64 hx64)
            rw [show ((5 : UInt8).toNat : Int) = 5 from rfl] at hT
            have HSD' : Hid (O ++ [said 5 z h] = saids t R p (k + 1)) := by show _ = _; rw [← HSD.out, HS1.out]; rfl
            clear HSD HSk HS1
            generalize said 5 z h = u at *
            go_wp2_with fail
            refine (hM _).out.mono ?_
            rintro e w1 ⟨rfl, m1, rfl⟩
            clear hM
            go_wp2_with fail
            refine (hT _).out.mono ?_
            rintro e w2 ⟨rfl, hb2⟩
            clear hT
            have hbz2 := below_chain (below_drewN hbz m1) hb2
            have hown2 := own_below (own_below hown (below_of_drewN _ _ m1)) hb2
            go_wp2_with (at_builtin; refine app_strs _ rfl _ _ rfl vr.heap.size _ O rfl (hown2.alloc _) ⟨w2.heap.size, 0, none⟩ 1 [u] 1 rfl rfl (str_one w2 u _) (by simp; omega) (by have := hbz2.size; simp; omega) ?_; intro v3 w3 hown3 hgrow3)
            have hb4 : Below vr.heap.size vr w3 := (hbz2.alloc hbz2.size _).grown hgrow3 (by have := hbz2.size; simp; omega) (fun j hj => (hown2.lt j hj).1)
            obtain ⟨D3, d3, rfl⟩ := own_shape hown3
            go_roundw
            case rel => exact ⟨k + 1, O ++ [u], D3, d3, by omega, by go_num, by simp, HSD', by simp; omega, by simp; omega, hown3, hb4⟩
            case measure => simp [intOf]; omega
        · obtain rfl : k = p.length := by omega
          have c2 : ¬ ((p.length : Nat) : Int) < (p.length : Int) := by omega
          have hRowO := Row.own hown
          clear HN1 HX HSU HSL HSA hown
          go_wp2
          go_ret
          exact ⟨E, ec, by rw [← HO.out]; rfl, by rw [← HO.out]; exact hRowO, below_chain hbw hbz⟩
end Go.Proofs.Ytlobpjpkldmnaaa
