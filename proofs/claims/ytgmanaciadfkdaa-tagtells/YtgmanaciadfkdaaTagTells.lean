/- The law TagTells returns true: for every key, strings, numbers and request, Of, Right, Ask and Holds return what the reference returns (strings of at most 1000 bytes; else the law asks nothing). Nothing that was there is written. No conditions. -/
import Derived.Test.YtgmanaciadfkdaaLaw
import Derived.Test.YtgmanaciadfkdaaTag
import Derived.Test.YtgmanaciadfkdaaAsks
import Derived.Deep.RegionHeld3
namespace Go.Proofs.Ytgmanaciadfkdaa
set_option maxRecDepth 100000
open Go.ChangeShapes Go.WideShapes Go.ChangeAt Go.RowKit

/-- Ask, whatever it is given. -/
theorem tagAsk_any (key : Nat) (n v : Bytes) (num : Nat) (hk : key < 18446744073709551616) (hn : n.length ≤ maxLen) (hv : v.length ≤ maxLen) (hnum : num < 18446744073709551616) (r : Int) (hr : askFault n v = r) :
    ∃ (X Y : Bytes) (N T : Nat), (∀ w : World, Calls Try.prog 6 #[.int .u64 (key : Int), .string (S n), .string (S v), .int .u64 (num : Int)] w fun e w' => e = .returned (.tuple #[.agg #[.string (S X), .string (S Y), .int .u64 (N : Int), .int .u64 (T : Int)], .int .i64 r]) ∧ Below w.heap.size w w') ∧
      (r = 0 → n = X ∧ v = Y ∧ num = N ∧ askTag key n v num = T) ∧ (r ≠ 0 → [] = X ∧ [] = Y ∧ 0 = N ∧ 0 = T) := by
  by_cases h : r = 0
  · subst h
    exact ⟨n, v, num, _, fun w => tagAsk_yes key n v num w hk hnum hr _ rfl, fun _ => ⟨rfl, rfl, rfl, rfl⟩, fun h => absurd rfl h⟩
  · exact ⟨[], [], 0, 0, fun w => tagAsk_no key n v num w hn hv r hr h, fun e => absurd e h, fun _ => ⟨rfl, rfl, rfl, rfl⟩⟩

set_option maxHeartbeats 8000000 in
theorem tagTells_walk (key : Nat) (s : Bytes) (t : Nat) (n v : Bytes) (num : Nat) (an av : Bytes) (anum at' : Nat) (w : World) (hk : key < 18446744073709551616) (hs : s.length ≤ maxLen) (hn : n.length ≤ maxLen) (hv : v.length ≤ maxLen) (hnum : num < 18446744073709551616)
    (han : an.length ≤ maxLen) (hav : av.length ≤ maxLen) (hanum : anum < 18446744073709551616) :
    Calls Try.prog 3 #[.int .u64 (key : Int), .string (S s), .int .u64 (t : Int), .string (S n), .string (S v), .int .u64 (num : Int), .agg #[.string (S an), .string (S av), .int .u64 (anum : Int), .int .u64 (at' : Int)]] w fun e w' => e = .returned (.bool true) ∧ Below w.heap.size w w' := by
  obtain ⟨r, hr⟩ : ∃ r, askFault n v = r := ⟨_, rfl⟩
  obtain ⟨X, Y, N, T, hA0, hY, hZ⟩ := tagAsk_any key n v num hk hn hv hnum r hr
  have hA := fun w => Lib.hid (hA0 w)
  have hF := fun w => Lib.hid (refAskFault n v w hn hv r hr)
  have HY := Lib.hid hY
  have HZ := Lib.hid hZ
  have HK := Lib.hid hk
  have HN := Lib.hid hnum
  have HV : Hid (r = 0 → n.length + v.length ≤ 596) := by
    show r = 0 → _
    intro h
    obtain ⟨h1, h2⟩ := (askFault_ok n v).1 (hr.trans h)
    have := Bin.name_len h1
    omega
  obtain ⟨ra, hra⟩ : ∃ r, askFault an av = r := ⟨_, rfl⟩
  have hG := fun w => Lib.hid (refAskFault an av w han hav ra hra)
  have hH := fun w => Lib.hid (tagHolds key an av anum at' w hk han hav hanum _ rfl)
  have HR := Lib.hid hra
  have HA := Lib.hid hanum
  clear hA0 hY hZ hr hra hn hnum han hanum
  have hz0 := Bx.new w _ rfl _ [.string (S an), .string (S av), .int .u64 (anum : Int), .int .u64 (at' : Int)] 24 rfl
  unfold maxLen at hs hv hav
  go_enter Try.func3, Try.ntmps3
  go_wp2_with fail
  refine (hA _).out.mono ?_
  rintro e w1 ⟨rfl, hb1⟩
  have hz1 := hz0.below hb1
  have hb01 : Below w.heap.size w w1 := below_chain ((Below.refl _ _).alloc (Nat.le_refl _) _) hb1
  have hz2 := hz1.alloc (.cells #[.string (S X), .string (S Y), .int .u64 (N : Int), .int .u64 (T : Int)] 24)
  have hx2 := Bx.new w1 _ rfl #[.string (S X), .string (S Y), .int .u64 (N : Int), .int .u64 (T : Int)] [.string (S X), .string (S Y), .int .u64 (N : Int), .int .u64 (T : Int)] 24 rfl
  have hb02 := hb01.alloc hb01.size (.cells #[.string (S X), .string (S Y), .int .u64 (N : Int), .int .u64 (T : Int)] 24)
  clear hz0 hz1 hb1 hb01 hA
  obtain ⟨⟨z0, z1, z2, z3⟩, -⟩ := hz2.get4
  by_cases h1 : s.length ≤ 1000
  case neg =>
    have c1 : decide ((1000 : Int) < (s.length : Int)) = true := decide_eq_true (by omega)
    go_wp2
    go_ret
    exact ⟨rfl, hb02⟩
  have c1 : decide ((1000 : Int) < (s.length : Int)) = false := decide_eq_false (by omega)
  by_cases h2 : v.length ≤ 1000
  case neg =>
    have c2 : decide ((1000 : Int) < (v.length : Int)) = true := decide_eq_true (by omega)
    go_wp2
    go_ret
    exact ⟨rfl, hb02⟩
  have c2 : decide ((1000 : Int) < (v.length : Int)) = false := decide_eq_false (by omega)
  by_cases h3 : av.length ≤ 1000
  case neg =>
    have c3 : decide ((1000 : Int) < (av.length : Int)) = true := decide_eq_true (by omega)
    go_wp2
    go_ret
    exact ⟨rfl, hb02⟩
  have c3 : decide ((1000 : Int) < (av.length : Int)) = false := decide_eq_false (by omega)
  have hO := fun w => Lib.hid (tagOf_is key s w hk (by omega) _ rfl)
  have hP := fun w => Lib.hid (refTag key s w hk (by omega) _ rfl)
  have hQ := fun w => Lib.hid (tagRight key s t w hk (by omega) _ rfl)
  have HE : Hid (((tagOf key s : Int) == (t : Int)) = (tagOf key s == t)) := by
    show _ = _
    rw [Bool.eq_iff_iff, beq_iff_eq, beq_iff_eq]
    exact ⟨fun h => by omega, fun h => by omega⟩
  generalize (tagOf key s == t) = b at *
  generalize tagOf key s = x at *
  have hE := HE.out
  clear HE hk h1 h2 h3 hs hv hav
  obtain ⟨g, hg⟩ : ∃ g, w1.heap.size = g := ⟨_, rfl⟩
  rw [hg] at hx2
  go_wp2_with fail
  refine (hO _).out.mono ?_
  rintro e w2 ⟨rfl, hb2⟩
  go_wp2_with fail
  refine (hP _).out.mono ?_
  rintro e w3 ⟨rfl, hb3⟩
  go_wp2_with fail
  refine (hQ _).out.mono ?_
  rintro e w4 ⟨rfl, hb4⟩
  go_wp2_with fail
  refine (hP _).out.mono ?_
  rintro e w5 ⟨rfl, hb5⟩
  have hz5 := (((hz2.below hb2).below hb3).below hb4).below hb5
  have hx5 := (((hx2.below hb2).below hb3).below hb4).below hb5
  have hb05 := below_chain (below_chain (below_chain (below_chain hb02 hb2) hb3) hb4) hb5
  clear hz2 hx2 hb02 hb2 hb3 hb4 hb5 hO hP hQ z0 z1 z2 z3
  obtain ⟨⟨z0, z1, z2, z3⟩, -⟩ := hz5.get4
  obtain ⟨⟨q0, q1, q2, q3⟩, -⟩ := (hz5.drewN 1).get4
  have q4 := hx5.drewN 1
  have q5 := bdrew hb05
  clear hg hz5
  have hs4 : (b != b) = false := by simp
  by_cases ha : ra = 0
  · have hV : an.length + av.length ≤ 596 := by
      obtain ⟨h1, h2⟩ := (askFault_ok an av).1 (HR.out.trans ha)
      have := Bin.name_len h1
      omega
    have hI := fun w => Lib.hid (refAskTag key anum an av w HK.out HA.out hV _ rfl)
    have HE : Hid (((askTag key an av anum : Int) == (at' : Int)) = holdsB key an av anum at') := by
      show _ = _
      rw [holdsB, decide_eq_true (HR.out.trans ha), Bool.true_and, Bool.eq_iff_iff, beq_iff_eq, beq_iff_eq]
      exact ⟨fun h => by omega, fun h => by omega⟩
    generalize holdsB key an av anum at' = y at *
    generalize askTag key an av anum = z at *
    have hE2 := HE.out
    subst ha
    clear HE hV HR
    have hH' : ∀ W : World, (W.cell? ⟨w.heap.size, 0, none⟩ = some (.string (S an)) ∧ W.cell? ⟨w.heap.size, 1, none⟩ = some (.string (S av)) ∧ W.cell? ⟨w.heap.size, 2, none⟩ = some (.int .u64 (anum : Int)) ∧ W.cell? ⟨w.heap.size, 3, none⟩ = some (.int .u64 (at' : Int)) ∧ Bx W g [.string (S X), .string (S Y), .int .u64 (N : Int), .int .u64 (T : Int)] ∧ Below w.heap.size w W) → Hid (Calls Try.prog 10 #[.int .u64 (key : Int), .agg #[.string (S an), .string (S av), .int .u64 (anum : Int), .int .u64 (at' : Int)]] W fun e w' => e = .returned (.bool y) ∧ w'.cell? ⟨w.heap.size, 0, none⟩ = some (.string (S an)) ∧ w'.cell? ⟨w.heap.size, 1, none⟩ = some (.string (S av)) ∧ w'.cell? ⟨w.heap.size, 2, none⟩ = some (.int .u64 (anum : Int)) ∧ w'.cell? ⟨w.heap.size, 3, none⟩ = some (.int .u64 (at' : Int)) ∧ Bx w' g [.string (S X), .string (S Y), .int .u64 (N : Int), .int .u64 (T : Int)] ∧ Below w.heap.size w w') := fun W h => by
      show Calls _ _ _ _ _
      exact (hH W).out.mono fun e w' k => ⟨k.1, kept h.1 k.2, kept h.2.1 k.2, kept h.2.2.1 k.2, kept h.2.2.2.1 k.2, h.2.2.2.2.1.below k.2, below_chain h.2.2.2.2.2 k.2⟩
    have hG2 := fun W => (hG W).out.mono fun e w' k => And.intro k.1 (show Below W.heap.size W w' by rw [← k.2]; exact Below.refl _ _)
    have hG3 := fun W => Lib.hid (hG2 W)
    have hG' : ∀ W : World, (W.cell? ⟨w.heap.size, 0, none⟩ = some (.string (S an)) ∧ W.cell? ⟨w.heap.size, 1, none⟩ = some (.string (S av)) ∧ W.cell? ⟨w.heap.size, 2, none⟩ = some (.int .u64 (anum : Int)) ∧ W.cell? ⟨w.heap.size, 3, none⟩ = some (.int .u64 (at' : Int)) ∧ Bx W g [.string (S X), .string (S Y), .int .u64 (N : Int), .int .u64 (T : Int)] ∧ Below w.heap.size w W) → Hid (Calls Try.prog 11 #[.string (S an), .string (S av)] W fun e w' => e = .returned (.int .i64 0) ∧ w'.cell? ⟨w.heap.size, 0, none⟩ = some (.string (S an)) ∧ w'.cell? ⟨w.heap.size, 1, none⟩ = some (.string (S av)) ∧ w'.cell? ⟨w.heap.size, 2, none⟩ = some (.int .u64 (anum : Int)) ∧ w'.cell? ⟨w.heap.size, 3, none⟩ = some (.int .u64 (at' : Int)) ∧ Bx w' g [.string (S X), .string (S Y), .int .u64 (N : Int), .int .u64 (T : Int)] ∧ Below w.heap.size w w') := fun W h => by
      show Calls _ _ _ _ _
      exact (hG3 W).out.mono fun e w' k => ⟨k.1, kept h.1 k.2, kept h.2.1 k.2, kept h.2.2.1 k.2, kept h.2.2.2.1 k.2, h.2.2.2.2.1.below k.2, below_chain h.2.2.2.2.2 k.2⟩
    have hI' : ∀ W : World, (W.cell? ⟨w.heap.size, 0, none⟩ = some (.string (S an)) ∧ W.cell? ⟨w.heap.size, 1, none⟩ = some (.string (S av)) ∧ W.cell? ⟨w.heap.size, 2, none⟩ = some (.int .u64 (anum : Int)) ∧ W.cell? ⟨w.heap.size, 3, none⟩ = some (.int .u64 (at' : Int)) ∧ Bx W g [.string (S X), .string (S Y), .int .u64 (N : Int), .int .u64 (T : Int)] ∧ Below w.heap.size w W) → Hid (Calls Try.prog 12 #[.int .u64 (key : Int), .string (S an), .string (S av), .int .u64 (anum : Int)] W fun e w' => e = .returned (.int .u64 (z : Int)) ∧ w'.cell? ⟨w.heap.size, 0, none⟩ = some (.string (S an)) ∧ w'.cell? ⟨w.heap.size, 1, none⟩ = some (.string (S av)) ∧ w'.cell? ⟨w.heap.size, 2, none⟩ = some (.int .u64 (anum : Int)) ∧ w'.cell? ⟨w.heap.size, 3, none⟩ = some (.int .u64 (at' : Int)) ∧ Bx w' g [.string (S X), .string (S Y), .int .u64 (N : Int), .int .u64 (T : Int)] ∧ Below w.heap.size w w') := fun W h => by
      show Calls _ _ _ _ _
      exact (hI W).out.mono fun e w' k => ⟨k.1, kept h.1 k.2, kept h.2.1 k.2, kept h.2.2.1 k.2, kept h.2.2.2.1 k.2, h.2.2.2.2.1.below k.2, below_chain h.2.2.2.2.2 k.2⟩
    clear hH hG hG2 hG3 hI
    go_wp2
    go_region_held3 (fun W => W.cell? ⟨w.heap.size, 0, none⟩ = some (.string (S an)) ∧ W.cell? ⟨w.heap.size, 1, none⟩ = some (.string (S av)) ∧ W.cell? ⟨w.heap.size, 2, none⟩ = some (.int .u64 (anum : Int)) ∧ W.cell? ⟨w.heap.size, 3, none⟩ = some (.int .u64 (at' : Int)) ∧ Bx W g [.string (S X), .string (S Y), .int .u64 (N : Int), .int .u64 (T : Int)] ∧ Below w.heap.size w W) (first | exact ⟨q0, q1, q2, q3, q4, q5⟩ | exact ⟨k0, k1, k2, k3, k4, k5⟩ | exact ⟨by assumption, by assumption, by assumption, by assumption, by assumption, by assumption⟩ | go_keep)
      (first
        | (go_at_call 10; refine (hH' _ ?_).out.mono ?_; (first | exact ⟨q0, q1, q2, q3, q4, q5⟩ | exact ⟨by assumption, by assumption, by assumption, by assumption, by assumption, by assumption⟩); rintro e w' ⟨rfl, k0, k1, k2, k3, k4, k5⟩)
        | (go_at_call 11; refine (hG' _ ?_).out.mono ?_; (first | exact ⟨q0, q1, q2, q3, q4, q5⟩ | exact ⟨by assumption, by assumption, by assumption, by assumption, by assumption, by assumption⟩); rintro e w' ⟨rfl, k0, k1, k2, k3, k4, k5⟩)
        | (go_at_call 12; refine (hI' _ ?_).out.mono ?_; (first | exact ⟨q0, q1, q2, q3, q4, q5⟩ | exact ⟨by assumption, by assumption, by assumption, by assumption, by assumption, by assumption⟩); rintro e w' ⟨rfl, k0, k1, k2, k3, k4, k5⟩))
    clear q0 q1 q2 q3 q4 q5 k0 k1 k2 k3
    go_wp2_with fail
    refine (hF _).out.mono ?_
    rintro e w9 ⟨rfl, hw9⟩
    have hw := hw9.symm
    subst hw
    clear hw9 hF
    by_cases h0 : r = 0
    · obtain ⟨rfl, rfl, rfl, hT⟩ := HY.out h0
      have hK := fun w => Lib.hid (refAskTag key num n v w HK.out HN.out (HV.out h0) T hT)
      subst h0
      clear HY HZ hT HK HN HV
      have k4' := k4.drewN 1
      obtain ⟨⟨y0, y1, y2, y3⟩, -⟩ := k4'.get4
      have y4 := bdrew k5
      clear k4'
      have hK' : ∀ W : World, (W.cell? ⟨g, 0, none⟩ = some (.string (S n)) ∧ W.cell? ⟨g, 1, none⟩ = some (.string (S v)) ∧ W.cell? ⟨g, 2, none⟩ = some (.int .u64 (num : Int)) ∧ W.cell? ⟨g, 3, none⟩ = some (.int .u64 (T : Int)) ∧ Below w.heap.size w W) → Hid (Calls Try.prog 12 #[.int .u64 (key : Int), .string (S n), .string (S v), .int .u64 (num : Int)] W fun e w' => e = .returned (.int .u64 (T : Int)) ∧ w'.cell? ⟨g, 0, none⟩ = some (.string (S n)) ∧ w'.cell? ⟨g, 1, none⟩ = some (.string (S v)) ∧ w'.cell? ⟨g, 2, none⟩ = some (.int .u64 (num : Int)) ∧ w'.cell? ⟨g, 3, none⟩ = some (.int .u64 (T : Int)) ∧ Below w.heap.size w w') := fun W h => by
        show Calls _ _ _ _ _
        exact (hK W).out.mono fun e w' k => ⟨k.1, kept h.1 k.2, kept h.2.1 k.2, kept h.2.2.1 k.2, kept h.2.2.2.1 k.2, below_chain h.2.2.2.2 k.2⟩
      clear hK
      go_wp2
      go_region_held3 (fun W => W.cell? ⟨g, 0, none⟩ = some (.string (S n)) ∧ W.cell? ⟨g, 1, none⟩ = some (.string (S v)) ∧ W.cell? ⟨g, 2, none⟩ = some (.int .u64 (num : Int)) ∧ W.cell? ⟨g, 3, none⟩ = some (.int .u64 (T : Int)) ∧ Below w.heap.size w W) (first | exact ⟨y0, y1, y2, y3, y4⟩ | exact ⟨m0, m1, m2, m3, m4⟩ | exact ⟨by assumption, by assumption, by assumption, by assumption, by assumption⟩ | go_keep)
        (first | (go_at_call 12; refine (hK' _ ?_).out.mono ?_; (first | exact ⟨y0, y1, y2, y3, y4⟩ | exact ⟨by assumption, by assumption, by assumption, by assumption, by assumption⟩); rintro e w' ⟨rfl, m0, m1, m2, m3, m4⟩) | fail)
      go_wp2
      go_ret
      exact ⟨rfl, m4⟩
    · obtain ⟨rfl, rfl, rfl, rfl⟩ := HZ.out h0
      have c9 : (r == 0) = false := beq_eq_false_iff_ne.2 h0
      clear HY HZ HK HN HV h0
      obtain ⟨⟨x0, x1, x2, x3⟩, -⟩ := k4.get4
      go_wp2
      go_ret
      exact ⟨rfl, k5⟩
  · have hfy : holdsB key an av anum at' = false := by rw [holdsB, decide_eq_false (by rw [HR.out]; exact ha), Bool.false_and]
    rw [hfy] at hH
    have hra2 : ra = 2 ∨ ra = 3 := by
      have := HR.out
      unfold askFault at this
      split at this
      · split at this
        · exact .inl this.symm
        · exact absurd this.symm ha
      · exact .inr this.symm
    clear hfy HR ha HA
    rcases hra2 with rfl | rfl
    · have hH' : ∀ W : World, (W.cell? ⟨w.heap.size, 0, none⟩ = some (.string (S an)) ∧ W.cell? ⟨w.heap.size, 1, none⟩ = some (.string (S av)) ∧ W.cell? ⟨w.heap.size, 2, none⟩ = some (.int .u64 (anum : Int)) ∧ W.cell? ⟨w.heap.size, 3, none⟩ = some (.int .u64 (at' : Int)) ∧ Bx W g [.string (S X), .string (S Y), .int .u64 (N : Int), .int .u64 (T : Int)] ∧ Below w.heap.size w W) → Hid (Calls Try.prog 10 #[.int .u64 (key : Int), .agg #[.string (S an), .string (S av), .int .u64 (anum : Int), .int .u64 (at' : Int)]] W fun e w' => e = .returned (.bool false) ∧ w'.cell? ⟨w.heap.size, 0, none⟩ = some (.string (S an)) ∧ w'.cell? ⟨w.heap.size, 1, none⟩ = some (.string (S av)) ∧ w'.cell? ⟨w.heap.size, 2, none⟩ = some (.int .u64 (anum : Int)) ∧ w'.cell? ⟨w.heap.size, 3, none⟩ = some (.int .u64 (at' : Int)) ∧ Bx w' g [.string (S X), .string (S Y), .int .u64 (N : Int), .int .u64 (T : Int)] ∧ Below w.heap.size w w') := fun W h => by
        show Calls _ _ _ _ _
        exact (hH W).out.mono fun e w' k => ⟨k.1, kept h.1 k.2, kept h.2.1 k.2, kept h.2.2.1 k.2, kept h.2.2.2.1 k.2, h.2.2.2.2.1.below k.2, below_chain h.2.2.2.2.2 k.2⟩
      have hG2 := fun W => (hG W).out.mono fun e w' k => And.intro k.1 (show Below W.heap.size W w' by rw [← k.2]; exact Below.refl _ _)
      have hG3 := fun W => Lib.hid (hG2 W)
      have hG' : ∀ W : World, (W.cell? ⟨w.heap.size, 0, none⟩ = some (.string (S an)) ∧ W.cell? ⟨w.heap.size, 1, none⟩ = some (.string (S av)) ∧ W.cell? ⟨w.heap.size, 2, none⟩ = some (.int .u64 (anum : Int)) ∧ W.cell? ⟨w.heap.size, 3, none⟩ = some (.int .u64 (at' : Int)) ∧ Bx W g [.string (S X), .string (S Y), .int .u64 (N : Int), .int .u64 (T : Int)] ∧ Below w.heap.size w W) → Hid (Calls Try.prog 11 #[.string (S an), .string (S av)] W fun e w' => e = .returned (.int .i64 2) ∧ w'.cell? ⟨w.heap.size, 0, none⟩ = some (.string (S an)) ∧ w'.cell? ⟨w.heap.size, 1, none⟩ = some (.string (S av)) ∧ w'.cell? ⟨w.heap.size, 2, none⟩ = some (.int .u64 (anum : Int)) ∧ w'.cell? ⟨w.heap.size, 3, none⟩ = some (.int .u64 (at' : Int)) ∧ Bx w' g [.string (S X), .string (S Y), .int .u64 (N : Int), .int .u64 (T : Int)] ∧ Below w.heap.size w w') := fun W h => by
        show Calls _ _ _ _ _
        exact (hG3 W).out.mono fun e w' k => ⟨k.1, kept h.1 k.2, kept h.2.1 k.2, kept h.2.2.1 k.2, kept h.2.2.2.1 k.2, h.2.2.2.2.1.below k.2, below_chain h.2.2.2.2.2 k.2⟩
      clear hH hG hG2 hG3
      go_wp2
      refine wp_region_held_drew (S := fun W => W.cell? ⟨w.heap.size, 0, none⟩ = some (.string (S an)) ∧ W.cell? ⟨w.heap.size, 1, none⟩ = some (.string (S av)) ∧ W.cell? ⟨w.heap.size, 2, none⟩ = some (.int .u64 (anum : Int)) ∧ W.cell? ⟨w.heap.size, 3, none⟩ = some (.int .u64 (at' : Int)) ∧ Bx W g [.string (S X), .string (S Y), .int .u64 (N : Int), .int .u64 (T : Int)] ∧ Below w.heap.size w W) (by kernel_rfl) ⟨q0, q1, q2, q3, q4, q5⟩ (fun hHeld => ?_)
      refine wpAnyH_take (i := 0) (v := ?_) rfl (by kernel_rfl) (by kernel_rfl) (by kernel_rfl) (fun _ _ _ h => h) (Or.inl ⟨by rfl, ?_⟩) (by assumption) ?_
      rotate_left
      · intro wt hSt
        try dsimp only at hSt
        first | (go_simp; done) | (go_simp; with_reducible rfl)
      simp only [Act.put, List.setIfInBounds_toArray, List.set_cons_zero, List.set_cons_succ, List.getElem_toArray, List.getElem_cons_zero]
      refine wpAnyH_take (i := 1) (v := ?_) rfl (by kernel_rfl) (by kernel_rfl) (by kernel_rfl) (fun _ _ _ h => h) (Or.inl ⟨by rfl, ?_⟩) (by assumption) ?_
      rotate_left
      · intro wt hSt
        try dsimp only at hSt
        first | (go_simp; done) | (go_simp; with_reducible rfl)
      simp only [Act.put, List.setIfInBounds_toArray, List.set_cons_zero, List.set_cons_succ, List.getElem_toArray, List.getElem_cons_zero, List.getElem_cons_succ]
      refine wpAnyH_take (i := 3) (v := ?_) rfl (by kernel_rfl) (by kernel_rfl) (by kernel_rfl) (fun _ _ _ h => h) (Or.inl ⟨by rfl, ?_⟩) (by assumption) ?_
      rotate_left
      · intro wt hSt
        try dsimp only at hSt
        first | (go_simp; done) | (go_simp; with_reducible rfl)
      simp only [Act.put, List.setIfInBounds_toArray, List.set_cons_zero, List.set_cons_succ, List.getElem_toArray, List.getElem_cons_zero, List.getElem_cons_succ]
      refine wpAnyH_take (i := 4) (v := ?_) rfl (by kernel_rfl) (by kernel_rfl) (by kernel_rfl) (fun _ _ _ h => h) (Or.inl ⟨by rfl, ?_⟩) (by assumption) ?_
      rotate_left
      · intro wt hSt
        try dsimp only at hSt
        first | (go_simp; done) | (go_simp; with_reducible rfl)
      simp only [Act.put, List.setIfInBounds_toArray, List.set_cons_zero, List.set_cons_succ, List.getElem_toArray, List.getElem_cons_zero, List.getElem_cons_succ]
      refine wpAnyH_take (i := 5) (v := ?_) rfl (by kernel_rfl) (by kernel_rfl) (by kernel_rfl) (fun _ _ _ h => h) (Or.inl ⟨by rfl, ?_⟩) (by assumption) ?_
      rotate_left
      · intro wt hSt
        try dsimp only at hSt
        first | (go_simp; done) | (go_simp; with_reducible rfl)
      simp only [Act.put, List.setIfInBounds_toArray, List.set_cons_zero, List.set_cons_succ, List.getElem_toArray, List.getElem_cons_zero, List.getElem_cons_succ]
      refine wpAnyH_take (i := 6) (v := ?_) rfl (by kernel_rfl) (by kernel_rfl) (by kernel_rfl) (fun _ _ _ h => h) (Or.inl ⟨by rfl, ?_⟩) (by assumption) ?_
      rotate_left
      · intro wt hSt
        try dsimp only at hSt
        first | (go_simp; done) | (go_simp; with_reducible rfl)
      simp only [Act.put, List.setIfInBounds_toArray, List.set_cons_zero, List.set_cons_succ, List.getElem_toArray, List.getElem_cons_zero, List.getElem_cons_succ]
      refine wpAnyH_ready (rs := [2]) (by kernel_rfl) (by simp) ?_
      refine AllReadyH.cons rfl (fun K hK => ?_) AllReadyH.nil
      go_simp
      refine (hH' _ ?_).out.mono ?_
      · first | exact ⟨q0, q1, q2, q3, q4, q5⟩ | exact ⟨by assumption, by assumption, by assumption, by assumption, by assumption, by assumption⟩
      rintro e w' ⟨rfl, k0, k1, k2, k3, k4, k5⟩
      go_wp2_with fail
      refine hK.out _ _ ⟨k0, k1, k2, k3, k4, k5⟩ (fun hHeld => ?_)
      clear hK K
      refine wpAnyH_ready (rs := [7]) (by kernel_rfl) (by simp) ?_
      refine AllReadyH.cons rfl (fun K hK => ?_) AllReadyH.nil
      go_simp
      refine (hG' _ ?_).out.mono ?_
      · first | exact ⟨q0, q1, q2, q3, q4, q5⟩ | exact ⟨by assumption, by assumption, by assumption, by assumption, by assumption, by assumption⟩
      rintro e w' ⟨rfl, k0, k1, k2, k3, k4, k5⟩
      go_wp2_with fail
      refine hK.out _ _ ⟨k0, k1, k2, k3, k4, k5⟩ (fun hHeld => ?_)
      clear hK K
      refine wpAnyH_take (i := 8) (v := ?_) rfl (by kernel_rfl) (by kernel_rfl) (by kernel_rfl) (fun _ _ _ h => h) (Or.inl ⟨by rfl, ?_⟩) (by assumption) ?_
      rotate_left
      · intro wt hSt
        try dsimp only at hSt
        first | (go_simp; done) | (go_simp; with_reducible rfl)
      simp only [Act.put, List.setIfInBounds_toArray, List.set_cons_zero, List.set_cons_succ, List.getElem_toArray, List.getElem_cons_zero, List.getElem_cons_succ]
      refine wpAnyH_take (i := 9) (v := ?_) rfl (by kernel_rfl) (by kernel_rfl) (by kernel_rfl) (fun _ _ _ h => h) (Or.inl ⟨by rfl, ?_⟩) (by assumption) ?_
      rotate_left
      · intro wt hSt
        try dsimp only at hSt
        first | (go_simp; done) | (go_simp; with_reducible rfl)
      simp only [Act.put, List.setIfInBounds_toArray, List.set_cons_zero, List.set_cons_succ, List.getElem_toArray, List.getElem_cons_zero, List.getElem_cons_succ]
      refine wpAnyH_take (i := 10) (v := undef) rfl (by kernel_rfl) (by kernel_rfl) (by kernel_rfl) (fun _ _ _ h => h) (Or.inr ⟨by rfl, rfl⟩) (by assumption) ?_
      simp only [Act.put, List.setIfInBounds_toArray, List.set_cons_zero, List.set_cons_succ, List.getElem_toArray, List.getElem_cons_zero, List.getElem_cons_succ]
      refine wpAnyH_take (i := 11) (v := undef) rfl (by kernel_rfl) (by kernel_rfl) (by kernel_rfl) (fun _ _ _ h => h) (Or.inr ⟨by rfl, rfl⟩) (by assumption) ?_
      simp only [Act.put, List.setIfInBounds_toArray, List.set_cons_zero, List.set_cons_succ, List.getElem_toArray, List.getElem_cons_zero, List.getElem_cons_succ]
      refine wpAnyH_take (i := 12) (v := undef) rfl (by kernel_rfl) (by kernel_rfl) (by kernel_rfl) (fun _ _ _ h => h) (Or.inr ⟨by rfl, rfl⟩) (by assumption) ?_
      simp only [Act.put, List.setIfInBounds_toArray, List.set_cons_zero, List.set_cons_succ, List.getElem_toArray, List.getElem_cons_zero, List.getElem_cons_succ]
      refine wpAnyH_take (i := 13) (v := undef) rfl (by kernel_rfl) (by kernel_rfl) (by kernel_rfl) (fun _ _ _ h => h) (Or.inr ⟨by rfl, rfl⟩) (by assumption) ?_
      simp only [Act.put, List.setIfInBounds_toArray, List.set_cons_zero, List.set_cons_succ, List.getElem_toArray, List.getElem_cons_zero, List.getElem_cons_succ]
      refine wpAnyH_take (i := 14) (v := undef) rfl (by kernel_rfl) (by kernel_rfl) (by kernel_rfl) (fun _ _ _ h => h) (Or.inr ⟨by rfl, rfl⟩) (by assumption) ?_
      simp only [Act.put, List.setIfInBounds_toArray, List.set_cons_zero, List.set_cons_succ, List.getElem_toArray, List.getElem_cons_zero, List.getElem_cons_succ]
      refine wpAnyH_take (i := 15) (v := undef) rfl (by kernel_rfl) (by kernel_rfl) (by kernel_rfl) (fun _ _ _ h => h) (Or.inr ⟨by rfl, rfl⟩) (by assumption) ?_
      simp only [Act.put, List.setIfInBounds_toArray, List.set_cons_zero, List.set_cons_succ, List.getElem_toArray, List.getElem_cons_zero, List.getElem_cons_succ]
      refine wpAnyH_take (i := 16) (v := undef) rfl (by kernel_rfl) (by kernel_rfl) (by kernel_rfl) (fun _ _ _ h => h) (Or.inr ⟨by rfl, rfl⟩) (by assumption) ?_
      simp only [Act.put, List.setIfInBounds_toArray, List.set_cons_zero, List.set_cons_succ, List.getElem_toArray, List.getElem_cons_zero, List.getElem_cons_succ]
      refine wpAnyH_take (i := 17) (v := undef) rfl (by kernel_rfl) (by kernel_rfl) (by kernel_rfl) (fun _ _ _ h => h) (Or.inr ⟨by rfl, rfl⟩) (by assumption) ?_
      simp only [Act.put, List.setIfInBounds_toArray, List.set_cons_zero, List.set_cons_succ, List.getElem_toArray, List.getElem_cons_zero, List.getElem_cons_succ]
      refine wpAnyH_take (i := 18) (v := undef) rfl (by kernel_rfl) (by kernel_rfl) (by kernel_rfl) (fun _ _ _ h => h) (Or.inr ⟨by rfl, rfl⟩) (by assumption) ?_
      simp only [Act.put, List.setIfInBounds_toArray, List.set_cons_zero, List.set_cons_succ, List.getElem_toArray, List.getElem_cons_zero, List.getElem_cons_succ]
      refine wpAnyH_take (i := 19) (v := undef) rfl (by kernel_rfl) (by kernel_rfl) (by kernel_rfl) (fun _ _ _ h => h) (Or.inr ⟨by rfl, rfl⟩) (by assumption) ?_
      simp only [Act.put, List.setIfInBounds_toArray, List.set_cons_zero, List.set_cons_succ, List.getElem_toArray, List.getElem_cons_zero, List.getElem_cons_succ]
      refine wpAnyH_take (i := 20) (v := undef) rfl (by kernel_rfl) (by kernel_rfl) (by kernel_rfl) (fun _ _ _ h => h) (Or.inr ⟨by rfl, rfl⟩) (by assumption) ?_
      simp only [Act.put, List.setIfInBounds_toArray, List.set_cons_zero, List.set_cons_succ, List.getElem_toArray, List.getElem_cons_zero, List.getElem_cons_succ]
      refine wpAnyH_take (i := 21) (v := ?_) rfl (by kernel_rfl) (by kernel_rfl) (by kernel_rfl) (fun _ _ _ h => h) (Or.inl ⟨by rfl, ?_⟩) (by assumption) ?_
      rotate_left
      · intro wt hSt
        try dsimp only at hSt
        first | (go_simp; done) | (go_simp; with_reducible rfl)
      simp only [Act.put, List.setIfInBounds_toArray, List.set_cons_zero, List.set_cons_succ, List.getElem_toArray, List.getElem_cons_zero, List.getElem_cons_succ]
      refine wpAnyH_take (i := 22) (v := ?_) rfl (by kernel_rfl) (by kernel_rfl) (by kernel_rfl) (fun _ _ _ h => h) (Or.inl ⟨by rfl, ?_⟩) (by assumption) ?_
      rotate_left
      · intro wt hSt
        try dsimp only at hSt
        first | (go_simp; done) | (go_simp; with_reducible rfl)
      simp only [Act.put, List.setIfInBounds_toArray, List.set_cons_zero, List.set_cons_succ, List.getElem_toArray, List.getElem_cons_zero, List.getElem_cons_succ]
      refine wpAnyH_done (by kernel_rfl) ?_ _
      clear q0 q1 q2 q3 q4 q5 k0 k1 k2 k3
      go_wp2_with fail
      refine (hF _).out.mono ?_
      rintro e w9 ⟨rfl, hw9⟩
      have hw := hw9.symm
      subst hw
      clear hw9 hF
      by_cases h0 : r = 0
      · obtain ⟨rfl, rfl, rfl, hT⟩ := HY.out h0
        have hK := fun w => Lib.hid (refAskTag key num n v w HK.out HN.out (HV.out h0) T hT)
        subst h0
        clear HY HZ hT HK HN HV
        have k4' := k4.drewN 1
        obtain ⟨⟨y0, y1, y2, y3⟩, -⟩ := k4'.get4
        have y4 := bdrew k5
        clear k4'
        have hK' : ∀ W : World, (W.cell? ⟨g, 0, none⟩ = some (.string (S n)) ∧ W.cell? ⟨g, 1, none⟩ = some (.string (S v)) ∧ W.cell? ⟨g, 2, none⟩ = some (.int .u64 (num : Int)) ∧ W.cell? ⟨g, 3, none⟩ = some (.int .u64 (T : Int)) ∧ Below w.heap.size w W) → Hid (Calls Try.prog 12 #[.int .u64 (key : Int), .string (S n), .string (S v), .int .u64 (num : Int)] W fun e w' => e = .returned (.int .u64 (T : Int)) ∧ w'.cell? ⟨g, 0, none⟩ = some (.string (S n)) ∧ w'.cell? ⟨g, 1, none⟩ = some (.string (S v)) ∧ w'.cell? ⟨g, 2, none⟩ = some (.int .u64 (num : Int)) ∧ w'.cell? ⟨g, 3, none⟩ = some (.int .u64 (T : Int)) ∧ Below w.heap.size w w') := fun W h => by
          show Calls _ _ _ _ _
          exact (hK W).out.mono fun e w' k => ⟨k.1, kept h.1 k.2, kept h.2.1 k.2, kept h.2.2.1 k.2, kept h.2.2.2.1 k.2, below_chain h.2.2.2.2 k.2⟩
        clear hK
        go_wp2
        go_region_held3 (fun W => W.cell? ⟨g, 0, none⟩ = some (.string (S n)) ∧ W.cell? ⟨g, 1, none⟩ = some (.string (S v)) ∧ W.cell? ⟨g, 2, none⟩ = some (.int .u64 (num : Int)) ∧ W.cell? ⟨g, 3, none⟩ = some (.int .u64 (T : Int)) ∧ Below w.heap.size w W) (first | exact ⟨y0, y1, y2, y3, y4⟩ | exact ⟨m0, m1, m2, m3, m4⟩ | exact ⟨by assumption, by assumption, by assumption, by assumption, by assumption⟩ | go_keep)
          (first | (go_at_call 12; refine (hK' _ ?_).out.mono ?_; (first | exact ⟨y0, y1, y2, y3, y4⟩ | exact ⟨by assumption, by assumption, by assumption, by assumption, by assumption⟩); rintro e w' ⟨rfl, m0, m1, m2, m3, m4⟩) | fail)
        go_wp2
        go_ret
        exact ⟨rfl, m4⟩
      · obtain ⟨rfl, rfl, rfl, rfl⟩ := HZ.out h0
        have c9 : (r == 0) = false := beq_eq_false_iff_ne.2 h0
        clear HY HZ HK HN HV h0
        obtain ⟨⟨x0, x1, x2, x3⟩, -⟩ := k4.get4
        go_wp2
        go_ret
        exact ⟨rfl, k5⟩
    · have hH' : ∀ W : World, (W.cell? ⟨w.heap.size, 0, none⟩ = some (.string (S an)) ∧ W.cell? ⟨w.heap.size, 1, none⟩ = some (.string (S av)) ∧ W.cell? ⟨w.heap.size, 2, none⟩ = some (.int .u64 (anum : Int)) ∧ W.cell? ⟨w.heap.size, 3, none⟩ = some (.int .u64 (at' : Int)) ∧ Bx W g [.string (S X), .string (S Y), .int .u64 (N : Int), .int .u64 (T : Int)] ∧ Below w.heap.size w W) → Hid (Calls Try.prog 10 #[.int .u64 (key : Int), .agg #[.string (S an), .string (S av), .int .u64 (anum : Int), .int .u64 (at' : Int)]] W fun e w' => e = .returned (.bool false) ∧ w'.cell? ⟨w.heap.size, 0, none⟩ = some (.string (S an)) ∧ w'.cell? ⟨w.heap.size, 1, none⟩ = some (.string (S av)) ∧ w'.cell? ⟨w.heap.size, 2, none⟩ = some (.int .u64 (anum : Int)) ∧ w'.cell? ⟨w.heap.size, 3, none⟩ = some (.int .u64 (at' : Int)) ∧ Bx w' g [.string (S X), .string (S Y), .int .u64 (N : Int), .int .u64 (T : Int)] ∧ Below w.heap.size w w') := fun W h => by
        show Calls _ _ _ _ _
        exact (hH W).out.mono fun e w' k => ⟨k.1, kept h.1 k.2, kept h.2.1 k.2, kept h.2.2.1 k.2, kept h.2.2.2.1 k.2, h.2.2.2.2.1.below k.2, below_chain h.2.2.2.2.2 k.2⟩
      have hG2 := fun W => (hG W).out.mono fun e w' k => And.intro k.1 (show Below W.heap.size W w' by rw [← k.2]; exact Below.refl _ _)
      have hG3 := fun W => Lib.hid (hG2 W)
      have hG' : ∀ W : World, (W.cell? ⟨w.heap.size, 0, none⟩ = some (.string (S an)) ∧ W.cell? ⟨w.heap.size, 1, none⟩ = some (.string (S av)) ∧ W.cell? ⟨w.heap.size, 2, none⟩ = some (.int .u64 (anum : Int)) ∧ W.cell? ⟨w.heap.size, 3, none⟩ = some (.int .u64 (at' : Int)) ∧ Bx W g [.string (S X), .string (S Y), .int .u64 (N : Int), .int .u64 (T : Int)] ∧ Below w.heap.size w W) → Hid (Calls Try.prog 11 #[.string (S an), .string (S av)] W fun e w' => e = .returned (.int .i64 3) ∧ w'.cell? ⟨w.heap.size, 0, none⟩ = some (.string (S an)) ∧ w'.cell? ⟨w.heap.size, 1, none⟩ = some (.string (S av)) ∧ w'.cell? ⟨w.heap.size, 2, none⟩ = some (.int .u64 (anum : Int)) ∧ w'.cell? ⟨w.heap.size, 3, none⟩ = some (.int .u64 (at' : Int)) ∧ Bx w' g [.string (S X), .string (S Y), .int .u64 (N : Int), .int .u64 (T : Int)] ∧ Below w.heap.size w w') := fun W h => by
        show Calls _ _ _ _ _
        exact (hG3 W).out.mono fun e w' k => ⟨k.1, kept h.1 k.2, kept h.2.1 k.2, kept h.2.2.1 k.2, kept h.2.2.2.1 k.2, h.2.2.2.2.1.below k.2, below_chain h.2.2.2.2.2 k.2⟩
      clear hH hG hG2 hG3
      go_wp2
      refine wp_region_held_drew (S := fun W => W.cell? ⟨w.heap.size, 0, none⟩ = some (.string (S an)) ∧ W.cell? ⟨w.heap.size, 1, none⟩ = some (.string (S av)) ∧ W.cell? ⟨w.heap.size, 2, none⟩ = some (.int .u64 (anum : Int)) ∧ W.cell? ⟨w.heap.size, 3, none⟩ = some (.int .u64 (at' : Int)) ∧ Bx W g [.string (S X), .string (S Y), .int .u64 (N : Int), .int .u64 (T : Int)] ∧ Below w.heap.size w W) (by kernel_rfl) ⟨q0, q1, q2, q3, q4, q5⟩ (fun hHeld => ?_)
      refine wpAnyH_take (i := 0) (v := ?_) rfl (by kernel_rfl) (by kernel_rfl) (by kernel_rfl) (fun _ _ _ h => h) (Or.inl ⟨by rfl, ?_⟩) (by assumption) ?_
      rotate_left
      · intro wt hSt
        try dsimp only at hSt
        first | (go_simp; done) | (go_simp; with_reducible rfl)
      simp only [Act.put, List.setIfInBounds_toArray, List.set_cons_zero, List.set_cons_succ, List.getElem_toArray, List.getElem_cons_zero]
      refine wpAnyH_take (i := 1) (v := ?_) rfl (by kernel_rfl) (by kernel_rfl) (by kernel_rfl) (fun _ _ _ h => h) (Or.inl ⟨by rfl, ?_⟩) (by assumption) ?_
      rotate_left
      · intro wt hSt
        try dsimp only at hSt
        first | (go_simp; done) | (go_simp; with_reducible rfl)
      simp only [Act.put, List.setIfInBounds_toArray, List.set_cons_zero, List.set_cons_succ, List.getElem_toArray, List.getElem_cons_zero, List.getElem_cons_succ]
      refine wpAnyH_take (i := 3) (v := ?_) rfl (by kernel_rfl) (by kernel_rfl) (by kernel_rfl) (fun _ _ _ h => h) (Or.inl ⟨by rfl, ?_⟩) (by assumption) ?_
      rotate_left
      · intro wt hSt
        try dsimp only at hSt
        first | (go_simp; done) | (go_simp; with_reducible rfl)
      simp only [Act.put, List.setIfInBounds_toArray, List.set_cons_zero, List.set_cons_succ, List.getElem_toArray, List.getElem_cons_zero, List.getElem_cons_succ]
      refine wpAnyH_take (i := 4) (v := ?_) rfl (by kernel_rfl) (by kernel_rfl) (by kernel_rfl) (fun _ _ _ h => h) (Or.inl ⟨by rfl, ?_⟩) (by assumption) ?_
      rotate_left
      · intro wt hSt
        try dsimp only at hSt
        first | (go_simp; done) | (go_simp; with_reducible rfl)
      simp only [Act.put, List.setIfInBounds_toArray, List.set_cons_zero, List.set_cons_succ, List.getElem_toArray, List.getElem_cons_zero, List.getElem_cons_succ]
      refine wpAnyH_take (i := 5) (v := ?_) rfl (by kernel_rfl) (by kernel_rfl) (by kernel_rfl) (fun _ _ _ h => h) (Or.inl ⟨by rfl, ?_⟩) (by assumption) ?_
      rotate_left
      · intro wt hSt
        try dsimp only at hSt
        first | (go_simp; done) | (go_simp; with_reducible rfl)
      simp only [Act.put, List.setIfInBounds_toArray, List.set_cons_zero, List.set_cons_succ, List.getElem_toArray, List.getElem_cons_zero, List.getElem_cons_succ]
      refine wpAnyH_take (i := 6) (v := ?_) rfl (by kernel_rfl) (by kernel_rfl) (by kernel_rfl) (fun _ _ _ h => h) (Or.inl ⟨by rfl, ?_⟩) (by assumption) ?_
      rotate_left
      · intro wt hSt
        try dsimp only at hSt
        first | (go_simp; done) | (go_simp; with_reducible rfl)
      simp only [Act.put, List.setIfInBounds_toArray, List.set_cons_zero, List.set_cons_succ, List.getElem_toArray, List.getElem_cons_zero, List.getElem_cons_succ]
      refine wpAnyH_ready (rs := [2]) (by kernel_rfl) (by simp) ?_
      refine AllReadyH.cons rfl (fun K hK => ?_) AllReadyH.nil
      go_simp
      refine (hH' _ ?_).out.mono ?_
      · first | exact ⟨q0, q1, q2, q3, q4, q5⟩ | exact ⟨by assumption, by assumption, by assumption, by assumption, by assumption, by assumption⟩
      rintro e w' ⟨rfl, k0, k1, k2, k3, k4, k5⟩
      go_wp2_with fail
      refine hK.out _ _ ⟨k0, k1, k2, k3, k4, k5⟩ (fun hHeld => ?_)
      clear hK K
      refine wpAnyH_ready (rs := [7]) (by kernel_rfl) (by simp) ?_
      refine AllReadyH.cons rfl (fun K hK => ?_) AllReadyH.nil
      go_simp
      refine (hG' _ ?_).out.mono ?_
      · first | exact ⟨q0, q1, q2, q3, q4, q5⟩ | exact ⟨by assumption, by assumption, by assumption, by assumption, by assumption, by assumption⟩
      rintro e w' ⟨rfl, k0, k1, k2, k3, k4, k5⟩
      go_wp2_with fail
      refine hK.out _ _ ⟨k0, k1, k2, k3, k4, k5⟩ (fun hHeld => ?_)
      clear hK K
      refine wpAnyH_take (i := 8) (v := ?_) rfl (by kernel_rfl) (by kernel_rfl) (by kernel_rfl) (fun _ _ _ h => h) (Or.inl ⟨by rfl, ?_⟩) (by assumption) ?_
      rotate_left
      · intro wt hSt
        try dsimp only at hSt
        first | (go_simp; done) | (go_simp; with_reducible rfl)
      simp only [Act.put, List.setIfInBounds_toArray, List.set_cons_zero, List.set_cons_succ, List.getElem_toArray, List.getElem_cons_zero, List.getElem_cons_succ]
      refine wpAnyH_take (i := 9) (v := ?_) rfl (by kernel_rfl) (by kernel_rfl) (by kernel_rfl) (fun _ _ _ h => h) (Or.inl ⟨by rfl, ?_⟩) (by assumption) ?_
      rotate_left
      · intro wt hSt
        try dsimp only at hSt
        first | (go_simp; done) | (go_simp; with_reducible rfl)
      simp only [Act.put, List.setIfInBounds_toArray, List.set_cons_zero, List.set_cons_succ, List.getElem_toArray, List.getElem_cons_zero, List.getElem_cons_succ]
      refine wpAnyH_take (i := 10) (v := undef) rfl (by kernel_rfl) (by kernel_rfl) (by kernel_rfl) (fun _ _ _ h => h) (Or.inr ⟨by rfl, rfl⟩) (by assumption) ?_
      simp only [Act.put, List.setIfInBounds_toArray, List.set_cons_zero, List.set_cons_succ, List.getElem_toArray, List.getElem_cons_zero, List.getElem_cons_succ]
      refine wpAnyH_take (i := 11) (v := undef) rfl (by kernel_rfl) (by kernel_rfl) (by kernel_rfl) (fun _ _ _ h => h) (Or.inr ⟨by rfl, rfl⟩) (by assumption) ?_
      simp only [Act.put, List.setIfInBounds_toArray, List.set_cons_zero, List.set_cons_succ, List.getElem_toArray, List.getElem_cons_zero, List.getElem_cons_succ]
      refine wpAnyH_take (i := 12) (v := undef) rfl (by kernel_rfl) (by kernel_rfl) (by kernel_rfl) (fun _ _ _ h => h) (Or.inr ⟨by rfl, rfl⟩) (by assumption) ?_
      simp only [Act.put, List.setIfInBounds_toArray, List.set_cons_zero, List.set_cons_succ, List.getElem_toArray, List.getElem_cons_zero, List.getElem_cons_succ]
      refine wpAnyH_take (i := 13) (v := undef) rfl (by kernel_rfl) (by kernel_rfl) (by kernel_rfl) (fun _ _ _ h => h) (Or.inr ⟨by rfl, rfl⟩) (by assumption) ?_
      simp only [Act.put, List.setIfInBounds_toArray, List.set_cons_zero, List.set_cons_succ, List.getElem_toArray, List.getElem_cons_zero, List.getElem_cons_succ]
      refine wpAnyH_take (i := 14) (v := undef) rfl (by kernel_rfl) (by kernel_rfl) (by kernel_rfl) (fun _ _ _ h => h) (Or.inr ⟨by rfl, rfl⟩) (by assumption) ?_
      simp only [Act.put, List.setIfInBounds_toArray, List.set_cons_zero, List.set_cons_succ, List.getElem_toArray, List.getElem_cons_zero, List.getElem_cons_succ]
      refine wpAnyH_take (i := 15) (v := undef) rfl (by kernel_rfl) (by kernel_rfl) (by kernel_rfl) (fun _ _ _ h => h) (Or.inr ⟨by rfl, rfl⟩) (by assumption) ?_
      simp only [Act.put, List.setIfInBounds_toArray, List.set_cons_zero, List.set_cons_succ, List.getElem_toArray, List.getElem_cons_zero, List.getElem_cons_succ]
      refine wpAnyH_take (i := 16) (v := undef) rfl (by kernel_rfl) (by kernel_rfl) (by kernel_rfl) (fun _ _ _ h => h) (Or.inr ⟨by rfl, rfl⟩) (by assumption) ?_
      simp only [Act.put, List.setIfInBounds_toArray, List.set_cons_zero, List.set_cons_succ, List.getElem_toArray, List.getElem_cons_zero, List.getElem_cons_succ]
      refine wpAnyH_take (i := 17) (v := undef) rfl (by kernel_rfl) (by kernel_rfl) (by kernel_rfl) (fun _ _ _ h => h) (Or.inr ⟨by rfl, rfl⟩) (by assumption) ?_
      simp only [Act.put, List.setIfInBounds_toArray, List.set_cons_zero, List.set_cons_succ, List.getElem_toArray, List.getElem_cons_zero, List.getElem_cons_succ]
      refine wpAnyH_take (i := 18) (v := undef) rfl (by kernel_rfl) (by kernel_rfl) (by kernel_rfl) (fun _ _ _ h => h) (Or.inr ⟨by rfl, rfl⟩) (by assumption) ?_
      simp only [Act.put, List.setIfInBounds_toArray, List.set_cons_zero, List.set_cons_succ, List.getElem_toArray, List.getElem_cons_zero, List.getElem_cons_succ]
      refine wpAnyH_take (i := 19) (v := undef) rfl (by kernel_rfl) (by kernel_rfl) (by kernel_rfl) (fun _ _ _ h => h) (Or.inr ⟨by rfl, rfl⟩) (by assumption) ?_
      simp only [Act.put, List.setIfInBounds_toArray, List.set_cons_zero, List.set_cons_succ, List.getElem_toArray, List.getElem_cons_zero, List.getElem_cons_succ]
      refine wpAnyH_take (i := 20) (v := undef) rfl (by kernel_rfl) (by kernel_rfl) (by kernel_rfl) (fun _ _ _ h => h) (Or.inr ⟨by rfl, rfl⟩) (by assumption) ?_
      simp only [Act.put, List.setIfInBounds_toArray, List.set_cons_zero, List.set_cons_succ, List.getElem_toArray, List.getElem_cons_zero, List.getElem_cons_succ]
      refine wpAnyH_take (i := 21) (v := ?_) rfl (by kernel_rfl) (by kernel_rfl) (by kernel_rfl) (fun _ _ _ h => h) (Or.inl ⟨by rfl, ?_⟩) (by assumption) ?_
      rotate_left
      · intro wt hSt
        try dsimp only at hSt
        first | (go_simp; done) | (go_simp; with_reducible rfl)
      simp only [Act.put, List.setIfInBounds_toArray, List.set_cons_zero, List.set_cons_succ, List.getElem_toArray, List.getElem_cons_zero, List.getElem_cons_succ]
      refine wpAnyH_take (i := 22) (v := ?_) rfl (by kernel_rfl) (by kernel_rfl) (by kernel_rfl) (fun _ _ _ h => h) (Or.inl ⟨by rfl, ?_⟩) (by assumption) ?_
      rotate_left
      · intro wt hSt
        try dsimp only at hSt
        first | (go_simp; done) | (go_simp; with_reducible rfl)
      simp only [Act.put, List.setIfInBounds_toArray, List.set_cons_zero, List.set_cons_succ, List.getElem_toArray, List.getElem_cons_zero, List.getElem_cons_succ]
      refine wpAnyH_done (by kernel_rfl) ?_ _
      clear q0 q1 q2 q3 q4 q5 k0 k1 k2 k3
      go_wp2_with fail
      refine (hF _).out.mono ?_
      rintro e w9 ⟨rfl, hw9⟩
      have hw := hw9.symm
      subst hw
      clear hw9 hF
      by_cases h0 : r = 0
      · obtain ⟨rfl, rfl, rfl, hT⟩ := HY.out h0
        have hK := fun w => Lib.hid (refAskTag key num n v w HK.out HN.out (HV.out h0) T hT)
        subst h0
        clear HY HZ hT HK HN HV
        have k4' := k4.drewN 1
        obtain ⟨⟨y0, y1, y2, y3⟩, -⟩ := k4'.get4
        have y4 := bdrew k5
        clear k4'
        have hK' : ∀ W : World, (W.cell? ⟨g, 0, none⟩ = some (.string (S n)) ∧ W.cell? ⟨g, 1, none⟩ = some (.string (S v)) ∧ W.cell? ⟨g, 2, none⟩ = some (.int .u64 (num : Int)) ∧ W.cell? ⟨g, 3, none⟩ = some (.int .u64 (T : Int)) ∧ Below w.heap.size w W) → Hid (Calls Try.prog 12 #[.int .u64 (key : Int), .string (S n), .string (S v), .int .u64 (num : Int)] W fun e w' => e = .returned (.int .u64 (T : Int)) ∧ w'.cell? ⟨g, 0, none⟩ = some (.string (S n)) ∧ w'.cell? ⟨g, 1, none⟩ = some (.string (S v)) ∧ w'.cell? ⟨g, 2, none⟩ = some (.int .u64 (num : Int)) ∧ w'.cell? ⟨g, 3, none⟩ = some (.int .u64 (T : Int)) ∧ Below w.heap.size w w') := fun W h => by
          show Calls _ _ _ _ _
          exact (hK W).out.mono fun e w' k => ⟨k.1, kept h.1 k.2, kept h.2.1 k.2, kept h.2.2.1 k.2, kept h.2.2.2.1 k.2, below_chain h.2.2.2.2 k.2⟩
        clear hK
        go_wp2
        go_region_held3 (fun W => W.cell? ⟨g, 0, none⟩ = some (.string (S n)) ∧ W.cell? ⟨g, 1, none⟩ = some (.string (S v)) ∧ W.cell? ⟨g, 2, none⟩ = some (.int .u64 (num : Int)) ∧ W.cell? ⟨g, 3, none⟩ = some (.int .u64 (T : Int)) ∧ Below w.heap.size w W) (first | exact ⟨y0, y1, y2, y3, y4⟩ | exact ⟨m0, m1, m2, m3, m4⟩ | exact ⟨by assumption, by assumption, by assumption, by assumption, by assumption⟩ | go_keep)
          (first | (go_at_call 12; refine (hK' _ ?_).out.mono ?_; (first | exact ⟨y0, y1, y2, y3, y4⟩ | exact ⟨by assumption, by assumption, by assumption, by assumption, by assumption⟩); rintro e w' ⟨rfl, m0, m1, m2, m3, m4⟩) | fail)
        go_wp2
        go_ret
        exact ⟨rfl, m4⟩
      · obtain ⟨rfl, rfl, rfl, rfl⟩ := HZ.out h0
        have c9 : (r == 0) = false := beq_eq_false_iff_ne.2 h0
        clear HY HZ HK HN HV h0
        obtain ⟨⟨x0, x1, x2, x3⟩, -⟩ := k4.get4
        go_wp2
        go_ret
        exact ⟨rfl, k5⟩

set_option maxRecDepth 100000 in
theorem tagTells_lifted (os : Os) (started : os.Started) (H : Type) (enc : TypeId × Value → H) :
    ReturnsInHanded {} Try.checked os 3 .any (Rows.tagTellsSpec.pre6 enc Try.prog Try.f3 Rows.tagTellsRow.domain false) (Rows.tagTellsSpec.post enc Try.prog Try.f3 false true false false) := by
  refine returnsInHanded_of_change (C := Try.checked) own started (by kernel_rfl) Try.func3
    (ChangeSpec.witness6 (enc := enc) (C := Try.checked) false ⟨#[], #[.int .u64 0, .string ⟨#[]⟩, .int .u64 0, .string ⟨#[]⟩, .string ⟨#[]⟩, .int .u64 0, .agg #[.string ⟨#[]⟩, .string ⟨#[]⟩, .int .u64 0, .int .u64 0]], []⟩ 8 (by kernel_rfl) (by kernel_rfl) (by kernel_rfl) (by kernel_rfl)) ?_
  intro W base args ds gs before hval0 hW hcnd _
  have hval : ∀ (j : Nat) t v, Try.f3.params[j]? = some t → args[j]? = some v → Value.okWide Try.prog W .any base t v := hval0
  have hW' := hW
  obtain ⟨p, q, hA0, hV, rfl, hfz, hnd⟩ := hW
  have hA : DataW.TrodAll enc Try.prog W 0 (fun _ => true) true Try.f3.params.toList args.toList ds p := hA0
  rw [Try.params3] at hA hval
  obtain ⟨v0, vs0, d0, ds0, p0, q0, hargs, rfl, rfl, h0, r0⟩ := trodAll_cons hA
  obtain ⟨v1, vs1, d1, ds1, p1, q1, rfl, rfl, rfl, h1, r1⟩ := trodAll_cons r0
  obtain ⟨v2, vs2, d2, ds2, p2, q2, rfl, rfl, rfl, h2, r2⟩ := trodAll_cons r1
  obtain ⟨v3, vs3, d3, ds3, p3, q3, rfl, rfl, rfl, h3, r3⟩ := trodAll_cons r2
  obtain ⟨v4, vs4, d4, ds4, p4, q4, rfl, rfl, rfl, h4, r4⟩ := trodAll_cons r3
  obtain ⟨v5, vs5, d5, ds5, p5, q5, rfl, rfl, rfl, h5, r5⟩ := trodAll_cons r4
  obtain ⟨v6, vs6, d6, ds6, p6, q6, rfl, rfl, rfl, h6, r6⟩ := trodAll_cons r5
  obtain ⟨rfl, rfl, rfl⟩ := trodAll_nil r6
  obtain rfl : args = #[v0, v1, v2, v3, v4, v5, v6] := by cases args; simp_all
  obtain ⟨rfl, rfl⟩ := trodVars_none hV
  obtain ⟨n0, rfl, hn0⟩ := arg_u64 (hval 0 22 v0 rfl rfl) h0
  obtain ⟨l1, rfl, hl1⟩ := arg_str (hval 1 9 v1 rfl rfl) h1
  obtain ⟨n2, rfl, hn2⟩ := arg_u64 (hval 2 22 v2 rfl rfl) h2
  obtain ⟨l3, rfl, hl3⟩ := arg_str (hval 3 9 v3 rfl rfl) h3
  obtain ⟨l4, rfl, hl4⟩ := arg_str (hval 4 9 v4 rfl rfl) h4
  obtain ⟨n5, rfl, hn5⟩ := arg_u64 (hval 5 22 v5 rfl rfl) h5
  obtain ⟨n6, w6, x6, t6, rfl, hn6, hw6, hx6, ht6⟩ := arg_ask (hval 6 24 v6 rfl rfl) h6
  refine (tagTells_walk n0 l1 n2 l3 l4 n5 n6 w6 x6 t6 W hn0 hl1 hl3 hl4 hn5 hn6 hw6 hx6).mono fun e W' ⟨he, hb⟩ => ?_
  subst he
  exact ⟨_, rfl, post_law laidOut (by decide +kernel) rfl Try.underlying4 (by kernel_rfl) hW' rfl hb⟩

/-- The statement. -/
theorem tagTells_said : Rows.TagTellsSaid :=
  OpenClaim.holds_of_wide 3 Try.f3 rfl rfl rfl rfl rfl rfl rfl ⟨rfl, rfl, rfl, rfl, rfl⟩ rfl rfl rfl rfl rfl (by kernel_rfl) Try.func3 (by kernel_rfl)
    (of_decide_eq_true (by kernel_rfl)) (by unfold Func.isWrapper; first | (rw [if_pos (by decide +kernel)]; kernel_rfl) | (rw [if_neg (by decide +kernel)]; exact ⟨rfl, rfl⟩))
    (fun os started H enc _ => tagTells_lifted os started H enc)
#print axioms tagTells_said
end Go.Proofs.Ytgmanaciadfkdaa
