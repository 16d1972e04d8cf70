/- The law PathTells returns true: at whatever arguments every function of package path returns what the document says; nothing that was there is written. No conditions. -/
import Derived.Test.YtllnknhgkfmpnaaLaw
import Derived.Test.YtllnknhgkfmpnaaPathSort
import Derived.Test.YtllnknhgkfmpnaaPathBit
import Derived.Test.YtllnknhgkfmpnaaRefOrder
import Derived.Test.YtllnknhgkfmpnaaUnnamed
import Derived.Test.YtllnknhgkfmpnaaEqStrs
namespace Go.Proofs.Ytllnknhgkfmpnaa
open Go.ChangeShapes Go.WideShapes Go.ChangeAt Go.RowKit

/-- What Bit returns. -/
def BitSays (p : Bytes) (k v f : Int) : Prop :=
  (Bin.path p = false → v = 0 ∧ f = 3) ∧ (Bin.path p = true → (k < 0 ∨ 15 < k) → v = 0 ∧ f = 4) ∧ (Bin.path p = true → ∀ (j : Nat) (h : j < p.length), k = (j : Int) → v = (p[j].toNat : Int) - 48 ∧ f = 0)
theorem pathBit (p : Bytes) (k : Int) (w : World) (hl : p.length ≤ maxLen) :
    Calls Try.prog 7 #[.string (S p), .int .i64 k] w fun e w' => ∃ v f : Int, e = .returned (.tuple #[.int .i64 v, .int .i64 f]) ∧ BitSays p k v f ∧ w = w' := by
  cases hp : Bin.path p with
  | false =>
    refine (pathBit_form p k w hl hp).mono ?_
    rintro e w' ⟨rfl, rfl⟩
    exact ⟨0, 3, rfl, ⟨fun _ => ⟨rfl, rfl⟩, fun h => (by rw [hp] at h; cases h), fun h => (by rw [hp] at h; cases h)⟩, rfl⟩
  | true =>
    by_cases hk : k < 0 ∨ 15 < k
    · refine (pathBit_range p k w hl hp hk).mono ?_
      rintro e w' ⟨rfl, rfl⟩
      refine ⟨0, 4, rfl, ⟨fun h => (by rw [hp] at h; cases h), fun _ _ => ⟨rfl, rfl⟩, fun _ j h hj => ?_⟩, rfl⟩
      have := path_len hp
      omega
    · obtain ⟨j, rfl⟩ : ∃ j : Nat, k = (j : Int) := ⟨k.toNat, by omega⟩
      have hj : j < p.length := by have := path_len hp; omega
      refine (pathBit_yes p j w hp hj).mono ?_
      rintro e w' ⟨rfl, rfl⟩
      refine ⟨_, 0, rfl, ⟨fun h => (by rw [hp] at h; cases h), fun _ h => absurd h hk, fun _ i h hi => ?_⟩, rfl⟩
      obtain rfl : j = i := by omega
      exact ⟨rfl, rfl⟩

/-- What Sort returns, as letters. -/
def SortSays (ss : List Bytes) (D : Option Addr) (n : Nat) (g : Int) (w : World) : Prop :=
  (ss.any (fun s => !Bin.name s) = false → n = (Bin.srt ss).length ∧ g = 0 ∧ Row w D (scells (Bin.srt ss))) ∧ (ss.any (fun s => !Bin.name s) = true → n = 0 ∧ g = 3)
theorem pathSort_says (A : Option Addr) (c : Nat) (ss : List Bytes) (w : World) (hm : ss.length * 16 ≤ 140737488351232) (hs : ∀ s ∈ ss, s.length ≤ maxLen) (hA : Row w A (scells ss)) :
    Calls Try.prog 8 #[.slice A ss.length c] w fun e w' => ∃ (D : Option Addr) (n d : Nat) (g : Int), e = .returned (.tuple #[.slice D n d, .int .i64 g]) ∧ SortSays ss D n g w' ∧ Below w.heap.size w w' := by
  refine (pathSort A c ss w hm hs hA).mono ?_
  rintro e w' (⟨hn, D, d, rfl, hr, hb⟩ | ⟨⟨s, hs', hx⟩, rfl, hb⟩)
  · refine ⟨D, _, d, 0, rfl, ⟨fun _ => ⟨rfl, rfl, hr⟩, fun h => ?_⟩, hb⟩
    obtain ⟨s, hs', hx⟩ := List.any_eq_true.1 h
    rw [hn s hs'] at hx
    cases hx
  · refine ⟨none, 0, 0, 3, rfl, ⟨fun h => ?_, fun _ => ⟨rfl, rfl⟩⟩, hb⟩
    have := List.any_eq_false.1 h s hs'
    rw [hx] at this
    exact absurd rfl this

theorem common_at (p q : Bytes) (k : Nat) (h1 : k < p.length) (h2 : k < q.length) : (k < common p q → p[k] = q[k]) ∧ (k = common p q → p[k] ≠ q[k]) := by
  induction p generalizing q k with
  | nil => simp at h1
  | cons a p ih =>
    cases q with
    | nil => simp at h2
    | cons b q =>
      simp only [common]
      by_cases e : a = b
      · simp only [e, if_true]
        cases k with
        | zero => exact ⟨fun _ => rfl, fun h => by omega⟩
        | succ k =>
          have := ih q k (by simpa using h1) (by simpa using h2)
          exact ⟨fun h => this.1 (by omega), fun h => this.2 (by omega)⟩
      · simp only [e, if_false]
        cases k with
        | zero => exact ⟨fun h => by omega, fun _ => e⟩
        | succ k => exact ⟨fun h => by omega, fun h => by omega⟩
theorem min_step (p q : Bytes) (k : Nat) (h1 : k < p.length) (h2 : k < q.length) :
    (common p q < k ∧ min (k + 1) (common p q) = min k (common p q)) ∨ (min k (common p q) = k ∧ (p[k] = q[k] ∧ min (k + 1) (common p q) = k + 1 ∨ p[k] ≠ q[k] ∧ min (k + 1) (common p q) = k)) := by
  have h := common_at p q k h1 h2
  rcases Nat.lt_trichotomy (common p q) k with hc | hc | hc
  · exact .inl ⟨hc, by omega⟩
  · exact .inr ⟨by omega, .inr ⟨h.2 hc.symm, by omega⟩⟩
  · exact .inr ⟨by omega, .inl ⟨h.1 hc, by omega⟩⟩

set_option maxRecDepth 100000 in
set_option maxHeartbeats 2000000 in
theorem tells_named (s p q : Bytes) (k : Int) (A : Option Addr) (c : Nat) (ss : List Bytes) (w : World) (hsl : s.length ≤ maxLen) (hpl : p.length ≤ maxLen) (hm : ss.length * 16 ≤ 140737488351232) (hs : ∀ s ∈ ss, s.length ≤ maxLen) (hA : Row w A (scells ss)) (hn : Bin.name s = true) :
    Calls Try.prog 3 #[.string (S s), .string (S p), .string (S q), .int .i64 k, .slice A ss.length c] w fun e w' => e = .returned (.bool true) ∧ Below w.heap.size w w' := by
  have hOf := fun w => Lib.hid (pathOf_yes s w hn)
  have hBit := fun w => Lib.hid (pathBit p k w hpl)
  have hName := fun w => Lib.hid (pathName s w hsl _ hn)
  have hGood := fun w => Lib.hid (goodName s w hsl _ hn)
  have hPath := fun w => Lib.hid (refPath s w hsl)
  have hPre := fun w => Lib.hid (goodPrefix p w hpl _ rfl)
  have hCom := fun w => Lib.hid (pathCommon p q w hpl _ rfl)
  have hSort := fun w h => Lib.hid (pathSort_says A c ss w hm hs h)
  have hle := Bin.srt_le ss
  have hTm : (Bin.srt ss).length ≤ maxLen := by unfold maxLen; omega
  have hUn := fun w h => Lib.hid (unnamed A c ss w (by unfold maxLen; omega) hs _ rfl h)
  have hOrd := fun w h => Lib.hid (refOrdered A c ss w hm hs h)
  clear hn hsl hs hm hle
  generalize Bin.of s = o at *
  unfold maxLen at hpl
  go_enter Try.func3, Try.ntmps3
  go_wp2_with fail
  refine (hOf _).out.mono ?_
  rintro e w1 ⟨rfl, hb1⟩
  go_wp2_with fail
  refine (hBit _).out.mono ?_
  rintro e w2 ⟨v, f, rfl, hbit, rfl⟩
  have HBit := Lib.hid hbit
  clear hbit
  go_wp2_with fail
  refine (hSort w1 (hA.below hb1)).out.mono ?_
  rintro e w3 ⟨D, n, d, g, rfl, hsort, hb3⟩
  have HSort := Lib.hid hsort
  have hb0 := below_chain hb1 hb3
  clear hsort hSort hOf hBit
  go_wp2_with fail
  refine (hName _).out.mono ?_
  rintro e w4 ⟨rfl, rfl⟩
  go_wp2_with fail
  refine (hGood _).out.mono ?_
  rintro e w4 ⟨rfl, rfl⟩
  go_wp2_with fail
  refine (hGood _).out.mono ?_
  rintro e w4 ⟨rfl, rfl⟩
  go_wp2_with fail
  refine (hPath _).out.mono ?_
  rintro e w4 ⟨rfl, rfl⟩
  go_wp2_with fail
  refine (hGood _).out.mono ?_
  rintro e w4 ⟨rfl, rfl⟩
  go_wp2
  have hU := fun w' (hb : Below w3.heap.size w3 w') => hUn w' ((hA.below hb0).below hb)
  have hO := fun w' (hb : Below w3.heap.size w3 w') => hOrd w' ((hA.below hb0).below hb)
  clear hUn hOrd hA hb1 hb3
  obtain ⟨L, hL⟩ : ∃ L : Nat, min (p.length : Int) (q.length : Int) = (L : Int) := ⟨min p.length q.length, by omega⟩
  have hL1 : L ≤ p.length := by omega
  have hL2 : L ≤ q.length := by omega
  have hcL : common p q ≤ L := by have := common_le p q; omega
  have HMS : Hid (∀ j (h1 : j < p.length) (h2 : j < q.length), (common p q < j ∧ min (j + 1) (common p q) = min j (common p q)) ∨ (min j (common p q) = j ∧ (p[j] = q[j] ∧ min (j + 1) (common p q) = j + 1 ∨ p[j] ≠ q[j] ∧ min (j + 1) (common p q) = j))) := fun j h1 h2 => min_step p q j h1 h2
  rw [hL]
  clear hL
  generalize common p q = cm at *
  go_loopw [17, 70] (fun nn i wr => ∃ j m : Nat, j ≤ L ∧ i = .int .i64 j ∧ nn = .int .i64 ((min j cm : Nat) : Int) ∧ wr = w3.drewN m) (fun _ i _ => L - (intOf i).toNat)
  case atStart => exact ⟨0, 0, Nat.zero_le _, rfl, by simp, rfl⟩
  case round =>
    obtain ⟨j, m, hj, rfl, rfl, hw⟩ := hrel
    by_cases hlt : j < L
    · have h1 : j < p.length := by omega
      have h2 : j < q.length := by omega
      have hi0 : (0 : Int) ≤ (j : Int) := by omega
      have hi1 : (j : Int) < (p.length : Int) := by omega
      have hi2 : (j : Int) < (q.length : Int) := by omega
      have HW := Lib.hid hw
      clear hw
      rcases HMS.out j h1 h2 with ⟨hc, hmin⟩ | ⟨hx, ⟨he, hmin⟩ | ⟨he, hmin⟩⟩
      · have HM := Lib.hid hmin
        have c1 : (((min j cm : Nat) : Int) == (j : Int)) = false := by
          rw [beq_eq_false_iff_ne]
          omega
        clear hc hmin HMS
        generalize min j cm = x at *
        go_wp2
        go_quiet (fail)
        go_wp2
        go_roundw
        case rel => exact ⟨j + 1, m + nq, by omega, by go_num, by rw [HM.out], by rw [HW.out, World.drewN_drewN]⟩
        case measure => simp [intOf]; omega
      · have HM := Lib.hid hmin
        have c3 : ((p[j].toNat : Int) == (q[j].toNat : Int)) = true := by simp [he]
        rw [hx]
        clear he hmin hx HMS
        go_wp2
        go_quiet (fail)
        go_wp2
        go_roundw
        case rel => exact ⟨j + 1, m + nq, by omega, by go_num, by rw [HM.out]; go_num, by rw [HW.out, World.drewN_drewN]⟩
        case measure => simp [intOf]; omega
      · have HM := Lib.hid hmin
        have c3 : ((p[j].toNat : Int) == (q[j].toNat : Int)) = false := by
          rw [beq_eq_false_iff_ne]
          intro e
          exact he (UInt8.toNat_inj.1 (by omega))
        rw [hx]
        clear he hmin hx HMS
        go_wp2
        go_quiet (fail)
        go_wp2
        go_roundw
        case rel => exact ⟨j + 1, m + nq, by omega, by go_num, by rw [HM.out], by rw [HW.out, World.drewN_drewN]⟩
        case measure => simp [intOf]; omega
    · obtain rfl : j = L := by omega
      rw [show min j cm = cm by omega]
      have hblw : Below w3.heap.size w3 wr := by rw [hw]; exact below_of_drewN _ _ _
      clear HMS hw hL2 hcL hlt hj
      go_wp2_with fail
      refine (hCom _).out.mono ?_
      rintro e w4 ⟨rfl, m4, rfl⟩
      have hblx : Below w3.heap.size w3 (wr.drewN m4) := below_drewN hblw m4
      clear hblw hCom hL1
      generalize wr.drewN m4 = wx at *
      cases h3 : (p.all Bin.bitByte && decide (p.length ≤ 16)) with
      | false =>
        have hp : Bin.path p = false := by
          rw [Bin.path, Bool.and_comm]
          rw [Bool.and_eq_false_iff] at h3 ⊢
          rcases h3 with h3 | h3
          · exact .inl h3
          · right
            rw [beq_eq_false_iff_ne]
            have := of_decide_eq_false h3
            omega
        obtain ⟨rfl, rfl⟩ := HBit.out.1 hp
        rw [h3] at hPre
        clear h3 hp HBit hpl
        go_wp2_with fail
        refine (hPre _).out.mono ?_
        rintro e w5 ⟨rfl, rfl⟩
        cases hu : ss.any (fun s => !Bin.name s) with
        | false =>
          obtain ⟨rfl, rfl, hrT⟩ := HSort.out.1 hu
          rw [hu] at hU
          have hE := fun w' D' d' h1 h2 => Lib.hid (eqStrs D D' d d' (Bin.srt ss) (Bin.srt ss) w' hTm true (by simp) h1 h2)
          have hrT' := hrT.below hblx
          clear hu HSort hrT
          generalize Bin.srt ss = T at *
          go_wp2_with fail
          refine (hU _ hblx).out.mono ?_
          rintro e w7 ⟨rfl, rfl⟩
          go_wp2_with fail
          refine (hO _ hblx).out.mono ?_
          rintro e w7 ⟨D', d', rfl, hr7, hb7⟩
          go_wp2_with fail
          refine (hE _ D' d' (hrT'.below hb7) hr7).out.mono ?_
          rintro e w8 ⟨rfl, m8, rfl⟩
          go_wp2
          go_ret
          exact ⟨rfl, below_drewN (below_chain (below_chain hb0 hblx) hb7) m8⟩
        | true =>
          obtain ⟨rfl, rfl⟩ := HSort.out.2 hu
          rw [hu] at hU
          clear hu HSort hO
          go_wp2_with fail
          refine (hU _ hblx).out.mono ?_
          rintro e w7 ⟨rfl, rfl⟩
          go_wp2
          go_ret
          exact ⟨rfl, below_chain hb0 hblx⟩
      | true =>
        rw [h3] at hPre
        rw [Bool.and_eq_true, decide_eq_true_eq] at h3
        by_cases hlen : p.length < 16
        · have hp : Bin.path p = false := by
            rw [Bin.path, beq_eq_false_iff_ne.2 (by omega)]
            rfl
          obtain ⟨rfl, rfl⟩ := HBit.out.1 hp
          have c5 : decide ((p.length : Int) < 16) = true := decide_eq_true (by omega)
          clear h3 hp HBit hpl hlen
          go_wp2_with fail
          refine (hPre _).out.mono ?_
          rintro e w5 ⟨rfl, rfl⟩
          cases hu : ss.any (fun s => !Bin.name s) with
          | false =>
            obtain ⟨rfl, rfl, hrT⟩ := HSort.out.1 hu
            rw [hu] at hU
            have hE := fun w' D' d' h1 h2 => Lib.hid (eqStrs D D' d d' (Bin.srt ss) (Bin.srt ss) w' hTm true (by simp) h1 h2)
            have hrT' := hrT.below hblx
            clear hu HSort hrT
            generalize Bin.srt ss = T at *
            go_wp2_with fail
            refine (hU _ hblx).out.mono ?_
            rintro e w7 ⟨rfl, rfl⟩
            go_wp2_with fail
            refine (hO _ hblx).out.mono ?_
            rintro e w7 ⟨D', d', rfl, hr7, hb7⟩
            go_wp2_with fail
            refine (hE _ D' d' (hrT'.below hb7) hr7).out.mono ?_
            rintro e w8 ⟨rfl, m8, rfl⟩
            go_wp2
            go_ret
            exact ⟨rfl, below_drewN (below_chain (below_chain hb0 hblx) hb7) m8⟩
          | true =>
            obtain ⟨rfl, rfl⟩ := HSort.out.2 hu
            rw [hu] at hU
            clear hu HSort hO
            go_wp2_with fail
            refine (hU _ hblx).out.mono ?_
            rintro e w7 ⟨rfl, rfl⟩
            go_wp2
            go_ret
            exact ⟨rfl, below_chain hb0 hblx⟩
        · have hp : Bin.path p = true := by
            rw [Bin.path, show p.length = 16 by omega, h3.1]
            rfl
          have c5 : decide ((p.length : Int) < 16) = false := decide_eq_false (by omega)
          by_cases hk : k < 0 ∨ 15 < k
          · obtain ⟨rfl, rfl⟩ := HBit.out.2.1 hp hk
            by_cases hk0 : k < 0
            · have c6 : decide (k < 0) = true := decide_eq_true hk0
              clear h3 hp HBit hpl hlen hk hk0
              go_wp2_with fail
              refine (hPre _).out.mono ?_
              rintro e w5 ⟨rfl, rfl⟩
              cases hu : ss.any (fun s => !Bin.name s) with
              | false =>
                obtain ⟨rfl, rfl, hrT⟩ := HSort.out.1 hu
                rw [hu] at hU
                have hE := fun w' D' d' h1 h2 => Lib.hid (eqStrs D D' d d' (Bin.srt ss) (Bin.srt ss) w' hTm true (by simp) h1 h2)
                have hrT' := hrT.below hblx
                clear hu HSort hrT
                generalize Bin.srt ss = T at *
                go_wp2_with fail
                refine (hU _ hblx).out.mono ?_
                rintro e w7 ⟨rfl, rfl⟩
                go_wp2_with fail
                refine (hO _ hblx).out.mono ?_
                rintro e w7 ⟨D', d', rfl, hr7, hb7⟩
                go_wp2_with fail
                refine (hE _ D' d' (hrT'.below hb7) hr7).out.mono ?_
                rintro e w8 ⟨rfl, m8, rfl⟩
                go_wp2
                go_ret
                exact ⟨rfl, below_drewN (below_chain (below_chain hb0 hblx) hb7) m8⟩
              | true =>
                obtain ⟨rfl, rfl⟩ := HSort.out.2 hu
                rw [hu] at hU
                clear hu HSort hO
                go_wp2_with fail
                refine (hU _ hblx).out.mono ?_
                rintro e w7 ⟨rfl, rfl⟩
                go_wp2
                go_ret
                exact ⟨rfl, below_chain hb0 hblx⟩
            · have c6 : decide (k < 0) = false := decide_eq_false hk0
              have c7 : decide ((15 : Int) < k) = true := decide_eq_true (by omega)
              clear h3 hp HBit hpl hlen hk hk0
              go_wp2_with fail
              refine (hPre _).out.mono ?_
              rintro e w5 ⟨rfl, rfl⟩
              cases hu : ss.any (fun s => !Bin.name s) with
              | false =>
                obtain ⟨rfl, rfl, hrT⟩ := HSort.out.1 hu
                rw [hu] at hU
                have hE := fun w' D' d' h1 h2 => Lib.hid (eqStrs D D' d d' (Bin.srt ss) (Bin.srt ss) w' hTm true (by simp) h1 h2)
                have hrT' := hrT.below hblx
                clear hu HSort hrT
                generalize Bin.srt ss = T at *
                go_wp2_with fail
                refine (hU _ hblx).out.mono ?_
                rintro e w7 ⟨rfl, rfl⟩
                go_wp2_with fail
                refine (hO _ hblx).out.mono ?_
                rintro e w7 ⟨D', d', rfl, hr7, hb7⟩
                go_wp2_with fail
                refine (hE _ D' d' (hrT'.below hb7) hr7).out.mono ?_
                rintro e w8 ⟨rfl, m8, rfl⟩
                go_wp2
                go_ret
                exact ⟨rfl, below_drewN (below_chain (below_chain hb0 hblx) hb7) m8⟩
              | true =>
                obtain ⟨rfl, rfl⟩ := HSort.out.2 hu
                rw [hu] at hU
                clear hu HSort hO
                go_wp2_with fail
                refine (hU _ hblx).out.mono ?_
                rintro e w7 ⟨rfl, rfl⟩
                go_wp2
                go_ret
                exact ⟨rfl, below_chain hb0 hblx⟩
          · obtain ⟨y, rfl⟩ : ∃ y : Nat, k = (y : Int) := ⟨k.toNat, by omega⟩
            have hy : y < p.length := by omega
            obtain ⟨rfl, rfl⟩ := HBit.out.2.2 hp y hy rfl
            have c6 : decide ((y : Int) < 0) = false := decide_eq_false (by omega)
            have c7 : decide ((15 : Int) < (y : Int)) = false := decide_eq_false (by omega)
            have hi0 : (0 : Int) ≤ (y : Int) := by omega
            have hi1 : (y : Int) < (p.length : Int) := by omega
            have hv : (48 : Int) ≤ (p[y].toNat : Int) ∧ (p[y].toNat : Int) ≤ 49 := by have := path_at hp y hy; omega
            obtain ⟨hv1, hv2⟩ := hv
            clear h3 hp HBit hlen hk
            go_wp2_with fail
            refine (hPre _).out.mono ?_
            rintro e w5 ⟨rfl, rfl⟩
            cases hu : ss.any (fun s => !Bin.name s) with
            | false =>
              obtain ⟨rfl, rfl, hrT⟩ := HSort.out.1 hu
              rw [hu] at hU
              have hE := fun w' D' d' h1 h2 => Lib.hid (eqStrs D D' d d' (Bin.srt ss) (Bin.srt ss) w' hTm true (by simp) h1 h2)
              have hrT' := hrT.below hblx
              clear hu HSort hrT
              generalize Bin.srt ss = T at *
              go_wp2_with fail
              refine (hU _ hblx).out.mono ?_
              rintro e w7 ⟨rfl, rfl⟩
              go_wp2_with fail
              refine (hO _ hblx).out.mono ?_
              rintro e w7 ⟨D', d', rfl, hr7, hb7⟩
              go_wp2_with fail
              refine (hE _ D' d' (hrT'.below hb7) hr7).out.mono ?_
              rintro e w8 ⟨rfl, m8, rfl⟩
              go_wp2
              go_ret
              exact ⟨rfl, below_drewN (below_chain (below_chain hb0 hblx) hb7) m8⟩
            | true =>
              obtain ⟨rfl, rfl⟩ := HSort.out.2 hu
              rw [hu] at hU
              clear hu HSort hO
              go_wp2_with fail
              refine (hU _ hblx).out.mono ?_
              rintro e w7 ⟨rfl, rfl⟩
              go_wp2
              go_ret
              exact ⟨rfl, below_chain hb0 hblx⟩

set_option maxRecDepth 100000 in
set_option maxHeartbeats 2000000 in
theorem tells_unnamed (s p q : Bytes) (k : Int) (A : Option Addr) (c : Nat) (ss : List Bytes) (w : World) (hsl : s.length ≤ maxLen) (hpl : p.length ≤ maxLen) (hm : ss.length * 16 ≤ 140737488351232) (hs : ∀ s ∈ ss, s.length ≤ maxLen) (hA : Row w A (scells ss)) (hn : Bin.name s = false) :
    Calls Try.prog 3 #[.string (S s), .string (S p), .string (S q), .int .i64 k, .slice A ss.length c] w fun e w' => e = .returned (.bool true) ∧ Below w.heap.size w w' := by
  have hOf := fun w => Lib.hid (pathOf_no s w hsl hn)
  have hBit := fun w => Lib.hid (pathBit p k w hpl)
  have hName := fun w => Lib.hid (pathName s w hsl _ hn)
  have hGood := fun w => Lib.hid (goodName s w hsl _ hn)
  have hPre := fun w => Lib.hid (goodPrefix p w hpl _ rfl)
  have hCom := fun w => Lib.hid (pathCommon p q w hpl _ rfl)
  have hSort := fun w h => Lib.hid (pathSort_says A c ss w hm hs h)
  have hle := Bin.srt_le ss
  have hTm : (Bin.srt ss).length ≤ maxLen := by unfold maxLen; omega
  have hUn := fun w h => Lib.hid (unnamed A c ss w (by unfold maxLen; omega) hs _ rfl h)
  have hOrd := fun w h => Lib.hid (refOrdered A c ss w hm hs h)
  clear hn hsl hs hm hle
  unfold maxLen at hpl
  go_enter Try.func3, Try.ntmps3
  go_wp2_with fail
  refine (hOf _).out.mono ?_
  rintro e w1 ⟨rfl, rfl⟩
  have hb1 := Below.refl w.heap.size w
  go_wp2_with fail
  refine (hBit _).out.mono ?_
  rintro e w2 ⟨v, f, rfl, hbit, rfl⟩
  have HBit := Lib.hid hbit
  clear hbit
  go_wp2_with fail
  refine (hSort w (hA.below hb1)).out.mono ?_
  rintro e w3 ⟨D, n, d, g, rfl, hsort, hb3⟩
  have HSort := Lib.hid hsort
  have hb0 := below_chain hb1 hb3
  clear hsort hSort hOf hBit
  go_wp2_with fail
  refine (hName _).out.mono ?_
  rintro e w4 ⟨rfl, rfl⟩
  go_wp2_with fail
  refine (hGood _).out.mono ?_
  rintro e w4 ⟨rfl, rfl⟩
  go_wp2_with fail
  refine (hGood _).out.mono ?_
  rintro e w4 ⟨rfl, rfl⟩
  go_wp2_with fail
  refine (hGood _).out.mono ?_
  rintro e w4 ⟨rfl, rfl⟩
  go_wp2
  have hU := fun w' (hb : Below w3.heap.size w3 w') => hUn w' ((hA.below hb0).below hb)
  have hO := fun w' (hb : Below w3.heap.size w3 w') => hOrd w' ((hA.below hb0).below hb)
  clear hUn hOrd hA hb1 hb3
  obtain ⟨L, hL⟩ : ∃ L : Nat, min (p.length : Int) (q.length : Int) = (L : Int) := ⟨min p.length q.length, by omega⟩
  have hL1 : L ≤ p.length := by omega
  have hL2 : L ≤ q.length := by omega
  have hcL : common p q ≤ L := by have := common_le p q; omega
  have HMS : Hid (∀ j (h1 : j < p.length) (h2 : j < q.length), (common p q < j ∧ min (j + 1) (common p q) = min j (common p q)) ∨ (min j (common p q) = j ∧ (p[j] = q[j] ∧ min (j + 1) (common p q) = j + 1 ∨ p[j] ≠ q[j] ∧ min (j + 1) (common p q) = j))) := fun j h1 h2 => min_step p q j h1 h2
  rw [hL]
  clear hL
  generalize common p q = cm at *
  go_loopw [17, 70] (fun nn i wr => ∃ j m : Nat, j ≤ L ∧ i = .int .i64 j ∧ nn = .int .i64 ((min j cm : Nat) : Int) ∧ wr = w3.drewN m) (fun _ i _ => L - (intOf i).toNat)
  case atStart => exact ⟨0, 0, Nat.zero_le _, rfl, by simp, rfl⟩
  case round =>
    obtain ⟨j, m, hj, rfl, rfl, hw⟩ := hrel
    by_cases hlt : j < L
    · have h1 : j < p.length := by omega
      have h2 : j < q.length := by omega
      have hi0 : (0 : Int) ≤ (j : Int) := by omega
      have hi1 : (j : Int) < (p.length : Int) := by omega
      have hi2 : (j : Int) < (q.length : Int) := by omega
      have HW := Lib.hid hw
      clear hw
      rcases HMS.out j h1 h2 with ⟨hc, hmin⟩ | ⟨hx, ⟨he, hmin⟩ | ⟨he, hmin⟩⟩
      · have HM := Lib.hid hmin
        have c1 : (((min j cm : Nat) : Int) == (j : Int)) = false := by
          rw [beq_eq_false_iff_ne]
          omega
        clear hc hmin HMS
        generalize min j cm = x at *
        go_wp2
        go_quiet (fail)
        go_wp2
        go_roundw
        case rel => exact ⟨j + 1, m + nq, by omega, by go_num, by rw [HM.out], by rw [HW.out, World.drewN_drewN]⟩
        case measure => simp [intOf]; omega
      · have HM := Lib.hid hmin
        have c3 : ((p[j].toNat : Int) == (q[j].toNat : Int)) = true := by simp [he]
        rw [hx]
        clear he hmin hx HMS
        go_wp2
        go_quiet (fail)
        go_wp2
        go_roundw
        case rel => exact ⟨j + 1, m + nq, by omega, by go_num, by rw [HM.out]; go_num, by rw [HW.out, World.drewN_drewN]⟩
        case measure => simp [intOf]; omega
      · have HM := Lib.hid hmin
        have c3 : ((p[j].toNat : Int) == (q[j].toNat : Int)) = false := by
          rw [beq_eq_false_iff_ne]
          intro e
          exact he (UInt8.toNat_inj.1 (by omega))
        rw [hx]
        clear he hmin hx HMS
        go_wp2
        go_quiet (fail)
        go_wp2
        go_roundw
        case rel => exact ⟨j + 1, m + nq, by omega, by go_num, by rw [HM.out], by rw [HW.out, World.drewN_drewN]⟩
        case measure => simp [intOf]; omega
    · obtain rfl : j = L := by omega
      rw [show min j cm = cm by omega]
      have hblw : Below w3.heap.size w3 wr := by rw [hw]; exact below_of_drewN _ _ _
      clear HMS hw hL2 hcL hlt hj
      go_wp2_with fail
      refine (hCom _).out.mono ?_
      rintro e w4 ⟨rfl, m4, rfl⟩
      have hblx : Below w3.heap.size w3 (wr.drewN m4) := below_drewN hblw m4
      clear hblw hCom hL1
      generalize wr.drewN m4 = wx at *
      cases h3 : (p.all Bin.bitByte && decide (p.length ≤ 16)) with
      | false =>
        have hp : Bin.path p = false := by
          rw [Bin.path, Bool.and_comm]
          rw [Bool.and_eq_false_iff] at h3 ⊢
          rcases h3 with h3 | h3
          · exact .inl h3
          · right
            rw [beq_eq_false_iff_ne]
            have := of_decide_eq_false h3
            omega
        obtain ⟨rfl, rfl⟩ := HBit.out.1 hp
        rw [h3] at hPre
        clear h3 hp HBit hpl
        go_wp2_with fail
        refine (hPre _).out.mono ?_
        rintro e w5 ⟨rfl, rfl⟩
        cases hu : ss.any (fun s => !Bin.name s) with
        | false =>
          obtain ⟨rfl, rfl, hrT⟩ := HSort.out.1 hu
          rw [hu] at hU
          have hE := fun w' D' d' h1 h2 => Lib.hid (eqStrs D D' d d' (Bin.srt ss) (Bin.srt ss) w' hTm true (by simp) h1 h2)
          have hrT' := hrT.below hblx
          clear hu HSort hrT
          generalize Bin.srt ss = T at *
          go_wp2_with fail
          refine (hU _ hblx).out.mono ?_
          rintro e w7 ⟨rfl, rfl⟩
          go_wp2_with fail
          refine (hO _ hblx).out.mono ?_
          rintro e w7 ⟨D', d', rfl, hr7, hb7⟩
          go_wp2_with fail
          refine (hE _ D' d' (hrT'.below hb7) hr7).out.mono ?_
          rintro e w8 ⟨rfl, m8, rfl⟩
          go_wp2
          go_ret
          exact ⟨rfl, below_drewN (below_chain (below_chain hb0 hblx) hb7) m8⟩
        | true =>
          obtain ⟨rfl, rfl⟩ := HSort.out.2 hu
          rw [hu] at hU
          clear hu HSort hO
          go_wp2_with fail
          refine (hU _ hblx).out.mono ?_
          rintro e w7 ⟨rfl, rfl⟩
          go_wp2
          go_ret
          exact ⟨rfl, below_chain hb0 hblx⟩
      | true =>
        rw [h3] at hPre
        rw [Bool.and_eq_true, decide_eq_true_eq] at h3
        by_cases hlen : p.length < 16
        · have hp : Bin.path p = false := by
            rw [Bin.path, beq_eq_false_iff_ne.2 (by omega)]
            rfl
          obtain ⟨rfl, rfl⟩ := HBit.out.1 hp
          have c5 : decide ((p.length : Int) < 16) = true := decide_eq_true (by omega)
          clear h3 hp HBit hpl hlen
          go_wp2_with fail
          refine (hPre _).out.mono ?_
          rintro e w5 ⟨rfl, rfl⟩
          cases hu : ss.any (fun s => !Bin.name s) with
          | false =>
            obtain ⟨rfl, rfl, hrT⟩ := HSort.out.1 hu
            rw [hu] at hU
            have hE := fun w' D' d' h1 h2 => Lib.hid (eqStrs D D' d d' (Bin.srt ss) (Bin.srt ss) w' hTm true (by simp) h1 h2)
            have hrT' := hrT.below hblx
            clear hu HSort hrT
            generalize Bin.srt ss = T at *
            go_wp2_with fail
            refine (hU _ hblx).out.mono ?_
            rintro e w7 ⟨rfl, rfl⟩
            go_wp2_with fail
            refine (hO _ hblx).out.mono ?_
            rintro e w7 ⟨D', d', rfl, hr7, hb7⟩
            go_wp2_with fail
            refine (hE _ D' d' (hrT'.below hb7) hr7).out.mono ?_
            rintro e w8 ⟨rfl, m8, rfl⟩
            go_wp2
            go_ret
            exact ⟨rfl, below_drewN (below_chain (below_chain hb0 hblx) hb7) m8⟩
          | true =>
            obtain ⟨rfl, rfl⟩ := HSort.out.2 hu
            rw [hu] at hU
            clear hu HSort hO
            go_wp2_with fail
            refine (hU _ hblx).out.mono ?_
            rintro e w7 ⟨rfl, rfl⟩
            go_wp2
            go_ret
            exact ⟨rfl, below_chain hb0 hblx⟩
        · have hp : Bin.path p = true := by
            rw [Bin.path, show p.length = 16 by omega, h3.1]
            rfl
          have c5 : decide ((p.length : Int) < 16) = false := decide_eq_false (by omega)
          by_cases hk : k < 0 ∨ 15 < k
          · obtain ⟨rfl, rfl⟩ := HBit.out.2.1 hp hk
            by_cases hk0 : k < 0
            · have c6 : decide (k < 0) = true := decide_eq_true hk0
              clear h3 hp HBit hpl hlen hk hk0
              go_wp2_with fail
              refine (hPre _).out.mono ?_
              rintro e w5 ⟨rfl, rfl⟩
              cases hu : ss.any (fun s => !Bin.name s) with
              | false =>
                obtain ⟨rfl, rfl, hrT⟩ := HSort.out.1 hu
                rw [hu] at hU
                have hE := fun w' D' d' h1 h2 => Lib.hid (eqStrs D D' d d' (Bin.srt ss) (Bin.srt ss) w' hTm true (by simp) h1 h2)
                have hrT' := hrT.below hblx
                clear hu HSort hrT
                generalize Bin.srt ss = T at *
                go_wp2_with fail
                refine (hU _ hblx).out.mono ?_
                rintro e w7 ⟨rfl, rfl⟩
                go_wp2_with fail
                refine (hO _ hblx).out.mono ?_
                rintro e w7 ⟨D', d', rfl, hr7, hb7⟩
                go_wp2_with fail
                refine (hE _ D' d' (hrT'.below hb7) hr7).out.mono ?_
                rintro e w8 ⟨rfl, m8, rfl⟩
                go_wp2
                go_ret
                exact ⟨rfl, below_drewN (below_chain (below_chain hb0 hblx) hb7) m8⟩
              | true =>
                obtain ⟨rfl, rfl⟩ := HSort.out.2 hu
                rw [hu] at hU
                clear hu HSort hO
                go_wp2_with fail
                refine (hU _ hblx).out.mono ?_
                rintro e w7 ⟨rfl, rfl⟩
                go_wp2
                go_ret
                exact ⟨rfl, below_chain hb0 hblx⟩
            · have c6 : decide (k < 0) = false := decide_eq_false hk0
              have c7 : decide ((15 : Int) < k) = true := decide_eq_true (by omega)
              clear h3 hp HBit hpl hlen hk hk0
              go_wp2_with fail
              refine (hPre _).out.mono ?_
              rintro e w5 ⟨rfl, rfl⟩
              cases hu : ss.any (fun s => !Bin.name s) with
              | false =>
                obtain ⟨rfl, rfl, hrT⟩ := HSort.out.1 hu
                rw [hu] at hU
                have hE := fun w' D' d' h1 h2 => Lib.hid (eqStrs D D' d d' (Bin.srt ss) (Bin.srt ss) w' hTm true (by simp) h1 h2)
                have hrT' := hrT.below hblx
                clear hu HSort hrT
                generalize Bin.srt ss = T at *
                go_wp2_with fail
                refine (hU _ hblx).out.mono ?_
                rintro e w7 ⟨rfl, rfl⟩
                go_wp2_with fail
                refine (hO _ hblx).out.mono ?_
                rintro e w7 ⟨D', d', rfl, hr7, hb7⟩
                go_wp2_with fail
                refine (hE _ D' d' (hrT'.below hb7) hr7).out.mono ?_
                rintro e w8 ⟨rfl, m8, rfl⟩
                go_wp2
                go_ret
                exact ⟨rfl, below_drewN (below_chain (below_chain hb0 hblx) hb7) m8⟩
              | true =>
                obtain ⟨rfl, rfl⟩ := HSort.out.2 hu
                rw [hu] at hU
                clear hu HSort hO
                go_wp2_with fail
                refine (hU _ hblx).out.mono ?_
                rintro e w7 ⟨rfl, rfl⟩
                go_wp2
                go_ret
                exact ⟨rfl, below_chain hb0 hblx⟩
          · obtain ⟨y, rfl⟩ : ∃ y : Nat, k = (y : Int) := ⟨k.toNat, by omega⟩
            have hy : y < p.length := by omega
            obtain ⟨rfl, rfl⟩ := HBit.out.2.2 hp y hy rfl
            have c6 : decide ((y : Int) < 0) = false := decide_eq_false (by omega)
            have c7 : decide ((15 : Int) < (y : Int)) = false := decide_eq_false (by omega)
            have hi0 : (0 : Int) ≤ (y : Int) := by omega
            have hi1 : (y : Int) < (p.length : Int) := by omega
            have hv : (48 : Int) ≤ (p[y].toNat : Int) ∧ (p[y].toNat : Int) ≤ 49 := by have := path_at hp y hy; omega
            obtain ⟨hv1, hv2⟩ := hv
            clear h3 hp HBit hlen hk
            go_wp2_with fail
            refine (hPre _).out.mono ?_
            rintro e w5 ⟨rfl, rfl⟩
            cases hu : ss.any (fun s => !Bin.name s) with
            | false =>
              obtain ⟨rfl, rfl, hrT⟩ := HSort.out.1 hu
              rw [hu] at hU
              have hE := fun w' D' d' h1 h2 => Lib.hid (eqStrs D D' d d' (Bin.srt ss) (Bin.srt ss) w' hTm true (by simp) h1 h2)
              have hrT' := hrT.below hblx
              clear hu HSort hrT
              generalize Bin.srt ss = T at *
              go_wp2_with fail
              refine (hU _ hblx).out.mono ?_
              rintro e w7 ⟨rfl, rfl⟩
              go_wp2_with fail
              refine (hO _ hblx).out.mono ?_
              rintro e w7 ⟨D', d', rfl, hr7, hb7⟩
              go_wp2_with fail
              refine (hE _ D' d' (hrT'.below hb7) hr7).out.mono ?_
              rintro e w8 ⟨rfl, m8, rfl⟩
              go_wp2
              go_ret
              exact ⟨rfl, below_drewN (below_chain (below_chain hb0 hblx) hb7) m8⟩
            | true =>
              obtain ⟨rfl, rfl⟩ := HSort.out.2 hu
              rw [hu] at hU
              clear hu HSort hO
              go_wp2_with fail
              refine (hU _ hblx).out.mono ?_
              rintro e w7 ⟨rfl, rfl⟩
              go_wp2
              go_ret
              exact ⟨rfl, below_chain hb0 hblx⟩

theorem pathTells_walk (s p q : Bytes) (k : Int) (A : Option Addr) (c : Nat) (ss : List Bytes) (w : World) (hsl : s.length ≤ maxLen) (hpl : p.length ≤ maxLen) (hm : ss.length * 16 ≤ 140737488351232) (hs : ∀ s ∈ ss, s.length ≤ maxLen) (hA : Row w A (scells ss)) :
    Calls Try.prog 3 #[.string (S s), .string (S p), .string (S q), .int .i64 k, .slice A ss.length c] w fun e w' => e = .returned (.bool true) ∧ Below w.heap.size w w' := by
  cases hn : Bin.name s with
  | true => exact tells_named s p q k A c ss w hsl hpl hm hs hA hn
  | false => exact tells_unnamed s p q k A c ss w hsl hpl hm hs hA hn

set_option maxRecDepth 100000 in
theorem pathTells_lifted (os : Os) (started : os.Started) (H : Type) (enc : TypeId × Value → H) :
    ReturnsInHanded {} Try.checked os 3 .any (Rows.pathTellsSpec.pre6 enc Try.prog Try.f3 Rows.pathTellsRow.domain false) (Rows.pathTellsSpec.post enc Try.prog Try.f3 false true false false) := by
  refine returnsInHanded_of_change_sized (C := Try.checked) own started (by kernel_rfl) Try.func3
    (ChangeSpec.witness6 (enc := enc) (C := Try.checked) false ⟨#[], #[.string ⟨#[]⟩, .string ⟨#[]⟩, .string ⟨#[]⟩, .int .i64 0, .slice none 0 0], []⟩ 8 (by kernel_rfl) (by kernel_rfl) (by kernel_rfl) (by kernel_rfl)) ?_
  intro W base args ds gs before hval0 hW hcnd hsz _
  have hval : ∀ (j : Nat) t v, Try.f3.params[j]? = some t → args[j]? = some v → Value.okWide Try.prog W .any base t v := hval0
  have hW' := hW
  obtain ⟨p, q, hA0, hV, rfl, hfz, hnd⟩ := hW
  have hA : DataW.TrodAll enc Try.prog W 0 (fun _ => true) true Try.f3.params.toList args.toList ds p := hA0
  rw [Try.params3] at hA hval
  obtain ⟨v0, vs0, d0, ds0, p0, q0, hargs, rfl, rfl, h0, r0⟩ := trodAll_cons hA
  obtain ⟨v1, vs1, d1, ds1, p1, q1, rfl, rfl, rfl, h1, r1⟩ := trodAll_cons r0
  obtain ⟨v2, vs2, d2, ds2, p2, q2, rfl, rfl, rfl, h2, r2⟩ := trodAll_cons r1
  obtain ⟨v3, vs3, d3, ds3, p3, q3, rfl, rfl, rfl, h3, r3⟩ := trodAll_cons r2
  obtain ⟨v4, vs4, d4, ds4, p4, q4, rfl, rfl, rfl, h4, r4⟩ := trodAll_cons r3
  obtain ⟨rfl, rfl, rfl⟩ := trodAll_nil r4
  obtain rfl : args = #[v0, v1, v2, v3, v4] := by cases args; simp_all
  obtain ⟨rfl, rfl⟩ := trodVars_none hV
  rw [Try.params3] at hsz
  obtain ⟨l0, rfl, hl0⟩ := arg_str (hval 0 9 v0 rfl rfl) h0
  obtain ⟨l1, rfl, hl1⟩ := arg_str (hval 1 9 v1 rfl rfl) h1
  obtain ⟨l2, rfl, hl2⟩ := arg_str (hval 2 9 v2 rfl rfl) h2
  obtain ⟨x3, rfl, hx3, hy3⟩ := arg_i64 (hval 3 3 v3 rfl rfl) h3
  obtain ⟨A4, c4, s4, rfl, hm4, hr4, hs4⟩ := arg_strs_sized (j := 4) hsz rfl rfl (hval 4 22 v4 rfl rfl) h4
  refine (pathTells_walk l0 l1 l2 x3 A4 c4 s4 W hl0 hl1 hm4 hs4 hr4).mono fun e W' ⟨he, hb⟩ => ?_
  subst he
  exact ⟨_, rfl, post_law laidOut (by decide +kernel) rfl Try.underlying4 (by kernel_rfl) hW' rfl hb⟩

/-- The statement. -/
theorem pathTells_said : Rows.PathTellsSaid :=
  OpenClaim.holds_of_wide 3 Try.f3 rfl rfl rfl rfl rfl rfl rfl ⟨rfl, rfl, rfl, rfl, rfl⟩ rfl rfl rfl rfl rfl (by kernel_rfl) Try.func3 (by kernel_rfl)
    (of_decide_eq_true (by kernel_rfl)) (by unfold Func.isWrapper; first | (rw [if_pos (by decide +kernel)]; kernel_rfl) | (rw [if_neg (by decide +kernel)]; exact ⟨rfl, rfl⟩))
    (fun os started H enc _ => pathTells_lifted os started H enc)
#print axioms pathTells_said
end Go.Proofs.Ytllnknhgkfmpnaa
