/- Package chain: Check. It writes nothing that was there. -/
import Derived.Test.YthkhafgcpmoalaaChainNext
import Derived.Deep.RegionHeld3
namespace Go.Proofs.Ythkhafgcpmoalaa
set_option maxRecDepth 100000
open Go.RowKit

set_option maxHeartbeats 4000000 in
theorem chainCheck (A : Option Addr) (c : Nat) (l : List Hd) (w : World) (hm : l.length ≤ maxLen) (hA : Row w A (hcells l)) (r : Int) (p : Nat) (hr : cfault l = (r, p)) :
    Calls Try.prog 8 #[.slice A l.length c] w fun e w' => e = .returned (.tuple #[.int .i64 r, .int .i64 (p : Int)]) ∧ Below w.heap.size w w' := by
  unfold maxLen at hm
  unfold cfault at hr
  by_cases h0 : l.length = 0
  · rw [if_pos h0] at hr
    injection hr with e1 e2
    subst e1; subst e2
    have c0 : ((l.length : Int) == 0) = true := beq_iff_eq.2 (by omega)
    clear h0
    go_enter Try.func8, Try.ntmps8
    go_wp2
    go_ret2
    exact ⟨rfl, Below.refl _ _⟩
  rw [if_neg h0] at hr
  have c0 : ((l.length : Int) == 0) = false := beq_eq_false_iff_ne.2 (by omega)
  by_cases h1 : 40 < l.length
  · rw [if_pos h1] at hr
    injection hr with e1 e2
    subst e1; subst e2
    have c1 : decide ((40 : Int) < (l.length : Int)) = true := decide_eq_true (by omega)
    clear h0 h1
    go_enter Try.func8, Try.ntmps8
    go_wp2
    go_ret2
    exact ⟨rfl, Below.refl _ _⟩
  rw [if_neg h1] at hr
  have c1 : decide ((40 : Int) < (l.length : Int)) = false := decide_eq_false (by omega)
  have HR := Lib.hid hr
  have HP := Lib.hid (Nat.pos_of_ne_zero h0)
  clear hr h0 h1
  go_enter Try.func8, Try.ntmps8
  go_wp2
  go_loopw [16] (fun i wr => ∃ k : Nat, k ≤ l.length ∧ i = .int .i64 k ∧ Hid (badAt l 0 = badAt (l.drop k) k) ∧ Below w.heap.size w wr) (fun i _ => l.length - (intOf i).toNat)
  case atStart => exact ⟨0, Nat.zero_le _, rfl, rfl, Below.refl _ _⟩
  case round =>
    obtain ⟨k, hk, rfl, HS, hbl⟩ := hrel
    have hsz := hbl.size
    by_cases hlt : k < l.length
    · obtain ⟨g, off, rfl, h1, h2, h3, h4⟩ := (hA.below hbl).head k hlt
      have hi0 : (0 : Int) ≤ (k : Int) := by omega
      have hi1 : (k : Int) < (l.length : Int) := by omega
      have HS' : Hid (badAt l 0 = if hfault l[k] = 0 then badAt (l.drop (k + 1)) (k + 1) else some (hfault l[k], k)) := by
        show _ = _
        rw [HS.out, List.drop_eq_getElem_cons hlt]
        rfl
      clear hA HS
      obtain ⟨⟨ep, rt, pv, tm⟩, hx⟩ : ∃ x, l[k] = x := ⟨_, rfl⟩
      rw [hx] at h1 h2 h3 h4 HS'
      clear hx
      obtain ⟨r1, hr1⟩ : ∃ r1, hfault (ep, rt, pv, tm) = r1 := ⟨_, rfl⟩
      have hC := fun w => Lib.hid (headCheck ep rt pv tm w r1 hr1)
      rw [hr1] at HS'
      clear hr1
      dsimp only at h1 h2 h3 h4
      have hb0 : Below w.heap.size w (wr.alloc (.cells #[.int .i64 ep, .int .u64 (rt : Int), .int .u64 (pv : Int), .int .i64 tm] 25)) := hbl.alloc hsz _
      by_cases he : r1 = 0
      · subst he
        have HR' : Hid (badAt l 0 = badAt (l.drop (k + 1)) (k + 1)) := by
          show _ = _
          rw [HS'.out, if_pos rfl]
        clear HS'
        go_wp2_with fail
        refine (hC _).out.mono ?_
        rintro e w1 ⟨rfl, hb1⟩
        have hb2 := hb0.trans (hb1.mono hb0.size)
        clear hC
        go_wp2
        go_roundw
        case rel => exact ⟨k + 1, by omega, by go_num, HR', hb2⟩
        case measure => simp [intOf]; omega
      · have HR' : Hid ((r1, k) = (r, p)) := by
          show _ = _
          rw [← HR.out, HS'.out, if_neg he]
        have he' : (r1 == 0) = false := beq_eq_false_iff_ne.2 he
        clear HS' HR he
        go_wp2_with fail
        refine (hC _).out.mono ?_
        rintro e w1 ⟨rfl, hb1⟩
        have hb2 := hb0.trans (hb1.mono hb0.size)
        clear hC
        go_wp2
        go_ret2
        injection HR'.out with e1 e2
        subst e1; subst e2
        exact ⟨rfl, hb2⟩
    · have HN : Hid (badAt l 0 = none) := by
        show _ = _
        rw [HS.out, List.drop_eq_nil_of_le (by omega)]
        rfl
      clear HS
      have HQ : Hid ((match unAt l 1 with | some i => ((8 : Int), i) | none => (0, 0)) = (r, p)) := by
        have := HR.out
        rw [HN.out] at this
        exact this
      clear HR HN
      go_wp2
      go_loopw [7] (fun i wr => ∃ k : Nat, k + 1 ≤ l.length ∧ i = .int .i64 (k + 1) ∧ Hid (unAt l 1 = unAt (l.drop k) (k + 1)) ∧ Below w.heap.size w wr) (fun i _ => l.length - (intOf i).toNat)
      case atStart => exact ⟨0, HP.out, rfl, rfl, hbl⟩
      case round =>
        rename_i wr'
        obtain ⟨k, hk, rfl, HS, hbl'⟩ := hrel
        have hsz' := hbl'.size
        by_cases hlt : k + 1 < l.length
        · obtain ⟨g, off, rfl, h1, h2, h3, h4⟩ := (hA.below hbl').head k (by omega)
          obtain ⟨g', off', eA, j1, j2, j3, j4⟩ := (hA.below hbl').head (k + 1) hlt
          injection eA with eA
          injection eA with eA1 eA2
          subst eA1; subst eA2
          have HS' : Hid (unAt l 1 = if links l[k] l[k + 1] = true then unAt (l.drop (k + 1)) (k + 1 + 1) else some (k + 1)) := by
            show _ = _
            rw [HS.out, List.drop_eq_getElem_cons (by omega), List.drop_eq_getElem_cons hlt]
            rfl
          clear hA HS
          obtain ⟨⟨ep, rt, pv, tm⟩, hx⟩ : ∃ x, l[k] = x := ⟨_, rfl⟩
          obtain ⟨⟨fp, st, qv, um⟩, hy⟩ : ∃ x, l[k + 1] = x := ⟨_, rfl⟩
          rw [hx] at h1 h2 h3 h4
          rw [hy] at j1 j2 j3 j4
          rw [hx, hy] at HS'
          clear hx hy
          obtain ⟨b, hb⟩ : ∃ b, links (ep, rt, pv, tm) (fp, st, qv, um) = b := ⟨_, rfl⟩
          have hL := fun w => Lib.hid (chainSucceeds ep rt pv tm fp st qv um w b hb)
          rw [hb] at HS'
          clear hb
          dsimp only at h1 h2 h3 h4 j1 j2 j3 j4
          have hL' : ∀ W : World, (W.cell? ⟨g, off + k * 4, none⟩ = some (.int .i64 ep) ∧ W.cell? ⟨g, off + k * 4 + 1, none⟩ = some (.int .u64 (rt : Int)) ∧ W.cell? ⟨g, off + k * 4 + 2, none⟩ = some (.int .u64 (pv : Int)) ∧ W.cell? ⟨g, off + k * 4 + 3, none⟩ = some (.int .i64 tm) ∧ W.cell? ⟨g, off + (k + 1) * 4, none⟩ = some (.int .i64 fp) ∧ W.cell? ⟨g, off + (k + 1) * 4 + 1, none⟩ = some (.int .u64 (st : Int)) ∧ W.cell? ⟨g, off + (k + 1) * 4 + 2, none⟩ = some (.int .u64 (qv : Int)) ∧ W.cell? ⟨g, off + (k + 1) * 4 + 3, none⟩ = some (.int .i64 um) ∧ Below w.heap.size w W) → Hid (Calls Try.prog 29 #[.agg #[.int .i64 ep, .int .u64 (rt : Int), .int .u64 (pv : Int), .int .i64 tm], .agg #[.int .i64 fp, .int .u64 (st : Int), .int .u64 (qv : Int), .int .i64 um]] W fun e w' => e = .returned (.bool b) ∧ w'.cell? ⟨g, off + k * 4, none⟩ = some (.int .i64 ep) ∧ w'.cell? ⟨g, off + k * 4 + 1, none⟩ = some (.int .u64 (rt : Int)) ∧ w'.cell? ⟨g, off + k * 4 + 2, none⟩ = some (.int .u64 (pv : Int)) ∧ w'.cell? ⟨g, off + k * 4 + 3, none⟩ = some (.int .i64 tm) ∧ w'.cell? ⟨g, off + (k + 1) * 4, none⟩ = some (.int .i64 fp) ∧ w'.cell? ⟨g, off + (k + 1) * 4 + 1, none⟩ = some (.int .u64 (st : Int)) ∧ w'.cell? ⟨g, off + (k + 1) * 4 + 2, none⟩ = some (.int .u64 (qv : Int)) ∧ w'.cell? ⟨g, off + (k + 1) * 4 + 3, none⟩ = some (.int .i64 um) ∧ Below w.heap.size w w') := fun W ⟨q1, q2, q3, q4, q5, q6, q7, q8, q9⟩ => by
            show Calls _ _ _ _ _
            refine (hL W).out.mono ?_
            rintro e w' ⟨rfl, hb⟩
            exact ⟨rfl, kept q1 hb, kept q2 hb, kept q3 hb, kept q4 hb, kept q5 hb, kept q6 hb, kept q7 hb, kept q8 hb, below_chain q9 hb⟩
          have i1 : IntKind.i64.wrap ((k : Int) + 1 - 1) = (k : Int) := by rw [IntKind.wrap_i64]; omega
          have i6 : IntKind.i64.wrap (k : Int) = (k : Int) := by rw [IntKind.wrap_i64]; omega
          have i2 : (0 : Int) ≤ (k : Int) := by omega
          have i3 : (k : Int) < (l.length : Int) := by omega
          have i4 : (0 : Int) ≤ (k : Int) + 1 := by omega
          have i5 : (k : Int) + 1 < (l.length : Int) := by omega
          have h9 : Below w.heap.size w wr.drew := bdrew hbl'
          clear hL
          cases b with
          | true =>
            have HR' : Hid (unAt l 1 = unAt (l.drop (k + 1)) (k + 1 + 1)) := by
              show _ = _
              rw [HS'.out, if_pos rfl]
            clear HS'
            go_wp2
            go_region_held3 (fun w' => w'.cell? ⟨g, off + k * 4, none⟩ = some (.int .i64 ep) ∧ w'.cell? ⟨g, off + k * 4 + 1, none⟩ = some (.int .u64 (rt : Int)) ∧ w'.cell? ⟨g, off + k * 4 + 2, none⟩ = some (.int .u64 (pv : Int)) ∧ w'.cell? ⟨g, off + k * 4 + 3, none⟩ = some (.int .i64 tm) ∧ w'.cell? ⟨g, off + (k + 1) * 4, none⟩ = some (.int .i64 fp) ∧ w'.cell? ⟨g, off + (k + 1) * 4 + 1, none⟩ = some (.int .u64 (st : Int)) ∧ w'.cell? ⟨g, off + (k + 1) * 4 + 2, none⟩ = some (.int .u64 (qv : Int)) ∧ w'.cell? ⟨g, off + (k + 1) * 4 + 3, none⟩ = some (.int .i64 um) ∧ Below w.heap.size w w') (first | exact ⟨h1, h2, h3, h4, j1, j2, j3, j4, h9⟩ | exact ⟨by assumption, by assumption, by assumption, by assumption, by assumption, by assumption, by assumption, by assumption, by assumption⟩ | go_keep)
              (first | (go_at_call 29; refine (hL' _ ?_).out.mono ?_; (first | exact ⟨by assumption, by assumption, by assumption, by assumption, by assumption, by assumption, by assumption, by assumption, by assumption⟩); rintro e w' ⟨rfl, k1, k2, k3, k4, k5, k6, k7, k8, k9⟩))
            go_wp2
            go_roundw
            case rel => exact ⟨k + 1, hlt, by go_num, HR', k9⟩
            case measure => simp [intOf]; omega
          | false =>
            have HR' : Hid ((8, k + 1) = (r, p)) := by
              show _ = _
              rw [← HQ.out, HS'.out, if_neg (by decide)]
            clear HS' HQ
            go_wp2
            go_region_held3 (fun w' => w'.cell? ⟨g, off + k * 4, none⟩ = some (.int .i64 ep) ∧ w'.cell? ⟨g, off + k * 4 + 1, none⟩ = some (.int .u64 (rt : Int)) ∧ w'.cell? ⟨g, off + k * 4 + 2, none⟩ = some (.int .u64 (pv : Int)) ∧ w'.cell? ⟨g, off + k * 4 + 3, none⟩ = some (.int .i64 tm) ∧ w'.cell? ⟨g, off + (k + 1) * 4, none⟩ = some (.int .i64 fp) ∧ w'.cell? ⟨g, off + (k + 1) * 4 + 1, none⟩ = some (.int .u64 (st : Int)) ∧ w'.cell? ⟨g, off + (k + 1) * 4 + 2, none⟩ = some (.int .u64 (qv : Int)) ∧ w'.cell? ⟨g, off + (k + 1) * 4 + 3, none⟩ = some (.int .i64 um) ∧ Below w.heap.size w w') (first | exact ⟨h1, h2, h3, h4, j1, j2, j3, j4, h9⟩ | exact ⟨by assumption, by assumption, by assumption, by assumption, by assumption, by assumption, by assumption, by assumption, by assumption⟩ | go_keep)
              (first | (go_at_call 29; refine (hL' _ ?_).out.mono ?_; (first | exact ⟨by assumption, by assumption, by assumption, by assumption, by assumption, by assumption, by assumption, by assumption, by assumption⟩); rintro e w' ⟨rfl, k1, k2, k3, k4, k5, k6, k7, k8, k9⟩))
            go_wp2
            go_ret2
            injection HR'.out with e1 e2
            subst e1; subst e2
            exact ⟨rfl, k9⟩
        · have HR' : Hid ((0, 0) = (r, p)) := by
            show _ = _
            rw [← HQ.out, HS.out, List.drop_eq_getElem_cons (by omega), List.drop_eq_nil_of_le (by omega)]
            rfl
          clear HS HQ
          go_wp2
          go_ret2
          injection HR'.out with e1 e2
          subst e1; subst e2
          exact ⟨rfl, hbl'⟩
end Go.Proofs.Ythkhafgcpmoalaa
