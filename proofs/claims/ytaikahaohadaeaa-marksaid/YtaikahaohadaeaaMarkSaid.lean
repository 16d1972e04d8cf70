/- The law MarkSaid returns true: two kinds and two pairs of numbers have the same 17 bytes exactly where they are the same, and Two is the hash of the bytes; nothing that was there is written. No conditions. -/
import Derived.Test.YtaikahaohadaeaaLaw
import Derived.Test.YtaikahaohadaeaaAlike
import Derived.Test.YtaikahaohadaeaaSaid
namespace Go.Proofs.Ytaikahaohadaeaa
open Go.ChangeShapes Go.WideShapes Go.ChangeAt Go.RowKit

theorem said_length (k : UInt8) (a b : Nat) : (said k a b).length = 17 := rfl
theorem said_inj {k j : UInt8} {a b c d : Nat} (ha : a < 18446744073709551616) (hb : b < 18446744073709551616) (hc : c < 18446744073709551616) (hd : d < 18446744073709551616) (h : said k a b = said j c d) : k = j ∧ a = c ∧ b = d := by
  unfold said at h
  injection h with h1 h2
  have h3 := List.append_inj h2 (by rw [be8_length, be8_length])
  exact ⟨h1, be8_inj ha hc h3.1, be8_inj hb hd h3.2⟩

set_option maxRecDepth 100000 in
set_option maxHeartbeats 400000 in
theorem markSaid_walk (k : UInt8) (a b : Nat) (j : UInt8) (c d : Nat) (w : World) (ha : a < 18446744073709551616) (hb : b < 18446744073709551616) (hc : c < 18446744073709551616) (hd : d < 18446744073709551616) :
    Calls Try.prog 6 #[.int .u8 (k.toNat : Int), .int .u64 (a : Int), .int .u64 (b : Int), .int .u8 (j.toNat : Int), .int .u64 (c : Int), .int .u64 (d : Int)] w fun e w' => e = .returned (.bool true) ∧ Below w.heap.size w w' := by
  have hM := fun w => Lib.hid (marked w)
  have hS := fun w => Lib.hid (markSaid k a b w ha hb)
  have hT := fun w => Lib.hid (markSaid j c d w hc hd)
  have h2 := fun w => Lib.hid (markTwo k a b w ha hb)
  have hO := fun w => Lib.hid (markOf (said k a b) w (by rw [said_length]; show _ ≤ (2 : Nat) ^ 63 - 1; omega))
  have hlen : ((said k a b).length : Int) = 17 := by rw [said_length]; rfl
  have hin := fun h => said_inj (k := k) (j := j) ha hb hc hd h
  clear ha hb hc hd
  by_cases e1 : k = j
  · subst e1
    by_cases e2 : a = c
    · subst e2
      by_cases e3 : b = d
      · subst e3
        clear hin hT
        generalize Hash.of (said k a b) = x at *
        generalize said k a b = s at *
        go_enter Try.func6, Try.ntmps6
        go_wp2_with fail
        refine (hM _).out.mono ?_
        rintro e w1 ⟨rfl, m1, rfl⟩
        go_wp2_with fail
        refine (hS _).out.mono ?_
        rintro e w2 ⟨rfl, hb2⟩
        go_wp2_with fail
        refine (hS _).out.mono ?_
        rintro e w3 ⟨rfl, hb3⟩
        go_wp2_with fail
        refine (h2 _).out.mono ?_
        rintro e w4 ⟨rfl, hb4⟩
        go_wp2_with fail
        refine (hO _).out.mono ?_
        rintro e w5 ⟨rfl, m5, rfl⟩
        go_wp2
        go_ret
        exact ⟨rfl, below_drewN (below_chain (below_chain (below_chain (below_of_drewN _ w m1) hb2) hb3) hb4) m5⟩
      · have hne : (said k a b == said k a d) = false := by
          simp only [beq_eq_false_iff_ne, ne_eq]
          exact fun h => e3 (hin h).2.2
        have c3 : ((b : Int) == (d : Int)) = false := by
          simp only [beq_eq_false_iff_ne, ne_eq]
          omega
        clear hin e3
        generalize Hash.of (said k a b) = x at *
        generalize said k a b = s at *
        generalize said k a d = t at *
        go_enter Try.func6, Try.ntmps6
        go_wp2_with fail
        refine (hM _).out.mono ?_
        rintro e w1 ⟨rfl, m1, rfl⟩
        go_wp2_with fail
        refine (hS _).out.mono ?_
        rintro e w2 ⟨rfl, hb2⟩
        go_wp2_with fail
        refine (hT _).out.mono ?_
        rintro e w3 ⟨rfl, hb3⟩
        go_wp2_with fail
        refine (h2 _).out.mono ?_
        rintro e w4 ⟨rfl, hb4⟩
        go_wp2_with fail
        refine (hO _).out.mono ?_
        rintro e w5 ⟨rfl, m5, rfl⟩
        go_wp2
        go_ret
        exact ⟨rfl, below_drewN (below_chain (below_chain (below_chain (below_of_drewN _ w m1) hb2) hb3) hb4) m5⟩
    · have hne : (said k a b == said k c d) = false := by
        simp only [beq_eq_false_iff_ne, ne_eq]
        exact fun h => e2 (hin h).2.1
      have c3 : ((a : Int) == (c : Int)) = false := by
        simp only [beq_eq_false_iff_ne, ne_eq]
        omega
      clear hin e2
      generalize Hash.of (said k a b) = x at *
      generalize said k a b = s at *
      generalize said k c d = t at *
      go_enter Try.func6, Try.ntmps6
      go_wp2_with fail
      refine (hM _).out.mono ?_
      rintro e w1 ⟨rfl, m1, rfl⟩
      go_wp2_with fail
      refine (hS _).out.mono ?_
      rintro e w2 ⟨rfl, hb2⟩
      go_wp2_with fail
      refine (hT _).out.mono ?_
      rintro e w3 ⟨rfl, hb3⟩
      go_wp2_with fail
      refine (h2 _).out.mono ?_
      rintro e w4 ⟨rfl, hb4⟩
      go_wp2_with fail
      refine (hO _).out.mono ?_
      rintro e w5 ⟨rfl, m5, rfl⟩
      go_wp2
      go_ret
      exact ⟨rfl, below_drewN (below_chain (below_chain (below_chain (below_of_drewN _ w m1) hb2) hb3) hb4) m5⟩
  · have hne : (said k a b == said j c d) = false := by
      simp only [beq_eq_false_iff_ne, ne_eq]
      exact fun h => e1 (hin h).1
    have c3 : ((k.toNat : Int) == (j.toNat : Int)) = false := by
      simp only [beq_eq_false_iff_ne, ne_eq]
      intro h
      exact e1 (UInt8.toNat_inj.1 (by omega))
    clear hin e1
    generalize Hash.of (said k a b) = x at *
    generalize said k a b = s at *
    generalize said j c d = t at *
    go_enter Try.func6, Try.ntmps6
    go_wp2_with fail
    refine (hM _).out.mono ?_
    rintro e w1 ⟨rfl, m1, rfl⟩
    go_wp2_with fail
    refine (hS _).out.mono ?_
    rintro e w2 ⟨rfl, hb2⟩
    go_wp2_with fail
    refine (hT _).out.mono ?_
    rintro e w3 ⟨rfl, hb3⟩
    go_wp2_with fail
    refine (h2 _).out.mono ?_
    rintro e w4 ⟨rfl, hb4⟩
    go_wp2_with fail
    refine (hO _).out.mono ?_
    rintro e w5 ⟨rfl, m5, rfl⟩
    go_wp2
    go_ret
    exact ⟨rfl, below_drewN (below_chain (below_chain (below_chain (below_of_drewN _ w m1) hb2) hb3) hb4) m5⟩

set_option maxRecDepth 100000 in
theorem markSaid_lifted (os : Os) (started : os.Started) (H : Type) (enc : TypeId × Value → H) :
    ReturnsInHanded {} Try.checked os 6 .any (Rows.markSaidSpec.pre6 enc Try.prog Try.f6 Rows.markSaidRow.domain false) (Rows.markSaidSpec.post enc Try.prog Try.f6 false true false false) := by
  refine returnsInHanded_of_change (C := Try.checked) own started (by kernel_rfl) Try.func6
    (ChangeSpec.witness6 (enc := enc) (C := Try.checked) false ⟨#[], #[.int .u8 0, .int .u64 0, .int .u64 0, .int .u8 0, .int .u64 0, .int .u64 0], []⟩ 8 (by kernel_rfl) (by kernel_rfl) (by kernel_rfl) (by kernel_rfl)) ?_
  intro W base args ds gs before hval0 hW hcnd _
  have hval : ∀ (j : Nat) t v, Try.f6.params[j]? = some t → args[j]? = some v → Value.okWide Try.prog W .any base t v := hval0
  have hW' := hW
  obtain ⟨p, q, hA0, hV, rfl, hfz, hnd⟩ := hW
  have hA : DataW.TrodAll enc Try.prog W 0 (fun _ => true) true Try.f6.params.toList args.toList ds p := hA0
  rw [Try.params6] at hA hval
  obtain ⟨v0, vs0, d0, ds0, p0, q0, hargs, rfl, rfl, h0, r0⟩ := trodAll_cons hA
  obtain ⟨v1, vs1, d1, ds1, p1, q1, rfl, rfl, rfl, h1, r1⟩ := trodAll_cons r0
  obtain ⟨v2, vs2, d2, ds2, p2, q2, rfl, rfl, rfl, h2, r2⟩ := trodAll_cons r1
  obtain ⟨v3, vs3, d3, ds3, p3, q3, rfl, rfl, rfl, h3, r3⟩ := trodAll_cons r2
  obtain ⟨v4, vs4, d4, ds4, p4, q4, rfl, rfl, rfl, h4, r4⟩ := trodAll_cons r3
  obtain ⟨v5, vs5, d5, ds5, p5, q5, rfl, rfl, rfl, h5, r5⟩ := trodAll_cons r4
  obtain ⟨rfl, rfl, rfl⟩ := trodAll_nil r5
  obtain rfl : args = #[v0, v1, v2, v3, v4, v5] := by cases args; simp_all
  obtain ⟨rfl, rfl⟩ := trodVars_none hV
  obtain ⟨b0, rfl⟩ := arg_u8 (hval 0 5 v0 rfl rfl) h0
  obtain ⟨n1, rfl, hn1⟩ := arg_u64 (hval 1 22 v1 rfl rfl) h1
  obtain ⟨n2, rfl, hn2⟩ := arg_u64 (hval 2 22 v2 rfl rfl) h2
  obtain ⟨b3, rfl⟩ := arg_u8 (hval 3 5 v3 rfl rfl) h3
  obtain ⟨n4, rfl, hn4⟩ := arg_u64 (hval 4 22 v4 rfl rfl) h4
  obtain ⟨n5, rfl, hn5⟩ := arg_u64 (hval 5 22 v5 rfl rfl) h5
  refine (markSaid_walk b0 n1 n2 b3 n4 n5 W hn1 hn2 hn4 hn5).mono fun e W' ⟨he, hb⟩ => ?_
  subst he
  exact ⟨_, rfl, post_law laidOut (by decide +kernel) rfl Try.underlying4 (by kernel_rfl) hW' rfl hb⟩

/-- The statement. -/
theorem markSaid_said : Rows.MarkSaidSaid :=
  OpenClaim.holds_of_wide 6 Try.f6 rfl rfl rfl rfl rfl rfl rfl ⟨rfl, rfl, rfl, rfl, rfl⟩ rfl rfl rfl rfl rfl (by kernel_rfl) Try.func6 (by kernel_rfl)
    (of_decide_eq_true (by kernel_rfl)) (by unfold Func.isWrapper; first | (rw [if_pos (by decide +kernel)]; kernel_rfl) | (rw [if_neg (by decide +kernel)]; exact ⟨rfl, rfl⟩))
    (fun os started H enc _ => markSaid_lifted os started H enc)
#print axioms markSaid_said
end Go.Proofs.Ytaikahaohadaeaa
