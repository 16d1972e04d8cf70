/- The law PathBits returns true: of two strings that are names, Common returns how long their paths are alike, Bit's answers are the same up to there and differ at that place, and the paths are one exactly if all sixteen are alike; nothing that was there is written. No conditions. -/
import Derived.Test.YtllnknhgkfmpnaaLaw
import Derived.Test.YtllnknhgkfmpnaaPathBit
import Derived.Test.YtllnknhgkfmpnaaGood
import Derived.Test.YtllnknhgkfmpnaaPathLive
namespace Go.Proofs.Ytllnknhgkfmpnaa
open Go.ChangeShapes Go.WideShapes Go.ChangeAt Go.RowKit

/-- good at two error numbers. -/
theorem good_two (a b : Int) (w : World) (g : Nat) (t : TypeId) (r : Bool) (hg : g = w.heap.size) (hr : allOk [a, b] = r) :
    Calls Try.prog 21 #[.slice (some ⟨g, 0, none⟩) 2 2] (w.alloc (.cells #[.int .i64 a, .int .i64 b] t)) fun e w' => e = .returned (.bool r) ∧ w.alloc (.cells #[.int .i64 a, .int .i64 b] t) = w' :=
  good_any (some ⟨g, 0, none⟩) 2 [a, b] _ (by simp) r hr (Row.new w g _ _ t hg rfl)

theorem common_at (p q : Bytes) (k : Nat) (h1 : k < p.length) (h2 : k < q.length) : (k < common p q → p[k] = q[k]) ∧ (k = common p q → p[k] ≠ q[k]) := by
  induction p generalizing q k with
  | nil => simp at h1
  | cons a p ih =>
    cases q with
    | nil => simp at h2
    | cons b q =>
      simp only [common]
      by_cases e : a = b
      · simp only [e, if_true]
        cases k with
        | zero => exact ⟨fun _ => rfl, fun h => by omega⟩
        | succ k =>
          have := ih q k (by simpa using h1) (by simpa using h2)
          exact ⟨fun h => this.1 (by omega), fun h => this.2 (by omega)⟩
      · simp only [e, if_false]
        cases k with
        | zero => exact ⟨fun h => by omega, fun _ => e⟩
        | succ k => exact ⟨fun h => by omega, fun h => by omega⟩
theorem common_all (p q : Bytes) (h : p.length = q.length) : common p q = p.length ↔ p = q := by
  constructor
  · intro e
    apply List.ext_getElem h
    intro k h1 h2
    exact (common_at p q k h1 h2).1 (by omega)
  · rintro rfl
    induction p with
    | nil => rfl
    | cons a p ih => simp [common, ih]

set_option maxRecDepth 100000 in
set_option maxHeartbeats 400000 in
theorem bits_no (a b : Bytes) (w : World) (ha : a.length ≤ maxLen) (hb : b.length ≤ maxLen) (h : Bin.name a = false ∨ Bin.name b = false) :
    Calls Try.prog 5 #[.string (S a), .string (S b)] w fun e w' => e = .returned (.bool true) ∧ Below w.heap.size w w' := by
  have hL := fun w => Lib.hid (pathsLive w)
  cases hna : Bin.name a with
  | false =>
    have hA := fun w => Lib.hid (pathOf_no a w ha hna)
    cases hnb : Bin.name b with
    | false =>
      have hB := fun w => Lib.hid (pathOf_no b w hb hnb)
      have hG := fun w g t hg => Lib.hid (good_two 3 3 w g t false hg rfl)
      clear h hna hnb ha hb
      go_enter Try.func5, Try.ntmps5
      go_wp2_with fail
      refine (hL _).out.mono ?_
      rintro e w1 ⟨rfl, hb1⟩
      go_wp2_with fail
      refine (hA _).out.mono ?_
      rintro e w2 ⟨rfl, rfl⟩
      go_wp2_with fail
      refine (hB _).out.mono ?_
      rintro e w2 ⟨rfl, rfl⟩
      go_wp2_with fail
      refine (hG _ _ _ rfl).out.mono ?_
      rintro e w2 ⟨rfl, rfl⟩
      go_wp2
      go_ret
      exact ⟨rfl, hb1.alloc hb1.size _⟩
    | true =>
      have hB := fun w => Lib.hid (pathOf_yes b w hnb)
      have hG := fun w g t hg => Lib.hid (good_two 3 0 w g t false hg rfl)
      generalize Bin.of b = q at *
      clear h hna hnb ha hb
      go_enter Try.func5, Try.ntmps5
      go_wp2_with fail
      refine (hL _).out.mono ?_
      rintro e w1 ⟨rfl, hb1⟩
      go_wp2_with fail
      refine (hA _).out.mono ?_
      rintro e w2 ⟨rfl, rfl⟩
      go_wp2_with fail
      refine (hB _).out.mono ?_
      rintro e w2 ⟨rfl, hb2⟩
      go_wp2_with fail
      refine (hG _ _ _ rfl).out.mono ?_
      rintro e w3 ⟨rfl, rfl⟩
      go_wp2
      go_ret
      exact ⟨rfl, (below_chain hb1 hb2).alloc (below_chain hb1 hb2).size _⟩
  | true =>
    have hnb : Bin.name b = false := by rcases h with h | h <;> simp_all
    have hA := fun w => Lib.hid (pathOf_yes a w hna)
    have hB := fun w => Lib.hid (pathOf_no b w hb hnb)
    have hG := fun w g t hg => Lib.hid (good_two 0 3 w g t false hg rfl)
    generalize Bin.of a = p at *
    clear h hna hnb ha hb
    go_enter Try.func5, Try.ntmps5
    go_wp2_with fail
    refine (hL _).out.mono ?_
    rintro e w1 ⟨rfl, hb1⟩
    go_wp2_with fail
    refine (hA _).out.mono ?_
    rintro e w2 ⟨rfl, hb2⟩
    go_wp2_with fail
    refine (hB _).out.mono ?_
    rintro e w3 ⟨rfl, rfl⟩
    go_wp2_with fail
    refine (hG _ _ _ rfl).out.mono ?_
    rintro e w3 ⟨rfl, rfl⟩
    go_wp2
    go_ret
    exact ⟨rfl, (below_chain hb1 hb2).alloc (below_chain hb1 hb2).size _⟩

set_option maxRecDepth 100000 in
set_option maxHeartbeats 800000 in
theorem bits_yes (a b : Bytes) (w : World) (hna : Bin.name a = true) (hnb : Bin.name b = true) :
    Calls Try.prog 5 #[.string (S a), .string (S b)] w fun e w' => e = .returned (.bool true) ∧ Below w.heap.size w w' := by
  have hL := fun w => Lib.hid (pathsLive w)
  have hA := fun w => Lib.hid (pathOf_yes a w hna)
  have hB := fun w => Lib.hid (pathOf_yes b w hnb)
  have hG := fun w g t hg => Lib.hid (good_two 0 0 w g t true hg rfl)
  have hpp := Bin.of_path a
  have hqp := Bin.of_path b
  have hpl := Bin.of_length a
  have hql := Bin.of_length b
  generalize Bin.of a = p at *
  generalize Bin.of b = q at *
  have hC := fun w => Lib.hid (pathCommon p q w (by unfold maxLen; omega) _ rfl)
  have hle := (common_le p q).1
  have HA : Hid (common p q = 16 ↔ p = q) := by
    show common p q = 16 ↔ p = q
    rw [← common_all p q (by omega), hpl]
  have HC : Hid (∀ k (h1 : k < p.length) (h2 : k < q.length), (k < common p q → p[k] = q[k]) ∧ (k = common p q → p[k] ≠ q[k])) := fun k h1 h2 => common_at p q k h1 h2
  generalize common p q = n at *
  have HP := Lib.hid hpp
  have HQ := Lib.hid hqp
  have HPL := Lib.hid hpl
  have HQL := Lib.hid hql
  have hn16 : n ≤ 16 := by omega
  clear hpp hqp hpl hql hle hna hnb
  go_enter Try.func5, Try.ntmps5
  go_wp2_with fail
  refine (hL _).out.mono ?_
  rintro e w1 ⟨rfl, hb1⟩
  go_wp2_with fail
  refine (hA _).out.mono ?_
  rintro e w2 ⟨rfl, hb2⟩
  go_wp2_with fail
  refine (hB _).out.mono ?_
  rintro e w3 ⟨rfl, hb3⟩
  go_wp2_with fail
  refine (hG _ _ _ rfl).out.mono ?_
  rintro e w4 ⟨rfl, rfl⟩
  have hb0 := below_chain hb1 (below_chain hb2 hb3)
  clear hb1 hb2 hb3 hL hA hB
  go_wp2_with fail
  refine (hC _).out.mono ?_
  rintro e w5 ⟨rfl, m, rfl⟩
  go_wp2
  go_loopw [49] (fun i wr => ∃ k : Nat, k ≤ 16 ∧ i = .int .i64 k ∧ Below w.heap.size w wr) (fun i _ => 16 - (intOf i).toNat)
  case atStart => exact ⟨0, Nat.zero_le _, rfl, below_drewN (hb0.alloc hb0.size _) m⟩
  case round =>
    obtain ⟨k, hk, rfl, hbl⟩ := hrel
    by_cases hlt : k < 16
    · have h1 : k < p.length := by rw [HPL.out]; exact hlt
      have h2 : k < q.length := by rw [HQL.out]; exact hlt
      have hX := fun w => Lib.hid (pathBit_yes p k w HP.out h1)
      have hY := fun w => Lib.hid (pathBit_yes q k w HQ.out h2)
      have hi1 : (k : Int) < 16 := by omega
      have hc := HC.out k h1 h2
      have hd : ((p[k].toNat : Int) - 48 = (q[k].toNat : Int) - 48) ↔ p[k] = q[k] := by
        rw [← UInt8.toNat_inj]; omega
      have key : ∃ c1 c2 c4 : Bool, decide ((k : Int) < (n : Int)) = c1 ∧ ((k : Int) == (n : Int)) = c2 ∧ (((p[k].toNat : Int) - 48) == ((q[k].toNat : Int) - 48)) = c4 ∧ (((p[k].toNat : Int) - 48) != ((q[k].toNat : Int) - 48)) = !c4 ∧ (c1 && !c4) = false ∧ (c2 && c4) = false ∧ (c1 && c2) = false := by
        refine ⟨_, _, _, rfl, rfl, rfl, rfl, ?_, ?_, ?_⟩
        · rw [Bool.and_eq_false_iff]
          by_cases h : k < n
          · right
            rw [Bool.not_eq_false', beq_iff_eq, hd]
            exact hc.1 h
          · left
            simp; omega
        · rw [Bool.and_eq_false_iff]
          by_cases h : k = n
          · right
            rw [beq_eq_false_iff_ne, ne_eq, hd]
            exact hc.2 h
          · left
            rw [beq_eq_false_iff_ne]
            omega
        · rw [Bool.and_eq_false_iff]
          by_cases h : k = n
          · left
            simp; omega
          · right
            rw [beq_eq_false_iff_ne]
            omega
      clear hc hd
      generalize (p[k].toNat : Int) - 48 = x at *
      generalize (q[k].toNat : Int) - 48 = y at *
      obtain ⟨c1, c2, c4, e1, e2, e3, e4, e5, e6, e7⟩ := key
      clear h1 h2 hn16
      go_wp2_with fail
      refine (hX _).out.mono ?_
      rintro e w5 ⟨rfl, rfl⟩
      go_wp2_with fail
      refine (hY _).out.mono ?_
      rintro e w5 ⟨rfl, rfl⟩
      go_wp2_with fail
      refine (hG _ _ _ rfl).out.mono ?_
      rintro e w5 ⟨rfl, rfl⟩
      have hb9 := fun t => hbl.alloc hbl.size (.cells #[.int .i64 0, .int .i64 0] t)
      clear hX hY hG
      cases c1 <;> cases c2 <;> cases c4 <;>
      first
      | (exfalso; simp at e5; done)
      | (exfalso; simp at e6; done)
      | (exfalso; simp at e7; done)
      | (go_wp2
         all_goals first | exact ⟨⟨k + 1, by omega, by go_num, hb9 _⟩, by simp [intOf]; omega⟩ | (exfalso; simp at e1; omega))
    · obtain rfl : k = 16 := by omega
      have d1 : decide ((0 : Int) ≤ (n : Int)) = true := decide_eq_true (by omega)
      have d2 : decide ((n : Int) ≤ 16) = true := decide_eq_true (by omega)
      have d3 : ((n : Int) == 16) = (p == q) := by
        rw [Bool.eq_iff_iff, beq_iff_eq, beq_iff_eq, ← HA.out]
        omega
      have d4 : (p == q) = true ∨ (p == q) = false := by cases p == q <;> simp
      clear hn16
      rcases d4 with d4 | d4 <;>
      · rw [d4] at d3
        go_wp2
        go_ret
        exact ⟨rfl, hbl⟩

theorem pathBits_walk (a b : Bytes) (w : World) (ha : a.length ≤ maxLen) (hb : b.length ≤ maxLen) :
    Calls Try.prog 5 #[.string (S a), .string (S b)] w fun e w' => e = .returned (.bool true) ∧ Below w.heap.size w w' := by
  cases hna : Bin.name a with
  | false => exact bits_no a b w ha hb (.inl hna)
  | true =>
    cases hnb : Bin.name b with
    | false => exact bits_no a b w ha hb (.inr hnb)
    | true => exact bits_yes a b w hna hnb

set_option maxRecDepth 100000 in
theorem pathBits_lifted (os : Os) (started : os.Started) (H : Type) (enc : TypeId × Value → H) :
    ReturnsInHanded {} Try.checked os 5 .any (Rows.pathBitsSpec.pre6 enc Try.prog Try.f5 Rows.pathBitsRow.domain false) (Rows.pathBitsSpec.post enc Try.prog Try.f5 false true false false) := by
  refine returnsInHanded_of_change (C := Try.checked) own started (by kernel_rfl) Try.func5
    (ChangeSpec.witness6 (enc := enc) (C := Try.checked) false ⟨#[], #[.string ⟨#[]⟩, .string ⟨#[]⟩], []⟩ 8 (by kernel_rfl) (by kernel_rfl) (by kernel_rfl) (by kernel_rfl)) ?_
  intro W base args ds gs before hval0 hW hcnd _
  have hval : ∀ (j : Nat) t v, Try.f5.params[j]? = some t → args[j]? = some v → Value.okWide Try.prog W .any base t v := hval0
  have hW' := hW
  obtain ⟨p, q, hA0, hV, rfl, hfz, hnd⟩ := hW
  have hA : DataW.TrodAll enc Try.prog W 0 (fun _ => true) true Try.f5.params.toList args.toList ds p := hA0
  rw [Try.params5] at hA hval
  obtain ⟨v0, vs0, d0, ds0, p0, q0, hargs, rfl, rfl, h0, r0⟩ := trodAll_cons hA
  obtain ⟨v1, vs1, d1, ds1, p1, q1, rfl, rfl, rfl, h1, r1⟩ := trodAll_cons r0
  obtain ⟨rfl, rfl, rfl⟩ := trodAll_nil r1
  obtain rfl : args = #[v0, v1] := by cases args; simp_all
  obtain ⟨rfl, rfl⟩ := trodVars_none hV
  obtain ⟨l0, rfl, hl0⟩ := arg_str (hval 0 9 v0 rfl rfl) h0
  obtain ⟨l1, rfl, hl1⟩ := arg_str (hval 1 9 v1 rfl rfl) h1
  refine (pathBits_walk l0 l1 W hl0 hl1).mono fun e W' ⟨he, hb⟩ => ?_
  subst he
  exact ⟨_, rfl, post_law laidOut (by decide +kernel) rfl Try.underlying4 (by kernel_rfl) hW' rfl hb⟩

/-- The statement. -/
theorem pathBits_said : Rows.PathBitsSaid :=
  OpenClaim.holds_of_wide 5 Try.f5 rfl rfl rfl rfl rfl rfl rfl ⟨rfl, rfl, rfl, rfl, rfl⟩ rfl rfl rfl rfl rfl (by kernel_rfl) Try.func5 (by kernel_rfl)
    (of_decide_eq_true (by kernel_rfl)) (by unfold Func.isWrapper; first | (rw [if_pos (by decide +kernel)]; kernel_rfl) | (rw [if_neg (by decide +kernel)]; exact ⟨rfl, rfl⟩))
    (fun os started H enc _ => pathBits_lifted os started H enc)
#print axioms pathBits_said
end Go.Proofs.Ytllnknhgkfmpnaa
