/- RollGrew: the consistency proof of every beginning verifies, and not against another hash. -/
import Derived.Test.YtlobpjpkldmnaaaRollLive
import Derived.Test.YtlobpjpkldmnaaaRollGrow
import Derived.Test.YtlobpjpkldmnaaaRollArgs
namespace Go.Proofs.Ytlobpjpkldmnaaa
set_option maxRecDepth 100000
open Go.ChangeShapes Go.WideShapes Go.ChangeAt Go.RowKit

theorem rollRoot_take (A : Option Addr) (c : Nat) (l : List Bytes) (m : Nat) (w : World) (hg : RGood l) (hc : l.length ≤ c) (h1 : 1 ≤ m) (hm : m ≤ l.length) (hA : Row w A (scells l)) (x : Nat) (hx : rhash (l.take m) = x) :
    Calls Try.prog 8 #[.slice A m c] w fun e w' => e = .returned (.tuple #[.int .u64 (x : Int), .int .i64 0]) ∧ Below w.heap.size w w' := by
  have h := rollRoot_yes A c (l.take m) w (hg.take h1) (by rw [List.length_take]; omega) (hA.takeR m) x hx
  rwa [List.length_take, Nat.min_eq_left hm] at h

set_option maxHeartbeats 4000000 in
theorem rollGrew_law_yes (A : Option Addr) (c : Nat) (l : List Bytes) (m : Nat) (w : World) (hg : RGood l) (hc : l.length ≤ c) (h1 : 1 ≤ m) (hm : m ≤ l.length) (hA : Row w A (scells l)) :
    Calls Try.prog 7 #[.slice A l.length c, .int .i64 (m : Int)] w fun e w' => e = .returned (.bool true) ∧ Below w.heap.size w w' := by
  have hL := fun w => Lib.hid (rolls w)
  have hG := fun w hA => Lib.hid (rollGrew_yes A c l m w hg hc h1 hm hA)
  have hRa := fun w hA => Lib.hid (rollRoot_take A c l m w hg hc h1 hm hA _ rfl)
  have hRb := fun w hA => Lib.hid (rollRoot_yes A c l w hg hc hA _ rfl)
  have ha : rhash (l.take m) < 18446744073709551616 := Nat.lt_trans (rhash_lt _) (by decide)
  have hb : rhash l < 2305843009213693951 := rhash_lt _
  have hLe : (grw l m true).length ≤ 41 := Nat.le_trans (grw_le _ _ _ h1) (by have := hg.le; omega)
  have hLt := grw_lt l m true
  have hY := isg_grown l m h1 hm (rhash l) true (decide_eq_true rfl)
  have hN := isg_grown l m h1 hm (rhash l + 1) false (decide_eq_false (by omega))
  have hI := fun (B : Option Addr) (d : Nat) (w : World) hd hdm hB => Lib.hid (rollIsGrown_yes (rhash (l.take m)) (rhash l) m l.length (grw l m true) B d (grw l m true).length w h1 hg.le hm ha hLt rfl hd hdm hB true hY)
  have hJ := fun (B : Option Addr) (d : Nat) (w : World) hd hdm hB => Lib.hid (rollIsGrown_yes (rhash (l.take m)) (rhash l + 1) m l.length (grw l m true) B d (grw l m true).length w h1 hg.le hm ha hLt rfl hd hdm hB false hN)
  have h4 := fun w g hg => Lib.hid (goods4 0 0 0 0 w g 25 hg true rfl)
  have i1 : (m : Int) ≤ (c : Int) := by omega
  have i2 : (0 : Int) ≤ (m : Int) := by omega
  have i3 : m ≤ c := by omega
  generalize grw l m true = L at *
  generalize rhash (l.take m) = a at *
  generalize rhash l = b at *
  have hwb : IntKind.u64.wrap ((b : Int) + 1) = (b : Int) + 1 := by rw [IntKind.wrap_u64]; omega
  have eb : ((b + 1 : Nat) : Int) = (b : Int) + 1 := by omega
  simp only [eb] at hJ
  clear eb hg hc h1 hm ha hLt hY hN
  go_enter Try.func7, Try.ntmps7
  go_wp2_with fail
  refine (hL _).out.mono ?_
  rintro e w1 ⟨rfl, hb1⟩
  have hA1 := hA.below hb1
  clear hL hA
  go_wp2_with fail
  refine (hG _ hA1).out.mono ?_
  rintro e w2 ⟨D, d, rfl, hown, hb2⟩
  obtain ⟨hd, hdm⟩ := own_cap1 hown
  have hA2 := hA1.below hb2
  have hD2 := Row.own hown
  have hb02 := below_chain hb1 hb2
  clear hG hA1 hown hb1 hb2
  go_wp2_with fail
  refine (hRa _ hA2).out.mono ?_
  rintro e w3 ⟨rfl, hb3⟩
  have hA3 := hA2.below hb3
  have hD3 := hD2.below hb3
  have hb03 := below_chain hb02 hb3
  clear hRa hA2 hD2 hb02 hb3
  go_wp2_with fail
  refine (hRb _ hA3).out.mono ?_
  rintro e w4 ⟨rfl, hb4⟩
  have hD4 := hD3.below hb4
  have hb04 := below_chain hb03 hb4
  clear hRb hA3 hD3 hb03 hb4
  go_wp2_with fail
  refine (hI D d _ hd hdm hD4).out.mono ?_
  rintro e w5 ⟨rfl, hb5⟩
  have hD5 := hD4.below hb5
  have hb05 := below_chain hb04 hb5
  clear hI hD4 hb04 hb5
  go_wp2_with fail
  refine (hJ D d _ hd hdm hD5).out.mono ?_
  rintro e w6 ⟨rfl, hb6⟩
  have hb06 := below_chain hb05 hb6
  clear hJ hD5 hb05 hb6
  go_wp2_with fail
  refine (h4 _ _ rfl).out.mono ?_
  rintro e w7 ⟨rfl, hw⟩
  subst hw
  go_wp2
  go_ret
  exact ⟨rfl, hb06.alloc hb06.size _⟩

set_option maxHeartbeats 1000000 in
theorem rollGrew_law_no (A : Option Addr) (c : Nat) (l : List Bytes) (m : Int) (w : World) (hm : l.length ≤ maxLen) (hl : ∀ s ∈ l, s.length ≤ maxLen) (hA : Row w A (scells l)) (h0 : grewErr l m ≠ 0) :
    Calls Try.prog 7 #[.slice A l.length c, .int .i64 m] w fun e w' => e = .returned (.bool true) ∧ Below w.heap.size w w' := by
  have hL := fun w => Lib.hid (rolls w)
  have hG := fun w hA => Lib.hid (rollGrew_no A c l m w hm hl hA _ rfl h0)
  have c1 : (grewErr l m != 0) = true := bne_iff_ne.2 h0
  have c2 : (grewErr l m == 0) = false := beq_eq_false_iff_ne.2 h0
  generalize grewErr l m = r at *
  clear hm hl h0
  go_enter Try.func7, Try.ntmps7
  go_wp2_with fail
  refine (hL _).out.mono ?_
  rintro e w1 ⟨rfl, hb1⟩
  go_wp2_with fail
  refine (hG _ (hA.below hb1)).out.mono ?_
  rintro e w2 ⟨rfl, hw⟩
  subst hw
  go_wp2
  go_ret
  exact ⟨rfl, hb1⟩

theorem rollGrew_walk (A : Option Addr) (c : Nat) (l : List Bytes) (m : Int) (w : World) (hm : l.length ≤ maxLen) (hl : ∀ s ∈ l, s.length ≤ maxLen) (hc : l.length ≤ c) (hA : Row w A (scells l)) :
    Calls Try.prog 7 #[.slice A l.length c, .int .i64 m] w fun e w' => e = .returned (.bool true) ∧ Below w.heap.size w w' := by
  by_cases h0 : grewErr l m = 0
  · obtain ⟨hg, h1, h2⟩ := (grewErr_ok l m).1 h0
    obtain ⟨m, rfl⟩ : ∃ j : Nat, m = (j : Int) := ⟨m.toNat, by omega⟩
    exact rollGrew_law_yes A c l m w hg hc (by omega) (by omega) hA
  · exact rollGrew_law_no A c l m w hm hl hA h0

set_option maxRecDepth 100000 in
theorem rollGrew_lifted (os : Os) (started : os.Started) (H : Type) (enc : TypeId × Value → H) :
    ReturnsInHanded {} Try.checked os 7 .any (Rows.rollGrewSpec.pre6 enc Try.prog Try.f7 Rows.rollGrewRow.domain false) (Rows.rollGrewSpec.post enc Try.prog Try.f7 false true false false) := by
  refine returnsInHanded_of_change (C := Try.checked) own started (by kernel_rfl) Try.func7
    (ChangeSpec.witness6 (enc := enc) (C := Try.checked) false ⟨#[], #[.slice none 0 0, .int .i64 0], []⟩ 8 (by kernel_rfl) (by kernel_rfl) (by kernel_rfl) (by kernel_rfl)) ?_
  intro W base args ds gs before hval0 hW hcnd _
  have hval : ∀ (j : Nat) t v, Try.f7.params[j]? = some t → args[j]? = some v → Value.okWide Try.prog W .any base t v := hval0
  have hW' := hW
  obtain ⟨p, q, hA0, hV, rfl, hfz, hnd⟩ := hW
  have hA : DataW.TrodAll enc Try.prog W 0 (fun _ => true) true Try.f7.params.toList args.toList ds p := hA0
  rw [Try.params7] at hA hval
  obtain ⟨v0, vs0, d0, ds0, p0, q0, hargs, rfl, rfl, h0, r0⟩ := trodAll_cons hA
  obtain ⟨v1, vs1, d1, ds1, p1, q1, rfl, rfl, rfl, h1, r1⟩ := trodAll_cons r0
  obtain ⟨rfl, rfl, rfl⟩ := trodAll_nil r1
  obtain rfl : args = #[v0, v1] := by cases args; simp_all
  obtain ⟨rfl, rfl⟩ := trodVars_none hV
  obtain ⟨A0, c0, s0, rfl, hm0, hr0, hs0, hc0⟩ := arg_strsC (hval 0 22 v0 rfl rfl) h0
  obtain ⟨x1, rfl, hx1, hy1⟩ := arg_i64 (hval 1 3 v1 rfl rfl) h1
  refine (rollGrew_walk A0 c0 s0 x1 _ hm0 hs0 hc0 hr0).mono fun e W' ⟨he, hb⟩ => ?_
  subst he
  exact ⟨_, rfl, post_law laidOut (by decide +kernel) rfl Try.underlying4 (by kernel_rfl) hW' rfl hb⟩

/-- The statement. -/
theorem rollGrew_said : Rows.RollGrewSaid :=
  OpenClaim.holds_of_wide 7 Try.f7 rfl rfl rfl rfl rfl rfl rfl ⟨rfl, rfl, rfl, rfl, rfl⟩ rfl rfl rfl rfl rfl (by kernel_rfl) Try.func7 (by kernel_rfl)
    (of_decide_eq_true (by kernel_rfl)) (by unfold Func.isWrapper; first | (rw [if_pos (by decide +kernel)]; kernel_rfl) | (rw [if_neg (by decide +kernel)]; exact ⟨rfl, rfl⟩))
    (fun os started H enc _ => rollGrew_lifted os started H enc)
#print axioms rollGrew_said
end Go.Proofs.Ytlobpjpkldmnaaa
