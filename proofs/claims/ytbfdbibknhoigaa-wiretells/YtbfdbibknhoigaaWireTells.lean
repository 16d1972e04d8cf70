/- The law WireTells returns true: at whatever arguments, every function of package wire returns what the reference returns; nothing that was there is written. No conditions. -/
import Derived.Test.YtbfdbibknhoigaaLaw
import Derived.Test.YtbfdbibknhoigaaParts
import Derived.Test.YtbfdbibknhoigaaRead
import Derived.Test.YtbfdbibknhoigaaNum
namespace Go.Proofs.Ytbfdbibknhoigaa
open Go.ChangeShapes Go.WideShapes Go.ChangeAt Go.RowKit

theorem len8 (l : Bytes) (h : l.length = 8) : ∃ a b c d e f g i : UInt8, l = [a, b, c, d, e, f, g, i] := by
  match l, h with
  | [a, b, c, d, e, f, g, i], _ => exact ⟨a, b, c, d, e, f, g, i, rfl⟩
theorem num8_lt8 (l : Bytes) (h : l.length = 8) : num8 l < 18446744073709551616 := by
  have := num8_lt l
  rw [h] at this
  exact this

/-- What Put and the reference's Parts give. -/
def PutBoth (A : Option Addr) (ca : Nat) (ss : List Bytes) (t x : Bytes) (e : Int) (ok : Bool) : Prop :=
  ∀ W : World, Row W A (scells ss) →
    (Calls Try.prog 8 #[.slice A ss.length ca] W fun e' w' => e' = .returned (.tuple #[.string (S t), .int .i64 e]) ∧ Below W.heap.size W w') ∧
    (Calls Try.prog 12 #[.slice A ss.length ca] W fun e' w' => e' = .returned (.tuple #[.string (S x), .bool ok]) ∧ Below W.heap.size W w')
theorem putBoth (A : Option Addr) (ca : Nat) (ss : List Bytes) (hm : ss.length ≤ maxLen) (hss : ∀ s ∈ ss, s.length ≤ maxLen) :
    ∃ x, PutBoth A ca ss x x 0 true ∨ PutBoth A ca ss [] x 2 false := by
  have same : ∀ {W : World} {v : Value} {e' : Ending} {w' : World}, e' = .returned v ∧ W = w' → e' = .returned v ∧ Below W.heap.size W w' := by
    rintro W v e' w' ⟨h, rfl⟩
    exact ⟨h, Below.refl _ _⟩
  cases hf : Wire.fitsB ss with
  | true =>
    refine ⟨Wire.enc ss, ?_⟩
    by_cases h60 : ss.length ≤ 60
    · exact .inl fun W hr => ⟨put_yes A ca ss W (by simp [Wire.okB, hf, h60]) hr, parts_yes A ca ss W hm hf true (by simp; omega) hr⟩
    · exact .inr fun W hr => ⟨(put_no A ca ss W hm (by simp [Wire.okB, h60]) hr).mono fun _ _ h => same h, parts_yes A ca ss W hm hf false (by simp; omega) hr⟩
  | false => exact ⟨[], .inr fun W hr => ⟨(put_no A ca ss W hm (by simp [Wire.okB, hf]) hr).mono fun _ _ h => same h, parts_no A ca ss W hm hss hf hr⟩⟩

/-- What ReadNum and the reference's NumRead give. -/
def NumBoth (l : Bytes) (m x : Int) (e : Int) (ok : Bool) : Prop :=
  ∀ W : World,
    (Calls Try.prog 11 #[.string (S l)] W fun e' w' => e' = .returned (.tuple #[.int .u64 m, .int .i64 e]) ∧ Below W.heap.size W w') ∧
    (Calls Try.prog 13 #[.string (S l)] W fun e' w' => e' = .returned (.tuple #[.int .u64 x, .bool ok]) ∧ W = w')
theorem numBoth (l : Bytes) : ∃ x : Int, NumBoth l x x 0 true ∨ NumBoth l 0 x 3 false := by
  by_cases h : l.length = 8
  · refine ⟨(num8 l : Int), .inl fun W => ⟨?_, numRead_yes l W h⟩⟩
    obtain ⟨a, b, c, d, e, f, g, i, rfl⟩ := len8 l h
    exact readNum_yes a b c d e f g i W
  · refine ⟨0, .inr fun W => ⟨(readNum_no l W h).mono ?_, numRead_no l W h⟩⟩
    rintro e' w' ⟨he, rfl⟩
    exact ⟨he, Below.refl _ _⟩

/-- What Get and the reference's PartsRead give. -/
def GetBoth (l : Bytes) (a x : List Bytes) (e : Int) (ok : Bool) : Prop :=
  ∀ W : World, Calls Try.prog 9 #[.string (S l)] W (GotList a (.int .i64 e) W) ∧ Calls Try.prog 16 #[.string (S l)] W (GotList x (.bool ok) W)
theorem getBoth (l : Bytes) (hl : l.length ≤ 600) : ∃ x : List Bytes, x.length ≤ maxLen ∧ (GetBoth l x x 0 true ∨ GetBoth l [] x 3 false) := by
  have nil_ : ∀ W : World, (∀ qs : List Bytes, l = Wire.enc qs → 60 < qs.length) → Calls Try.prog 9 #[.string (S l)] W (GotList [] (.int .i64 3) W) := fun W h => by
    refine (get_no l W hl h).mono ?_
    rintro e' w' ⟨rfl, hb⟩
    exact ⟨none, 0, rfl, Row.nil_ _ _, hb⟩
  by_cases h : ∃ qs : List Bytes, l = Wire.enc qs
  · obtain ⟨qs, rfl⟩ := h
    have hq : qs.length ≤ maxLen := by
      have := Wire.two_le qs
      rw [Wire.enc_length] at hl
      unfold maxLen
      omega
    by_cases h60 : qs.length ≤ 60
    · exact ⟨qs, hq, .inl fun W => ⟨get_yes qs W hl h60, partsRead_yes qs W hl true (by simp; omega)⟩⟩
    · refine ⟨qs, hq, .inr fun W => ⟨nil_ W fun rs hrs => ?_, partsRead_yes qs W hl false (by simp; omega)⟩⟩
      rw [← Wire.enc_inj qs rs hrs (by rw [← hrs]; omega)]
      omega
  · refine ⟨[], by simp, .inr fun W => ⟨nil_ W fun qs hq => absurd ⟨qs, hq⟩ h, partsRead_no l W hl fun qs hq => h ⟨qs, hq⟩⟩⟩

/-- What First and the reference's PartFirst give. -/
def FirstBoth (l p r : Bytes) (e : Int) (ok : Bool) : Prop :=
  ∀ W : World,
    (Calls Try.prog 10 #[.string (S l)] W fun e' w' => e' = .returned (.tuple #[.string (S p), .string (S r), .int .i64 e]) ∧ ∃ m, w' = W.drewN m) ∧
    (Calls Try.prog 18 #[.string (S l)] W fun e' w' => e' = .returned (.tuple #[.string (S p), .string (S r), .bool ok]) ∧ ∃ m, w' = W.drewN m)
theorem firstBoth (l : Bytes) (hl : l.length ≤ 600) : ∃ p r : Bytes, FirstBoth l p r 0 true ∨ FirstBoth l p r 3 false := by
  cases h : Wire.firstB l with
  | true => exact ⟨_, _, .inl fun W => ⟨first_yes l W hl h, partFirst_yes l W hl h⟩⟩
  | false => exact ⟨[], [], .inr fun W => ⟨first_no l W hl h, partFirst_no l W hl h⟩⟩

set_option maxRecDepth 100000 in
set_option maxHeartbeats 4000000 in
theorem tells_large (A : Option Addr) (ca : Nat) (ss : List Bytes) (l : Bytes) (n : Nat) (w : World) (hm : ss.length ≤ maxLen) (hss : ∀ s ∈ ss, s.length ≤ maxLen) (hn : n < 18446744073709551616) (hA : Row w A (scells ss))
    (hl : 600 < l.length) (hlm : l.length ≤ maxLen) :
    Calls Try.prog 4 #[.slice A ss.length ca, .string (S l), .int .u64 (n : Int)] w fun e w' => e = .returned (.bool true) ∧ Below w.heap.size w w' := by
  unfold maxLen at hlm
  have HN := Lib.hid hn
  obtain ⟨x, hP⟩ := putBoth A ca ss hm hss
  obtain ⟨y, hR⟩ := numBoth l
  clear hn hm hss
  rcases hP with hP | hP <;> rcases hR with hR | hR
  all_goals
    have HP := Lib.hid hP
    have HR := Lib.hid hR
    clear hP hR
    go_enter Try.func4, Try.ntmps4
    go_wp2_with fail
    refine (HP.out _ hA).1.mono ?_
    rintro e w1 ⟨rfl, hb1⟩
    go_wp2_with fail
    refine (get_large l _ hl).mono ?_
    rintro e w2 ⟨rfl, hb2⟩
    go_wp2_with fail
    refine (first_large l _ hl).mono ?_
    rintro e w3 ⟨rfl, m3, rfl⟩
    go_wp2_with fail
    refine (HR.out _).1.mono ?_
    rintro e w4 ⟨rfl, hb4⟩
    go_wp2_with fail
    have hb5 := below_chain (below_drewN (below_chain hb1 hb2) m3) hb4
    refine (HP.out _ (hA.below hb5)).2.mono ?_
    rintro e w6 ⟨rfl, hb6⟩
    go_wp2_with fail
    refine (HR.out _).2.mono ?_
    rintro e w7 ⟨rfl, rfl⟩
    go_wp2_with fail
    refine (num_any n _ HN.out).mono ?_
    rintro e w8 ⟨rfl, hb8⟩
    go_wp2_with fail
    refine (refNum_any n _ HN.out).mono ?_
    rintro e w9 ⟨rfl, hb9⟩
    go_wp2
    go_ret
    exact ⟨rfl, below_chain (below_chain (below_chain hb5 hb6) hb8) hb9⟩

set_option maxRecDepth 100000 in
set_option maxHeartbeats 4000000 in
theorem tells_yes (A : Option Addr) (ca : Nat) (ss : List Bytes) (l : Bytes) (n : Nat) (w : World) (hm : ss.length ≤ maxLen) (hss : ∀ s ∈ ss, s.length ≤ maxLen) (hn : n < 18446744073709551616) (hA : Row w A (scells ss))
    (hl : l.length ≤ 600) (z : List Bytes) (hz : z.length ≤ maxLen) (hG : GetBoth l z z 0 true) :
    Calls Try.prog 4 #[.slice A ss.length ca, .string (S l), .int .u64 (n : Int)] w fun e w' => e = .returned (.bool true) ∧ Below w.heap.size w w' := by
  have HN := Lib.hid hn
  have HG := Lib.hid hG
  obtain ⟨x, hP⟩ := putBoth A ca ss hm hss
  obtain ⟨y, hR⟩ := numBoth l
  obtain ⟨p, r, hF⟩ := firstBoth l hl
  clear hn hm hss hG
  rcases hP with hP | hP <;> rcases hR with hR | hR <;> rcases hF with hF | hF
  all_goals
    have HP := Lib.hid hP
    have HR := Lib.hid hR
    have HF := Lib.hid hF
    clear hP hR hF
    go_enter Try.func4, Try.ntmps4
    go_wp2_with fail
    refine (HP.out _ hA).1.mono ?_
    rintro e w1 ⟨rfl, hb1⟩
    go_wp2_with fail
    refine (HG.out _).1.mono ?_
    rintro e w2 ⟨A2, c2, rfl, hr2, hb2⟩
    go_wp2_with fail
    refine (HF.out _).1.mono ?_
    rintro e w3 ⟨rfl, m3, rfl⟩
    go_wp2_with fail
    refine (HR.out _).1.mono ?_
    rintro e w4 ⟨rfl, hb4⟩
    go_wp2_with fail
    have hb5 := below_chain (below_drewN (below_chain hb1 hb2) m3) hb4
    refine (HP.out _ (hA.below hb5)).2.mono ?_
    rintro e w6 ⟨rfl, hb6⟩
    go_wp2_with fail
    refine (HR.out _).2.mono ?_
    rintro e w7 ⟨rfl, rfl⟩
    go_wp2_with fail
    refine (num_any n _ HN.out).mono ?_
    rintro e w8 ⟨rfl, hb8⟩
    go_wp2_with fail
    refine (refNum_any n _ HN.out).mono ?_
    rintro e w9 ⟨rfl, hb9⟩
    go_wp2_with fail
    refine (HG.out _).2.mono ?_
    rintro e w10 ⟨A10, c10, rfl, hr10, hb10⟩
    have hr2' := ((((hr2.drewN m3).below hb4).below hb6).below hb8).below hb9 |>.below hb10
    have hb11 := below_chain (below_chain (below_chain (below_chain hb5 hb6) hb8) hb9) hb10
    clear hb1 hb2 hb4 hb5 hb6 hb8 hb9 hb10 hr2
    go_wp2_with fail
    refine (eqStrs A2 A10 c2 c10 z z _ hz true (by simp) hr2' hr10).mono ?_
    rintro e w12 ⟨rfl, m12, rfl⟩
    go_wp2_with fail
    refine (HF.out _).2.mono ?_
    rintro e w13 ⟨rfl, m13, rfl⟩
    go_wp2
    go_ret
    exact ⟨rfl, below_drewN hb11 _⟩

set_option maxRecDepth 100000 in
set_option maxHeartbeats 4000000 in
theorem tells_no (A : Option Addr) (ca : Nat) (ss : List Bytes) (l : Bytes) (n : Nat) (w : World) (hm : ss.length ≤ maxLen) (hss : ∀ s ∈ ss, s.length ≤ maxLen) (hn : n < 18446744073709551616) (hA : Row w A (scells ss))
    (hl : l.length ≤ 600) (z : List Bytes) (hG : GetBoth l [] z 3 false) :
    Calls Try.prog 4 #[.slice A ss.length ca, .string (S l), .int .u64 (n : Int)] w fun e w' => e = .returned (.bool true) ∧ Below w.heap.size w w' := by
  have HN := Lib.hid hn
  have HG := Lib.hid hG
  obtain ⟨x, hP⟩ := putBoth A ca ss hm hss
  obtain ⟨y, hR⟩ := numBoth l
  obtain ⟨p, r, hF⟩ := firstBoth l hl
  clear hn hm hss hG
  rcases hP with hP | hP <;> rcases hR with hR | hR <;> rcases hF with hF | hF
  all_goals
    have HP := Lib.hid hP
    have HR := Lib.hid hR
    have HF := Lib.hid hF
    clear hP hR hF
    go_enter Try.func4, Try.ntmps4
    go_wp2_with fail
    refine (HP.out _ hA).1.mono ?_
    rintro e w1 ⟨rfl, hb1⟩
    go_wp2_with fail
    refine (HG.out _).1.mono ?_
    rintro e w2 ⟨A2, c2, rfl, hr2, hb2⟩
    go_wp2_with fail
    refine (HF.out _).1.mono ?_
    rintro e w3 ⟨rfl, m3, rfl⟩
    go_wp2_with fail
    refine (HR.out _).1.mono ?_
    rintro e w4 ⟨rfl, hb4⟩
    go_wp2_with fail
    have hb5 := below_chain (below_drewN (below_chain hb1 hb2) m3) hb4
    refine (HP.out _ (hA.below hb5)).2.mono ?_
    rintro e w6 ⟨rfl, hb6⟩
    go_wp2_with fail
    refine (HR.out _).2.mono ?_
    rintro e w7 ⟨rfl, rfl⟩
    go_wp2_with fail
    refine (num_any n _ HN.out).mono ?_
    rintro e w8 ⟨rfl, hb8⟩
    go_wp2_with fail
    refine (refNum_any n _ HN.out).mono ?_
    rintro e w9 ⟨rfl, hb9⟩
    go_wp2_with fail
    refine (HG.out _).2.mono ?_
    rintro e w10 ⟨A10, c10, rfl, hr10, hb10⟩
    have hr2' := ((((hr2.drewN m3).below hb4).below hb6).below hb8).below hb9 |>.below hb10
    have hb11 := below_chain (below_chain (below_chain (below_chain hb5 hb6) hb8) hb9) hb10
    clear hb1 hb2 hb4 hb5 hb6 hb8 hb9 hb10 hr2
    go_wp2_with fail
    refine (HF.out _).2.mono ?_
    rintro e w13 ⟨rfl, m13, rfl⟩
    go_wp2
    go_ret
    exact ⟨rfl, below_drewN hb11 m13⟩

theorem tells_walk (A : Option Addr) (ca : Nat) (ss : List Bytes) (l : Bytes) (n : Nat) (w : World) (hm : ss.length ≤ maxLen) (hss : ∀ s ∈ ss, s.length ≤ maxLen) (hn : n < 18446744073709551616) (hA : Row w A (scells ss)) (hlm : l.length ≤ maxLen) :
    Calls Try.prog 4 #[.slice A ss.length ca, .string (S l), .int .u64 (n : Int)] w fun e w' => e = .returned (.bool true) ∧ Below w.heap.size w w' := by
  by_cases hl : l.length ≤ 600
  · obtain ⟨z, hz, hG⟩ := getBoth l hl
    rcases hG with hG | hG
    · exact tells_yes A ca ss l n w hm hss hn hA hl z hz hG
    · exact tells_no A ca ss l n w hm hss hn hA hl z hG
  · exact tells_large A ca ss l n w hm hss hn hA (by omega) hlm

set_option maxRecDepth 100000 in
theorem wireTells_lifted (os : Os) (started : os.Started) (H : Type) (enc : TypeId × Value → H) :
    ReturnsInHanded {} Try.checked os 4 .any (Rows.wireTellsSpec.pre6 enc Try.prog Try.f4 Rows.wireTellsRow.domain false) (Rows.wireTellsSpec.post enc Try.prog Try.f4 false true false false) := by
  refine returnsInHanded_of_change (C := Try.checked) own started (by kernel_rfl) Try.func4
    (ChangeSpec.witness6 (enc := enc) (C := Try.checked) false ⟨#[], #[.slice none 0 0, .string ⟨#[]⟩, .int .u64 0], []⟩ 8 (by kernel_rfl) (by kernel_rfl) (by kernel_rfl) (by kernel_rfl)) ?_
  intro W base args ds gs before hval0 hW hcnd _
  have hval : ∀ (j : Nat) t v, Try.f4.params[j]? = some t → args[j]? = some v → Value.okWide Try.prog W .any base t v := hval0
  have hW' := hW
  obtain ⟨p, q, hA0, hV, rfl, hfz, hnd⟩ := hW
  have hA : DataW.TrodAll enc Try.prog W 0 (fun _ => true) true Try.f4.params.toList args.toList ds p := hA0
  rw [Try.params4] at hA hval
  obtain ⟨v0, vs0, d0, ds0, p0, q0, hargs, rfl, rfl, h0, r0⟩ := trodAll_cons hA
  obtain ⟨v1, vs1, d1, ds1, p1, q1, rfl, rfl, rfl, h1, r1⟩ := trodAll_cons r0
  obtain ⟨v2, vs2, d2, ds2, p2, q2, rfl, rfl, rfl, h2, r2⟩ := trodAll_cons r1
  obtain ⟨rfl, rfl, rfl⟩ := trodAll_nil r2
  obtain rfl : args = #[v0, v1, v2] := by cases args; simp_all
  obtain ⟨rfl, rfl⟩ := trodVars_none hV
  obtain ⟨A0, c0, s0, rfl, hm0, hr0, hs0⟩ := arg_strs (hval 0 27 v0 rfl rfl) h0
  obtain ⟨l1, rfl, hl1⟩ := arg_str (hval 1 9 v1 rfl rfl) h1
  obtain ⟨n2, rfl, hn2⟩ := arg_u64 (hval 2 28 v2 rfl rfl) h2
  refine (tells_walk A0 c0 s0 l1 n2 W hm0 hs0 hn2 hr0 hl1).mono fun e W' ⟨he, hb⟩ => ?_
  subst he
  exact ⟨_, rfl, post_law laidOut (by decide +kernel) rfl Try.underlying4 (by kernel_rfl) hW' rfl hb⟩

/-- The statement. -/
theorem wireTells_said : Rows.WireTellsSaid :=
  OpenClaim.holds_of_wide 4 Try.f4 rfl rfl rfl rfl rfl rfl rfl ⟨rfl, rfl, rfl, rfl, rfl⟩ rfl rfl rfl rfl rfl (by kernel_rfl) Try.func4 (by kernel_rfl)
    (of_decide_eq_true (by kernel_rfl)) (by unfold Func.isWrapper; first | (rw [if_pos (by decide +kernel)]; kernel_rfl) | (rw [if_neg (by decide +kernel)]; exact ⟨rfl, rfl⟩))
    (fun os started H enc _ => wireTells_lifted os started H enc)
#print axioms wireTells_said
end Go.Proofs.Ytbfdbibknhoigaa
