/- The law WireBack returns true: Get restores the strings that Put encodes, Put encodes what Get has decoded, and the same holds of numbers; nothing that was there is written. No conditions. -/
import Derived.Test.YtbfdbibknhoigaaLaw
import Derived.Test.YtbfdbibknhoigaaFits
import Derived.Test.YtbfdbibknhoigaaPut
import Derived.Test.YtbfdbibknhoigaaGet
import Derived.Test.YtbfdbibknhoigaaNum
namespace Go.Proofs.Ytbfdbibknhoigaa
open Go.ChangeShapes Go.WideShapes Go.ChangeAt Go.RowKit

theorem enc_a : Wire.enc [[97]] = [0, 1, 97] := by decide

set_option maxRecDepth 100000 in
set_option maxHeartbeats 400000 in
theorem wires_true (w : World) : Calls Try.prog 19 #[] w fun e w' => e = .returned (.bool true) ∧ Below w.heap.size w w' := by
  have hs : (⟨#[0, 1, 97]⟩ : ByteArray).toList = [0, 1, 97] := by rw [ByteArray.toList_eq]
  go_enter Try.func19, Try.ntmps19
  go_wp2_with fail
  refine (put_yes _ _ [[97]] _ (by decide) (Row.new _ _ _ _ _ rfl rfl)).mono ?_
  rintro e w1 ⟨rfl, hb1⟩
  rw [enc_a]
  go_wp2
  go_ret
  exact ⟨rfl, ((Below.refl _ _).alloc (Nat.le_refl _) _).trans (hb1.mono (by simp))⟩

/-- What Get does at a string: a list, or nil and an error. -/
theorem get_cases (l : Bytes) : (∃ qs : List Bytes, l = Wire.enc qs ∧ qs.length ≤ 60 ∧ l.length ≤ 600) ∨
    (∃ c : Int, (c = 2 ∨ c = 3) ∧ ∀ W : World, Calls Try.prog 9 #[.string (S l)] W fun e w' => e = .returned (.tuple #[.slice none 0 0, .int .i64 c]) ∧ Below W.heap.size W w') := by
  by_cases hl : l.length ≤ 600
  · by_cases h : ∃ qs : List Bytes, l = Wire.enc qs ∧ qs.length ≤ 60
    · obtain ⟨qs, h1, h2⟩ := h
      exact .inl ⟨qs, h1, h2, hl⟩
    · refine .inr ⟨3, .inr rfl, fun W => get_no l W hl fun qs hq => ?_⟩
      rcases Nat.lt_or_ge 60 qs.length with h6 | h6
      · exact h6
      · exact absurd ⟨qs, hq, h6⟩ h
  · exact .inr ⟨2, .inl rfl, fun W => get_large l W (by omega)⟩

theorem okB_of (qs : List Bytes) (h1 : qs.length ≤ 60) (h2 : (Wire.enc qs).length ≤ 600) : Wire.okB qs = true := by
  rw [Wire.enc_length] at h2
  simp [Wire.okB, Wire.fitsB, h1, h2]
theorem of_okB {qs : List Bytes} (h : Wire.okB qs = true) : qs.length ≤ 60 ∧ (Wire.enc qs).length ≤ 600 := by
  rw [Wire.enc_length]
  simpa [Wire.okB, Wire.fitsB] using h

/-- The end of the law: ReadNum of Num. -/
theorem be8_form (n : Nat) : ∃ a b c d e f g h : UInt8, be8 n = [a, b, c, d, e, f, g, h] := ⟨_, _, _, _, _, _, _, _, rfl⟩
theorem readNum_be8 (n : Nat) (w : World) (hn : n < 18446744073709551616) :
    Calls Try.prog 11 #[.string (S (be8 n))] w fun e' w' => e' = .returned (.tuple #[.int .u64 (n : Int), .int .i64 0]) ∧ Below w.heap.size w w' := by
  obtain ⟨a, b, c, d, e, f, g, h, hb⟩ := be8_form n
  have := readNum_yes a b c d e f g h w
  rw [← hb, num8_be8 n hn] at this
  exact this

set_option maxRecDepth 100000 in
set_option maxHeartbeats 1000000 in
theorem back_walk (A : Option Addr) (ca : Nat) (ss : List Bytes) (l : Bytes) (n : Nat) (w : World) (hm : ss.length ≤ maxLen) (hn : n < 18446744073709551616) (hA : Row w A (scells ss)) :
    Calls Try.prog 5 #[.slice A ss.length ca, .string (S l), .int .u64 (n : Int)] w fun e w' => e = .returned (.bool true) ∧ Below w.heap.size w w' := by
  have hnn : ((n : Int) == (n : Int)) = true := by simp
  have HN := Lib.hid hn
  clear hn
  rcases get_cases l with ⟨qs, rfl, hq1, hq2⟩ | ⟨c, hc, hG⟩
  · cases hok : Wire.okB ss with
    | true =>
      have hok' := of_okB hok
      go_enter Try.func5, Try.ntmps5
      go_wp2_with fail
      refine (wires_true _).mono ?_
      rintro e w1 ⟨rfl, hb1⟩
      go_wp2_with fail
      refine (put_yes A ca ss _ hok (hA.below hb1)).mono ?_
      rintro e w2 ⟨rfl, hb2⟩
      go_wp2_with fail
      refine (get_yes ss _ hok'.2 hok'.1).mono ?_
      rintro e w3 ⟨A3, c3, rfl, hr3, hb3⟩
      go_wp2_with fail
      refine (eqStrs A A3 ca c3 ss ss _ hm true (by simp) (((hA.below hb1).below hb2).below hb3) hr3).mono ?_
      rintro e w4 ⟨rfl, m4, rfl⟩
      go_wp2_with fail
      refine (get_yes qs _ hq2 hq1).mono ?_
      rintro e w5 ⟨A5, c5, rfl, hr5, hb5⟩
      go_wp2_with fail
      refine (put_yes A5 c5 qs _ (okB_of qs hq1 hq2) hr5).mono ?_
      rintro e w6 ⟨rfl, hb6⟩
      go_wp2_with fail
      refine (num_any n _ HN.out).mono ?_
      rintro e w7 ⟨rfl, hb7⟩
      go_wp2_with fail
      refine (readNum_be8 n _ HN.out).mono ?_
      rintro e w8 ⟨rfl, hb8⟩
      go_wp2
      go_ret
      exact ⟨rfl, below_chain (below_chain (below_chain (below_chain (below_drewN (below_chain (below_chain hb1 hb2) hb3) m4) hb5) hb6) hb7) hb8⟩
    | false =>
      go_enter Try.func5, Try.ntmps5
      go_wp2_with fail
      refine (wires_true _).mono ?_
      rintro e w1 ⟨rfl, hb1⟩
      go_wp2_with fail
      refine (put_no A ca ss _ hm hok (hA.below hb1)).mono ?_
      rintro e w2 ⟨rfl, rfl⟩
      go_wp2_with fail
      refine (get_yes qs _ hq2 hq1).mono ?_
      rintro e w5 ⟨A5, c5, rfl, hr5, hb5⟩
      go_wp2_with fail
      refine (put_yes A5 c5 qs _ (okB_of qs hq1 hq2) hr5).mono ?_
      rintro e w6 ⟨rfl, hb6⟩
      go_wp2_with fail
      refine (num_any n _ HN.out).mono ?_
      rintro e w7 ⟨rfl, hb7⟩
      go_wp2_with fail
      refine (readNum_be8 n _ HN.out).mono ?_
      rintro e w8 ⟨rfl, hb8⟩
      go_wp2
      go_ret
      exact ⟨rfl, below_chain (below_chain (below_chain (below_chain hb1 hb5) hb6) hb7) hb8⟩
  · have hc0 : (c == 0) = false := by rcases hc with rfl | rfl <;> rfl
    have hc1 : (c != 0) = true := by rcases hc with rfl | rfl <;> rfl
    clear hc
    have HG := Lib.hid hG
    clear hG
    cases hok : Wire.okB ss with
    | true =>
      have hok' := of_okB hok
      go_enter Try.func5, Try.ntmps5
      go_wp2_with fail
      refine (wires_true _).mono ?_
      rintro e w1 ⟨rfl, hb1⟩
      go_wp2_with fail
      refine (put_yes A ca ss _ hok (hA.below hb1)).mono ?_
      rintro e w2 ⟨rfl, hb2⟩
      go_wp2_with fail
      refine (get_yes ss _ hok'.2 hok'.1).mono ?_
      rintro e w3 ⟨A3, c3, rfl, hr3, hb3⟩
      go_wp2_with fail
      refine (eqStrs A A3 ca c3 ss ss _ hm true (by simp) (((hA.below hb1).below hb2).below hb3) hr3).mono ?_
      rintro e w4 ⟨rfl, m4, rfl⟩
      go_wp2_with fail
      refine (HG.out _).mono ?_
      rintro e w5 ⟨rfl, hb5⟩
      go_wp2_with fail
      refine (put_yes none 0 [] _ rfl (Row.nil_ _ _)).mono ?_
      rintro e w6 ⟨rfl, hb6⟩
      go_wp2_with fail
      refine (num_any n _ HN.out).mono ?_
      rintro e w7 ⟨rfl, hb7⟩
      go_wp2_with fail
      refine (readNum_be8 n _ HN.out).mono ?_
      rintro e w8 ⟨rfl, hb8⟩
      go_wp2
      go_ret
      exact ⟨rfl, below_chain (below_chain (below_chain (below_chain (below_drewN (below_chain (below_chain hb1 hb2) hb3) m4) hb5) hb6) hb7) hb8⟩
    | false =>
      go_enter Try.func5, Try.ntmps5
      go_wp2_with fail
      refine (wires_true _).mono ?_
      rintro e w1 ⟨rfl, hb1⟩
      go_wp2_with fail
      refine (put_no A ca ss _ hm hok (hA.below hb1)).mono ?_
      rintro e w2 ⟨rfl, rfl⟩
      go_wp2_with fail
      refine (HG.out _).mono ?_
      rintro e w5 ⟨rfl, hb5⟩
      go_wp2_with fail
      refine (put_yes none 0 [] _ rfl (Row.nil_ _ _)).mono ?_
      rintro e w6 ⟨rfl, hb6⟩
      go_wp2_with fail
      refine (num_any n _ HN.out).mono ?_
      rintro e w7 ⟨rfl, hb7⟩
      go_wp2_with fail
      refine (readNum_be8 n _ HN.out).mono ?_
      rintro e w8 ⟨rfl, hb8⟩
      go_wp2
      go_ret
      exact ⟨rfl, below_chain (below_chain (below_chain (below_chain hb1 hb5) hb6) hb7) hb8⟩

set_option maxRecDepth 100000 in
theorem back_lifted (os : Os) (started : os.Started) (H : Type) (enc : TypeId × Value → H) :
    ReturnsInHanded {} Try.checked os 5 .any (Rows.wireBackSpec.pre6 enc Try.prog Try.f5 Rows.wireBackRow.domain false) (Rows.wireBackSpec.post enc Try.prog Try.f5 false true false false) := by
  refine returnsInHanded_of_change (C := Try.checked) own started (by kernel_rfl) Try.func5
    (ChangeSpec.witness6 (enc := enc) (C := Try.checked) false ⟨#[], #[.slice none 0 0, .string ⟨#[]⟩, .int .u64 0], []⟩ 8 (by kernel_rfl) (by kernel_rfl) (by kernel_rfl) (by kernel_rfl)) ?_
  intro W base args ds gs before hval0 hW hcnd _
  have hval : ∀ (j : Nat) t v, Try.f5.params[j]? = some t → args[j]? = some v → Value.okWide Try.prog W .any base t v := hval0
  have hW' := hW
  obtain ⟨p, q, hA0, hV, rfl, hfz, hnd⟩ := hW
  have hA : DataW.TrodAll enc Try.prog W 0 (fun _ => true) true Try.f5.params.toList args.toList ds p := hA0
  rw [Try.params5] at hA hval
  obtain ⟨v0, v1, v2, d0, d1, d2, p0, p1, p2, rfl, rfl, rfl, h0, h1, h2⟩ := trodAll_three hA
  obtain ⟨rfl, rfl⟩ := trodVars_none hV
  obtain ⟨A, c, ss, rfl, hm, hr, _⟩ := arg_strs (hval 0 27 v0 rfl rfl) h0
  obtain ⟨l, rfl, _⟩ := arg_str (hval 1 9 v1 rfl rfl) h1
  obtain ⟨n, rfl, hn⟩ := arg_u64 (hval 2 28 v2 rfl rfl) h2
  refine (back_walk A c ss l n W hm hn hr).mono fun e W' ⟨he, hb⟩ => ?_
  subst he
  exact ⟨_, rfl, post_law laidOut (by decide +kernel) rfl Try.underlying4 (by kernel_rfl) hW' rfl hb⟩

/-- The statement. -/
theorem wireBack_said : Rows.WireBackSaid :=
  OpenClaim.holds_of_wide 5 Try.f5 rfl rfl rfl rfl rfl rfl rfl ⟨rfl, rfl, rfl, rfl, rfl⟩ rfl rfl rfl rfl rfl (by kernel_rfl) Try.func5 (by kernel_rfl)
    (of_decide_eq_true (by kernel_rfl)) (by unfold Func.isWrapper; first | (rw [if_pos (by decide +kernel)]; kernel_rfl) | (rw [if_neg (by decide +kernel)]; exact ⟨rfl, rfl⟩))
    (fun os started H enc _ => back_lifted os started H enc)
#print axioms wireBack_said
end Go.Proofs.Ytbfdbibknhoigaa
