/- The law WireJoins returns true: the encoding of a concatenation of lists is the concatenation of the encodings, and First returns the first string and what follows it; nothing that was there is written. No conditions. -/
import Derived.Test.YtbfdbibknhoigaaWireBack
import Derived.Test.YtbfdbibknhoigaaGood
import Derived.Test.YtbfdbibknhoigaaConcat
namespace Go.Proofs.Ytbfdbibknhoigaa
open Go.ChangeShapes Go.WideShapes Go.ChangeAt Go.RowKit

/-- What Put gives at a list. -/
def PutGives (ss : List Bytes) (t : Bytes) (e : Int) : Prop :=
  ∀ (A : Option Addr) (c n : Nat) (W : World), n = ss.length → Row W A (scells ss) → Calls Try.prog 8 #[.slice A n c] W fun e' w' => e' = .returned (.tuple #[.string (S t), .int .i64 e]) ∧ Below W.heap.size W w'
theorem putGives (ss : List Bytes) (hm : ss.length ≤ maxLen) : ∃ t e, PutGives ss t e := by
  cases hok : Wire.okB ss with
  | true => exact ⟨_, _, fun A c n W hn hr => by subst hn; exact put_yes A c ss W hok hr⟩
  | false => exact ⟨[], 2, fun A c n W hn hr => by subst hn; exact (put_no A c ss W hm hok hr).mono fun _ _ ⟨h, hw⟩ => ⟨h, hw ▸ Below.refl _ _⟩⟩
theorem putGives_no (ss : List Bytes) (hm : ss.length ≤ maxLen) (hok : Wire.okB ss = false) : PutGives ss [] 2 :=
  fun A c n W hn hr => by subst hn; exact (put_no A c ss W hm hok hr).mono fun _ _ ⟨h, hw⟩ => ⟨h, hw ▸ Below.refl _ _⟩
theorem putGives_yes (ss : List Bytes) (hok : Wire.okB ss = true) : PutGives ss (Wire.enc ss) 0 := fun A c n W hn hr => by subst hn; exact put_yes A c ss W hok hr

theorem two_new0 (w : World) (g : Nat) (hg : g = w.heap.size) (x y : Value) (t : TypeId) : (w.alloc (.cells #[x, y] t)).cell? ⟨g, 0, none⟩ = some x := by
  subst hg; rw [World.cell?_alloc_new]; rfl
theorem two_new1 (w : World) (g : Nat) (hg : g = w.heap.size) (x y : Value) (t : TypeId) : (w.alloc (.cells #[x, y] t)).cell? ⟨g, 1, none⟩ = some y := by
  subst hg; rw [World.cell?_alloc_new]; rfl
theorem below_new (w : World) (o : Obj) : Below w.heap.size w (w.alloc o) := (Below.refl _ _).alloc (Nat.le_refl _) o

set_option maxRecDepth 100000 in
set_option maxHeartbeats 1000000 in
theorem joins_no (A B : Option Addr) (ca cb : Nat) (ss tt : List Bytes) (w : World) (hs : ss.length * 16 ≤ 140737488351232) (ht : tt.length * 16 ≤ 140737488351232) (hA : Row w A (scells ss)) (hB : Row w B (scells tt))
    (hok : Wire.okB (ss ++ tt) = false) :
    Calls Try.prog 6 #[.slice A ss.length ca, .slice B tt.length cb] w fun e w' => e = .returned (.bool true) ∧ Below w.heap.size w w' := by
  obtain ⟨t1, e1, hP1⟩ := putGives ss (by unfold maxLen; omega)
  obtain ⟨t2, e2, hP2⟩ := putGives tt (by unfold maxLen; omega)
  have HP1 := Lib.hid hP1
  have HP2 := Lib.hid hP2
  have HP3 := Lib.hid (putGives_no (ss ++ tt) (by rw [List.length_append]; unfold maxLen; omega) hok)
  clear hP1 hP2 hok
  go_enter Try.func6, Try.ntmps6
  go_wp2_with fail
  refine (wires_true _).mono ?_
  rintro e w1 ⟨rfl, hb1⟩
  go_wp2_with fail
  refine (HP1.out A ca _ _ rfl (hA.below hb1)).mono ?_
  rintro e w2 ⟨rfl, hb2⟩
  have hb2 := below_chain hb1 hb2
  go_wp2_with fail
  refine (HP2.out B cb _ _ rfl (hB.below hb2)).mono ?_
  rintro e w3 ⟨rfl, hb3⟩
  have hb3 := below_chain hb2 hb3
  go_wp2_with fail
  have hb4 := below_chain hb3 (below_new w3 (.cells #[.slice A ss.length ca, .slice B tt.length cb] 27))
  refine (concat2 w3.heap.size A B ca cb ss tt _ (by omega) (two_new0 _ _ rfl _ _ _) (two_new1 _ _ rfl _ _ _) (hA.below hb4) (hB.below hb4)).mono ?_
  rintro e w5 ⟨A5, c5, rfl, hown5, hb5⟩
  have hb5 := below_chain hb4 hb5
  go_wp2_with fail
  refine (HP3.out A5 c5 _ _ (by simp) (Row.own hown5)).mono ?_
  rintro e w6 ⟨rfl, hb6⟩
  have hb6 := below_chain hb5 hb6
  go_wp2_with fail
  refine (good_any _ _ [e1, e2, 2] _ (by simp) false (by simp [allOk]) (Row.new _ _ _ _ _ rfl rfl)).mono ?_
  rintro e w7 ⟨rfl, rfl⟩
  go_wp2
  go_ret
  exact ⟨rfl, below_chain hb6 (below_new _ _)⟩

set_option maxRecDepth 100000 in
set_option maxHeartbeats 1000000 in
theorem joins_yes (A B : Option Addr) (ca cb : Nat) (ss tt : List Bytes) (w : World) (hA : Row w A (scells ss)) (hB : Row w B (scells tt))
    (hok : Wire.okB (ss ++ tt) = true) :
    Calls Try.prog 6 #[.slice A ss.length ca, .slice B tt.length cb] w fun e w' => e = .returned (.bool true) ∧ Below w.heap.size w w' := by
  have hall := of_okB hok
  rw [List.length_append, Wire.enc_append, List.length_append] at hall
  have HP1 := Lib.hid (putGives_yes ss (okB_of ss (by omega) (by omega)))
  have HP2 := Lib.hid (putGives_yes tt (okB_of tt (by omega) (by omega)))
  have HP3 := Lib.hid (putGives_yes (ss ++ tt) hok)
  have h1 : ss.length ≤ 60 := by omega
  have h2 : tt.length ≤ 60 := by omega
  have HE := Lib.hid (Wire.enc_append ss tt)
  have hl9 : (Wire.enc (ss ++ tt)).length ≤ 600 := by rw [Wire.enc_append, List.length_append]; omega
  have hsum : (Wire.enc ss).length + (Wire.enc tt).length ≤ 600 := by omega
  clear hall
  go_enter Try.func6, Try.ntmps6
  go_wp2_with fail
  refine (wires_true _).mono ?_
  rintro e w1 ⟨rfl, hb1⟩
  go_wp2_with fail
  refine (HP1.out A ca _ _ rfl (hA.below hb1)).mono ?_
  rintro e w2 ⟨rfl, hb2⟩
  have hb2 := below_chain hb1 hb2
  go_wp2_with fail
  refine (HP2.out B cb _ _ rfl (hB.below hb2)).mono ?_
  rintro e w3 ⟨rfl, hb3⟩
  have hb3 := below_chain hb2 hb3
  go_wp2_with fail
  have hb4 := below_chain hb3 (below_new w3 (.cells #[.slice A ss.length ca, .slice B tt.length cb] 27))
  refine (concat2 w3.heap.size A B ca cb ss tt _ (by omega) (two_new0 _ _ rfl _ _ _) (two_new1 _ _ rfl _ _ _) (hA.below hb4) (hB.below hb4)).mono ?_
  rintro e w5 ⟨A5, c5, rfl, hown5, hb5⟩
  have hb5 := below_chain hb4 hb5
  go_wp2_with fail
  refine (HP3.out A5 c5 _ _ (by simp) (Row.own hown5)).mono ?_
  rintro e w6 ⟨rfl, hb6⟩
  have hb6 := below_chain hb5 hb6
  go_wp2_with fail
  refine (good_any _ _ [0, 0, 0] _ (by simp) true (by simp [allOk]) (Row.new _ _ _ _ _ rfl rfl)).mono ?_
  rintro e w7 ⟨rfl, rfl⟩
  have hb7 := below_chain hb6 (below_new w6 (.cells #[.int .i64 0, .int .i64 0, .int .i64 0] 22))
  have he2 := HE.out
  have hcs : ss ++ tt = [] ∨ ∃ x xs, ss ++ tt = x :: xs := by
    cases ss ++ tt with
    | nil => exact .inl rfl
    | cons x xs => exact .inr ⟨x, xs, rfl⟩
  rcases hcs with hcase | ⟨x, xs, hcase⟩
  · obtain ⟨rfl, rfl⟩ : ss = [] ∧ tt = [] := by simpa using hcase
    clear hcase he2 HE hok
    have e0 : Wire.enc [] = [] := rfl
    simp only [List.append_nil, e0]
    clear e0
    go_wp2_with fail
    refine (first_no [] _ (by simp) rfl).mono ?_
    rintro e w8 ⟨rfl, m8, rfl⟩
    go_wp2
    go_ret
    exact ⟨rfl, below_drewN hb7 _⟩
  · have hn : ss.length + tt.length = xs.length + 1 := by rw [← List.length_append, hcase]; rfl
    have hne0 : ((ss.length : Int) + (tt.length : Int) == 0) = false := by simp; omega
    have hn1 : xs.length + 1 ≤ ss.length + tt.length := by omega
    have hn2 : ss.length + tt.length ≤ xs.length + 1 := by omega
    have HX := Lib.hid (show Wire.enc ss ++ Wire.enc tt = Wire.enc1 x ++ Wire.enc xs by rw [← Wire.enc_append, hcase, Wire.enc_cons])
    have HC := Lib.hid hcase
    have hxs : Wire.okB xs = true := by
      rw [hcase] at hok
      have := of_okB hok
      rw [Wire.enc_cons, List.length_append, List.length_cons] at this
      exact okB_of xs (by omega) (by omega)
    have HP4 := Lib.hid (putGives_yes xs hxs)
    have hl8 : (Wire.enc1 x ++ Wire.enc xs).length ≤ 600 := by rw [← Wire.enc_cons, ← hcase]; exact hl9
    clear hn hcase hxs hok
    go_wp2_with fail
    rw [HX.out]
    refine (first_enc x (Wire.enc xs) _ hl8).mono ?_
    rintro e w8 ⟨rfl, m8, rfl⟩
    go_wp2_with fail
    have hb9 := below_chain (below_drewN hb7 m8) (below_new ((w6.alloc (.cells (ecells [0, 0, 0]).toArray 22)).drewN m8) (.cells #[.slice A ss.length ca, .slice B tt.length cb] 27))
    refine (concat2 (w6.heap.size + 1) A B ca cb ss tt _ (by omega) (two_new0 _ _ (by simp) _ _ _) (two_new1 _ _ (by simp) _ _ _) (hA.below hb9) (hB.below hb9)).mono ?_
    rintro e w10 ⟨A10, c10, rfl, hown10, hb10⟩
    have hb10 := below_chain hb9 hb10
    rw [HC.out] at hown10
    obtain ⟨g, hg, hcap⟩ : ∃ g, A10 = some ⟨g, 0, none⟩ ∧ (x :: xs).length ≤ c10 := by
      rcases hown10.2 with ⟨e, e0⟩ | ⟨g, cap, cur, e, _, _, hnc, _⟩
      · simp at e0
      · injection e with e1 e2 e3
        subst e3
        exact ⟨g, e1, hnc⟩
    subst hg
    have hcell := hown10.cells (g := g) rfl
    have hc0 : w10.cell? ⟨g, 0, none⟩ = some (.string (S x)) := by
      have := hcell 0 (.string (S x)) rfl
      rwa [Go.WideShapes.add_plain] at this
    have hlc : (1 : Int) ≤ (c10 : Int) := by simp at hcap; omega
    have hlc2 : ss.length + tt.length ≤ c10 := by simp at hcap; omega
    have hln : 1 ≤ ss.length + tt.length := by omega
    by_cases hc1 : c10 = 1
    · have hxs : xs = [] := List.eq_nil_of_length_eq_zero (by omega)
      have hrow : Row w10 (some ⟨g, 0, none⟩) (scells xs) := by rw [hxs]; exact Row.nil_ _ _
      clear hcell hcap hxs
      subst hc1
      go_wp2_with fail
      refine (HP4.out _ _ _ _ (by omega) hrow).mono ?_
      rintro e w11 ⟨rfl, hb11⟩
      have hc9 := (hb11.cell (World.block_lt_of_cell? _ _ hc0)).trans hc0
      have hb11 := below_chain hb10 hb11
      go_wp2_with fail
      refine (good_any _ _ [0, 0] _ (by simp) true (by simp [allOk]) (Row.new _ _ _ _ _ rfl rfl)).mono ?_
      rintro e w12 ⟨rfl, rfl⟩
      have hc10 := (World.cell?_alloc_lt w11 (.cells (ecells [0, 0]).toArray 22) ⟨g, 0, none⟩ (World.block_lt_of_cell? _ _ hc9)).trans hc9
      go_wp2
      go_ret
      exact ⟨rfl, below_chain hb11 (below_new _ _)⟩
    · have hrow : Row w10 (some ⟨g, 1, none⟩) (scells xs) := fun _ => by
        refine ⟨g, 1, rfl, fun k hk => ?_⟩
        have := hcell (k + 1) (scells xs)[k] (by rw [show scells (x :: xs) = .string (S x) :: scells xs from rfl]; simp [hk])
        rw [Go.WideShapes.add_plain] at this
        rwa [show 0 + (k + 1) = 1 + k by omega] at this
      clear hcell hcap
      go_wp2_with fail
      refine (HP4.out _ _ _ _ (by omega) hrow).mono ?_
      rintro e w11 ⟨rfl, hb11⟩
      have hc9 := (hb11.cell (World.block_lt_of_cell? _ _ hc0)).trans hc0
      have hb11 := below_chain hb10 hb11
      go_wp2_with fail
      refine (good_any _ _ [0, 0] _ (by simp) true (by simp [allOk]) (Row.new _ _ _ _ _ rfl rfl)).mono ?_
      rintro e w12 ⟨rfl, rfl⟩
      have hc10 := (World.cell?_alloc_lt w11 (.cells (ecells [0, 0]).toArray 22) ⟨g, 0, none⟩ (World.block_lt_of_cell? _ _ hc9)).trans hc9
      go_wp2
      go_ret
      exact ⟨rfl, below_chain hb11 (below_new _ _)⟩

theorem joins_walk (A B : Option Addr) (ca cb : Nat) (ss tt : List Bytes) (w : World) (hs : ss.length * 16 ≤ 140737488351232) (ht : tt.length * 16 ≤ 140737488351232) (hA : Row w A (scells ss)) (hB : Row w B (scells tt)) :
    Calls Try.prog 6 #[.slice A ss.length ca, .slice B tt.length cb] w fun e w' => e = .returned (.bool true) ∧ Below w.heap.size w w' := by
  cases hok : Wire.okB (ss ++ tt) with
  | true => exact joins_yes A B ca cb ss tt w hA hB hok
  | false => exact joins_no A B ca cb ss tt w hs ht hA hB hok

set_option maxRecDepth 100000 in
theorem wireJoins_lifted (os : Os) (started : os.Started) (H : Type) (enc : TypeId × Value → H) :
    ReturnsInHanded {} Try.checked os 6 .any (Rows.wireJoinsSpec.pre6 enc Try.prog Try.f6 Rows.wireJoinsRow.domain false) (Rows.wireJoinsSpec.post enc Try.prog Try.f6 false true false false) := by
  refine returnsInHanded_of_change_sized (C := Try.checked) own started (by kernel_rfl) Try.func6
    (ChangeSpec.witness6 (enc := enc) (C := Try.checked) false ⟨#[], #[.slice none 0 0, .slice none 0 0], []⟩ 8 (by kernel_rfl) (by kernel_rfl) (by kernel_rfl) (by kernel_rfl)) ?_
  intro W base args ds gs before hval0 hW hcnd hsz _
  have hval : ∀ (j : Nat) t v, Try.f6.params[j]? = some t → args[j]? = some v → Value.okWide Try.prog W .any base t v := hval0
  have hW' := hW
  obtain ⟨p, q, hA0, hV, rfl, hfz, hnd⟩ := hW
  have hA : DataW.TrodAll enc Try.prog W 0 (fun _ => true) true Try.f6.params.toList args.toList ds p := hA0
  rw [Try.params6] at hA hval
  obtain ⟨v0, vs0, d0, ds0, p0, q0, hargs, rfl, rfl, h0, r0⟩ := trodAll_cons hA
  obtain ⟨v1, vs1, d1, ds1, p1, q1, rfl, rfl, rfl, h1, r1⟩ := trodAll_cons r0
  obtain ⟨rfl, rfl, rfl⟩ := trodAll_nil r1
  obtain rfl : args = #[v0, v1] := by cases args; simp_all
  obtain ⟨rfl, rfl⟩ := trodVars_none hV
  rw [Try.params6] at hsz
  obtain ⟨A0, c0, s0, rfl, hm0, hr0, hs0⟩ := arg_strs_sized (j := 0) hsz rfl rfl (hval 0 27 v0 rfl rfl) h0
  obtain ⟨A1, c1, s1, rfl, hm1, hr1, hs1⟩ := arg_strs_sized (j := 1) hsz rfl rfl (hval 1 27 v1 rfl rfl) h1
  refine (joins_walk A0 A1 c0 c1 s0 s1 W hm0 hm1 hr0 hr1).mono fun e W' ⟨he, hb⟩ => ?_
  subst he
  exact ⟨_, rfl, post_law laidOut (by decide +kernel) rfl Try.underlying4 (by kernel_rfl) hW' rfl hb⟩

/-- The statement. -/
theorem wireJoins_said : Rows.WireJoinsSaid :=
  OpenClaim.holds_of_wide 6 Try.f6 rfl rfl rfl rfl rfl rfl rfl ⟨rfl, rfl, rfl, rfl, rfl⟩ rfl rfl rfl rfl rfl (by kernel_rfl) Try.func6 (by kernel_rfl)
    (of_decide_eq_true (by kernel_rfl)) (by unfold Func.isWrapper; first | (rw [if_pos (by decide +kernel)]; kernel_rfl) | (rw [if_neg (by decide +kernel)]; exact ⟨rfl, rfl⟩))
    (fun os started H enc _ => wireJoins_lifted os started H enc)
#print axioms wireJoins_said
end Go.Proofs.Ytbfdbibknhoigaa
