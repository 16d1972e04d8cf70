/- The law ChainBinds returns true. -/
import Derived.Test.YthkhafgcpmoalaaChainsLive
import Derived.Test.YthkhafgcpmoalaaChainClash
import Derived.Test.YthkhafgcpmoalaaHeadPlain
import Derived.Test.YthkhafgcpmoalaaAlike
import Derived.Test.YthkhafgcpmoalaaHeadsArg
import Derived.Test.YthkhafgcpmoalaaLaw
import Derived.Deep.DeepCutAuto
namespace Go.Proofs.Ythkhafgcpmoalaa
set_option maxRecDepth 100000
open Go.RowKit Go.ChangeShapes Go.WideShapes Go.ChangeAt

theorem hsaid_one {h g : Hd} (hh : HGood h) (hg : HGood g) (e : hsaid h = hsaid g) : h = g := by
  rw [← (hright_said hh).2, e, (hright_said hg).2]
theorem forkAt_neg : ∀ (S T : List Hd), S.length = T.length → (∀ h ∈ S, HGood h) → (S = T ∧ forkAt S T = -1) ∨ (S ≠ T ∧ 0 ≤ forkAt S T)
  | [], [], _, _ => .inl ⟨rfl, rfl⟩
  | [], _ :: _, h, _ => by cases h
  | _ :: _, [], h, _ => by cases h
  | x :: s, y :: t, h, hg => by
    rw [forkAt]
    by_cases e : x = y
    · subst e
      rw [if_pos rfl]
      rcases forkAt_neg s t (by simpa using h) (fun z hz => hg z (List.mem_cons_of_mem _ hz)) with ⟨rfl, k⟩ | ⟨k1, k2⟩
      · exact .inl ⟨rfl, k⟩
      · exact .inr ⟨fun e => k1 (List.cons.inj e).2, k2⟩
    · rw [if_neg e]
      exact .inr ⟨fun k => e (List.cons.inj k).1, (hg x List.mem_cons_self).e0⟩
/-- The last common heads of two chains with one end are that end. -/
theorem common_last {a b : List Hd} (k : ComOk a b) (h : lastH a = lastH b) : lastH (comA a b) = lastH (comB a b) := by
  obtain ⟨ka, kb⟩ := k.parts
  obtain ⟨hn0, _, h1, h2⟩ := k.len
  obtain ⟨a1, a2, a3, a4⟩ := ka.spot
  obtain ⟨b1, b2, b3, b4⟩ := kb.spot
  have ea := k.g.lastE
  have eb := k.h.lastE
  have hto : comTo a b = (lastH a).1 := by
    unfold comTo
    rw [← h]
    split <;> rfl
  have pa := k.g.pos
  have pb := k.h.pos
  have e1 : lastH (comA a b) = lastH a := by
    rw [lastH_eq (l := comA a b) (by omega), lastH_eq (l := a) (by omega)]
    have : ∀ i (h : i < (comA a b).length), (comA a b)[i] = a[partAt a (comFrom a b) + i]'(by rw [h1] at h; unfold comLen at h; omega) := fun i h => by simp only [comA, cut, List.getElem_take, List.getElem_drop]
    rw [this _ (by omega)]
    congr 1
    unfold comLen at h1
    omega
  have e2 : lastH (comB a b) = lastH b := by
    rw [lastH_eq (l := comB a b) (by omega), lastH_eq (l := b) (by omega)]
    have : ∀ i (h : i < (comB a b).length), (comB a b)[i] = b[partAt b (comFrom a b) + i]'(by rw [h2] at h; unfold comLen at h; omega) := fun i h => by simp only [comB, cut, List.getElem_take, List.getElem_drop]
    rw [this _ (by omega)]
    congr 1
    unfold comLen at h2
    rw [h] at hto
    omega
  rw [e1, e2, h]
/-- The last heads that differ have one mark. -/
theorem clash_marks {S T : List Hd} (gS : CGood S) (gT : CGood T) (hl : S.length = T.length) (hm : hmark (lastH S) = hmark (lastH T)) (k : Nat) (h1 : k < S.length) (h2 : k < T.length) (h : ∀ (j : Nat) (i1 : j < S.length) (i2 : j < T.length), k < j → S[j] = T[j]) : hmark S[k] = hmark T[k] := by
  by_cases e : k + 1 < S.length
  · have l1 := ((links_iff _ _).1 (gS.link k e)).2.2.2.1
    have l2 := ((links_iff _ _).1 (gT.link k (by omega))).2.2.2.1
    rw [← l1, ← l2, h (k + 1) e (by omega) (by omega)]
  · have e2 : k = S.length - 1 := by omega
    rw [lastH_eq (by omega), lastH_eq (by omega)] at hm
    simp only [e2]
    rw [hm]
    congr 2
    omega

theorem chainBinds_a (A B : Option Addr) (c d : Nat) (a b : List Hd) (w : World) (hma : a.length ≤ maxLen) (hmb : b.length ≤ maxLen) (hA : Row w A (hcells a)) (hB : Row w B (hcells b)) (r : Int) (hr : comErr a b = r) (h0 : r ≠ 0) :
    Calls Try.prog 7 #[.slice A a.length c, .slice B b.length d] w fun e w' => e = .returned (.bool true) ∧ Below w.heap.size w w' := by
  have hL := fun w => Lib.hid (chains w)
  have hF := fun (w : World) hA hB => Lib.hid (chainFork_no A B c d a b w hma hmb hA hB r hr h0)
  have c1 : (r == 0) = false := beq_eq_false_iff_ne.2 h0
  clear hr h0
  go_enter Try.func7, Try.ntmps7
  go_wp2_with fail
  refine (hL _).out.mono ?_
  rintro e w1 ⟨rfl, hb1⟩
  have hA1 := hA.below hb1
  have hB1 := hB.below hb1
  clear hL hA hB
  go_wp2_with fail
  refine (hF _ hA1 hB1).out.mono ?_
  rintro e w2 ⟨rfl, hb2⟩
  have hb := below_chain hb1 hb2
  clear hF hA1 hB1 hb1 hb2
  go_wp2
  go_ret
  exact ⟨rfl, hb⟩

set_option maxHeartbeats 4000000 in
theorem chainBinds_m (A B : Option Addr) (c d : Nat) (a b : List Hd) (w : World) (hca : a.length ≤ c) (hcm : c ≤ maxLen) (hdb : b.length ≤ d) (hdm : d ≤ maxLen) (hA : Row w A (hcells a)) (hB : Row w B (hcells b)) (k : ComOk a b) (hm : decide (hmark (lastH (comA a b)) = hmark (lastH (comB a b))) = false) :
    Calls Try.prog 7 #[.slice A a.length c, .slice B b.length d] w fun e w' => e = .returned (.bool true) ∧ Below w.heap.size w w' := by
  have hL := fun w => Lib.hid (chains w)
  obtain ⟨gS, gT⟩ := k.good
  obtain ⟨hn0, hn40, hs, ht⟩ := k.len
  obtain ⟨n, hn⟩ : ∃ n, forkAt (comA a b) (comB a b) = n := ⟨_, rfl⟩
  have hF := fun (w : World) hA hB => Lib.hid (chainFork_ok A B c d a b w hca hcm hdb hdm hA hB k n hn)
  have hC := fun (w : World) hA hB => Lib.hid (chainClash_mark A B c d a b w hca hcm hdb hdm hA hB k hm)
  have hn1 : 0 ≤ n := by
    rw [← hn]
    rcases forkAt_neg _ _ (hs.trans ht.symm) gS.good with ⟨e, _⟩ | ⟨_, e⟩
    · rw [e, decide_eq_true rfl] at hm; cases hm
    · exact e
  have hne : lastH a ≠ lastH b := fun e => by
    rw [common_last k e, decide_eq_true rfl] at hm
    cases hm
  obtain ⟨⟨x0, x1, x2, x3⟩, hx⟩ : ∃ x, lastH a = x := ⟨_, rfl⟩
  obtain ⟨⟨y0, y1, y2, y3⟩, hy⟩ : ∃ x, lastH b = x := ⟨_, rfl⟩
  have pa := k.g.pos
  have pb := k.h.pos
  have la := k.g.len
  have lb := k.h.len
  obtain ⟨na, hea⟩ : ∃ n, a.length = n + 1 := ⟨a.length - 1, by omega⟩
  obtain ⟨nb, heb⟩ : ∃ n, b.length = n + 1 := ⟨b.length - 1, by omega⟩
  have hla : ∀ h : na < a.length, a[na] = (x0, x1, x2, x3) := fun h => by rw [← hx, lastH_at hea]
  have hlb : ∀ h : nb < b.length, b[nb] = (y0, y1, y2, y3) := fun h => by rw [← hy, lastH_at heb]
  have hna : na < a.length := by omega
  have hnb : nb < b.length := by omega
  have i1 : IntKind.i64.wrap ((na : Int) + 1 - 1) = (na : Int) := by rw [IntKind.wrap_i64]; omega
  have i2 : IntKind.i64.wrap (na : Int) = (na : Int) := by rw [IntKind.wrap_i64]; omega
  have i3 : IntKind.i64.wrap ((nb : Int) + 1 - 1) = (nb : Int) := by rw [IntKind.wrap_i64]; omega
  have i4 : IntKind.i64.wrap (nb : Int) = (nb : Int) := by rw [IntKind.wrap_i64]; omega
  have i5 : (0 : Int) ≤ (na : Int) := by omega
  have i6 : (0 : Int) ≤ (nb : Int) := by omega
  have i7 : (na : Int) < (na : Int) + 1 := by omega
  have i8 : (nb : Int) < (nb : Int) + 1 := by omega
  have i9 : na + 1 ≤ 2 ^ 63 - 1 := by omega
  have i10 : nb + 1 ≤ 2 ^ 63 - 1 := by omega
  have HN : Hid (¬ (x0 = y0 ∧ x1 = y1 ∧ x2 = y2 ∧ x3 = y3)) := by
    show ¬ _
    rintro ⟨rfl, rfl, rfl, rfl⟩
    exact hne (hx.trans hy.symm)
  have c1 : decide ((0 : Int) ≤ n) = true := decide_eq_true hn1
  have c2 : decide (n < 0) = false := decide_eq_false (by omega)
  rw [hea, heb] at hF hC ⊢
  clear k gS gT hn0 hn40 hs ht hca hcm hdb hdm hx hy pa pb la lb hea heb hn hn1 hm hne
  go_enter Try.func7, Try.ntmps7
  go_wp2_with fail
  refine (hL _).out.mono ?_
  rintro e w1 ⟨rfl, hb1⟩
  have hA1 := hA.below hb1
  have hB1 := hB.below hb1
  clear hL hA hB
  go_wp2_with fail
  refine (hF _ hA1 hB1).out.mono ?_
  rintro e w2 ⟨rfl, hb2⟩
  have hb := below_chain hb1 hb2
  have hA2 := hA1.below hb2
  have hB2 := hB1.below hb2
  clear hF hA1 hB1 hb1 hb2
  go_wp2_with fail
  refine (hC _ hA2 hB2).out.mono ?_
  rintro e w3 ⟨rfl, hb3⟩
  have hA3 := hA2.below hb3
  have hB3 := hB2.below hb3
  have hb' := below_chain hb hb3
  clear hC hA2 hB2 hb hb3
  obtain ⟨gA, oA, rfl, j0, j1, j2, j3⟩ := hA3.head na hna
  obtain ⟨gB, oB, rfl, m0, m1, m2, m3⟩ := hB3.head nb hnb
  rw [hla hna] at j0 j1 j2 j3
  rw [hlb hnb] at m0 m1 m2 m3
  dsimp only at j0 j1 j2 j3 m0 m1 m2 m3
  clear hla hlb
  have hbx := balloc (balloc hb' (.cells #[.int .i64 x0, .int .u64 (x1 : Int), .int .u64 (x2 : Int), .int .i64 x3] 25)) (.cells #[.int .i64 y0, .int .u64 (y1 : Int), .int .u64 (y2 : Int), .int .i64 y3] 25)
  have hby := balloc (balloc hb' (.cells #[.int .i64 y0, .int .u64 (y1 : Int), .int .u64 (y2 : Int), .int .i64 y3] 25)) (.cells #[.int .i64 x0, .int .u64 (x1 : Int), .int .u64 (x2 : Int), .int .i64 x3] 25)
  have j10 := fun (o : Obj) => kept j0 (balloc (Below.refl w3.heap.size w3) o)
  have j20 := fun (o o' : Obj) => kept j0 (balloc (balloc (Below.refl w3.heap.size w3) o) o')
  have j11 := fun (o : Obj) => kept j1 (balloc (Below.refl w3.heap.size w3) o)
  have j21 := fun (o o' : Obj) => kept j1 (balloc (balloc (Below.refl w3.heap.size w3) o) o')
  have j12 := fun (o : Obj) => kept j2 (balloc (Below.refl w3.heap.size w3) o)
  have j22 := fun (o o' : Obj) => kept j2 (balloc (balloc (Below.refl w3.heap.size w3) o) o')
  have j13 := fun (o : Obj) => kept j3 (balloc (Below.refl w3.heap.size w3) o)
  have j23 := fun (o o' : Obj) => kept j3 (balloc (balloc (Below.refl w3.heap.size w3) o) o')
  have m10 := fun (o : Obj) => kept m0 (balloc (Below.refl w3.heap.size w3) o)
  have m20 := fun (o o' : Obj) => kept m0 (balloc (balloc (Below.refl w3.heap.size w3) o) o')
  have m11 := fun (o : Obj) => kept m1 (balloc (Below.refl w3.heap.size w3) o)
  have m21 := fun (o o' : Obj) => kept m1 (balloc (balloc (Below.refl w3.heap.size w3) o) o')
  have m12 := fun (o : Obj) => kept m2 (balloc (Below.refl w3.heap.size w3) o)
  have m22 := fun (o o' : Obj) => kept m2 (balloc (balloc (Below.refl w3.heap.size w3) o) o')
  have m13 := fun (o : Obj) => kept m3 (balloc (Below.refl w3.heap.size w3) o)
  have m23 := fun (o o' : Obj) => kept m3 (balloc (balloc (Below.refl w3.heap.size w3) o) o')
  clear hA3 hB3
  go_wp2_with fail
  go_region
  all_goals
    clear j0 j1 j2 j3 m0 m1 m2 m3 j10 j11 j12 j13 j20 j21 j22 j23 m10 m11 m12 m13 m20 m21 m22 m23
    have FIN := fun (q1 : (x0 == y0) = true) (q2 : ((x1 : Int) == (y1 : Int)) = true) (q3 : ((x2 : Int) == (y2 : Int)) = true) (q4 : (x3 == y3) = true) => HN.out ⟨beq_iff_eq.1 q1, Int.ofNat_inj.1 (beq_iff_eq.1 q2), Int.ofNat_inj.1 (beq_iff_eq.1 q3), beq_iff_eq.1 q4⟩
    clear HN
    go_upto_region 10 with fail
    cases q1 : x0 == y0 with
    | false =>
      clear FIN
      go_wp2
      go_ret
      first | exact ⟨rfl, hbx⟩ | exact ⟨rfl, hby⟩ | exact ⟨rfl, bdrew hbx⟩ | exact ⟨rfl, bdrew hby⟩
    | true =>
    cases q2 : (x1 : Int) == (y1 : Int) with
    | false =>
      clear FIN
      go_wp2
      go_ret
      first | exact ⟨rfl, hbx⟩ | exact ⟨rfl, hby⟩ | exact ⟨rfl, bdrew hbx⟩ | exact ⟨rfl, bdrew hby⟩
    | true =>
    cases q3 : (x2 : Int) == (y2 : Int) with
    | false =>
      clear FIN
      go_wp2
      go_ret
      first | exact ⟨rfl, hbx⟩ | exact ⟨rfl, hby⟩ | exact ⟨rfl, bdrew hbx⟩ | exact ⟨rfl, bdrew hby⟩
    | true =>
    cases q4 : x3 == y3 with
    | false =>
      clear FIN
      go_wp2
      go_ret
      first | exact ⟨rfl, hbx⟩ | exact ⟨rfl, hby⟩ | exact ⟨rfl, bdrew hbx⟩ | exact ⟨rfl, bdrew hby⟩
    | true =>
    exact (FIN q1 q2 q3 q4).elim

set_option maxHeartbeats 8000000 in
theorem chainBinds_y (A B : Option Addr) (c d : Nat) (a b : List Hd) (w : World) (hca : a.length ≤ c) (hcm : c ≤ maxLen) (hdb : b.length ≤ d) (hdm : d ≤ maxLen) (hA : Row w A (hcells a)) (hB : Row w B (hcells b)) (k : ComOk a b) (hm : decide (hmark (lastH (comA a b)) = hmark (lastH (comB a b))) = true) :
    Calls Try.prog 7 #[.slice A a.length c, .slice B b.length d] w fun e w' => e = .returned (.bool true) ∧ Below w.heap.size w w' := by
  have hL := fun w => Lib.hid (chains w)
  obtain ⟨gS, gT⟩ := k.good
  obtain ⟨hn0, hn40, hs, ht⟩ := k.len
  obtain ⟨n, hn⟩ : ∃ n, forkAt (comA a b) (comB a b) = n := ⟨_, rfl⟩
  have hF := fun (w : World) hA hB => Lib.hid (chainFork_ok A B c d a b w hca hcm hdb hdm hA hB k n hn)
  have hC := fun (w : World) hA hB => Lib.hid (chainClash_yes A B c d a b w hca hcm hdb hdm hA hB k hm)
  have HT : Hid (comA a b = comB a b → n = -1) := by
    show _ → _
    intro e
    rcases forkAt_neg _ _ (hs.trans ht.symm) gS.good with ⟨_, q⟩ | ⟨q, _⟩
    · rw [← hn, q]
    · exact absurd e q
  have HK : Hid (∀ (j : Nat) (h1 : j < (comA a b).length) (h2 : j < (comB a b).length), (comA a b)[j] ≠ (comB a b)[j] → (∀ (i : Nat) (i1 : i < (comA a b).length) (i2 : i < (comB a b).length), j < i → (comA a b)[i] = (comB a b)[i]) → 0 ≤ n ∧ alikeB (hsaid (comA a b)[j]) (hsaid (comB a b)[j]) = true) := by
    show ∀ _, _
    intro j h1 h2 hne heq
    refine ⟨?_, (alikeB_iff _ _).2 ⟨fun e => hne (hsaid_one (gS.good _ (List.getElem_mem h1)) (gT.good _ (List.getElem_mem h2)) e), clash_marks gS gT (hs.trans ht.symm) (of_decide_eq_true hm) j h1 h2 heq⟩⟩
    rcases forkAt_neg _ _ (hs.trans ht.symm) gS.good with ⟨e, _⟩ | ⟨_, e⟩
    · exfalso
      have : (comA a b)[j]? = (comB a b)[j]? := by rw [e]
      rw [List.getElem?_eq_getElem h1, List.getElem?_eq_getElem h2] at this
      exact hne (Option.some.inj this)
    · rw [← hn]; exact e
  obtain ⟨⟨x0, x1, x2, x3⟩, hx⟩ : ∃ x, lastH a = x := ⟨_, rfl⟩
  obtain ⟨⟨y0, y1, y2, y3⟩, hy⟩ : ∃ x, lastH b = x := ⟨_, rfl⟩
  have pa := k.g.pos
  have pb := k.h.pos
  have la := k.g.len
  have lb := k.h.len
  obtain ⟨na, hea⟩ : ∃ n, a.length = n + 1 := ⟨a.length - 1, by omega⟩
  obtain ⟨nb, heb⟩ : ∃ n, b.length = n + 1 := ⟨b.length - 1, by omega⟩
  have hla : ∀ h : na < a.length, a[na] = (x0, x1, x2, x3) := fun h => by rw [← hx, lastH_at hea]
  have hlb : ∀ h : nb < b.length, b[nb] = (y0, y1, y2, y3) := fun h => by rw [← hy, lastH_at heb]
  have hna : na < a.length := by omega
  have hnb : nb < b.length := by omega
  have i1 : IntKind.i64.wrap ((na : Int) + 1 - 1) = (na : Int) := by rw [IntKind.wrap_i64]; omega
  have i2 : IntKind.i64.wrap (na : Int) = (na : Int) := by rw [IntKind.wrap_i64]; omega
  have i3 : IntKind.i64.wrap ((nb : Int) + 1 - 1) = (nb : Int) := by rw [IntKind.wrap_i64]; omega
  have i4 : IntKind.i64.wrap (nb : Int) = (nb : Int) := by rw [IntKind.wrap_i64]; omega
  have i5 : (0 : Int) ≤ (na : Int) := by omega
  have i6 : (0 : Int) ≤ (nb : Int) := by omega
  have i7 : (na : Int) < (na : Int) + 1 := by omega
  have i8 : (nb : Int) < (nb : Int) + 1 := by omega
  have i9 : na + 1 ≤ 2 ^ 63 - 1 := by omega
  have i10 : nb + 1 ≤ 2 ^ 63 - 1 := by omega
  rw [hea, heb] at hF hC ⊢
  clear k gS gT hn0 hn40 hs ht hca hcm hdb hdm hx hy pa pb la lb hea heb hn hm
  generalize comA a b = S at *
  generalize comB a b = T at *
  go_enter Try.func7, Try.ntmps7
  go_wp2_with fail
  refine (hL _).out.mono ?_
  rintro e w1 ⟨rfl, hb1⟩
  have hA1 := hA.below hb1
  have hB1 := hB.below hb1
  clear hL hA hB
  go_wp2_with fail
  refine (hF _ hA1 hB1).out.mono ?_
  rintro e w2 ⟨rfl, hb2⟩
  have hb := below_chain hb1 hb2
  have hA2 := hA1.below hb2
  have hB2 := hB1.below hb2
  clear hF hA1 hB1 hb1 hb2
  go_wp2_with fail
  refine (hC _ hA2 hB2).out.mono ?_
  rintro e w3 ⟨⟨hST, rfl⟩ | ⟨jk, h1, h2, hne, heq, rfl⟩, hb3⟩
  · obtain rfl := HT.out hST
    clear HT HK hST
    have hA3 := hA2.below hb3
    have hB3 := hB2.below hb3
    have hb' := below_chain hb hb3
    clear hC hA2 hB2 hb hb3
    obtain ⟨gA, oA, rfl, j0, j1, j2, j3⟩ := hA3.head na hna
    obtain ⟨gB, oB, rfl, m0, m1, m2, m3⟩ := hB3.head nb hnb
    rw [hla hna] at j0 j1 j2 j3
    rw [hlb hnb] at m0 m1 m2 m3
    dsimp only at j0 j1 j2 j3 m0 m1 m2 m3
    clear hla hlb
    have hbx := balloc (balloc hb' (.cells #[.int .i64 x0, .int .u64 (x1 : Int), .int .u64 (x2 : Int), .int .i64 x3] 25)) (.cells #[.int .i64 y0, .int .u64 (y1 : Int), .int .u64 (y2 : Int), .int .i64 y3] 25)
    have hby := balloc (balloc hb' (.cells #[.int .i64 y0, .int .u64 (y1 : Int), .int .u64 (y2 : Int), .int .i64 y3] 25)) (.cells #[.int .i64 x0, .int .u64 (x1 : Int), .int .u64 (x2 : Int), .int .i64 x3] 25)
    have j10 := fun (o : Obj) => kept j0 (balloc (Below.refl w3.heap.size w3) o)
    have j20 := fun (o o' : Obj) => kept j0 (balloc (balloc (Below.refl w3.heap.size w3) o) o')
    have j11 := fun (o : Obj) => kept j1 (balloc (Below.refl w3.heap.size w3) o)
    have j21 := fun (o o' : Obj) => kept j1 (balloc (balloc (Below.refl w3.heap.size w3) o) o')
    have j12 := fun (o : Obj) => kept j2 (balloc (Below.refl w3.heap.size w3) o)
    have j22 := fun (o o' : Obj) => kept j2 (balloc (balloc (Below.refl w3.heap.size w3) o) o')
    have j13 := fun (o : Obj) => kept j3 (balloc (Below.refl w3.heap.size w3) o)
    have j23 := fun (o o' : Obj) => kept j3 (balloc (balloc (Below.refl w3.heap.size w3) o) o')
    have m10 := fun (o : Obj) => kept m0 (balloc (Below.refl w3.heap.size w3) o)
    have m20 := fun (o o' : Obj) => kept m0 (balloc (balloc (Below.refl w3.heap.size w3) o) o')
    have m11 := fun (o : Obj) => kept m1 (balloc (Below.refl w3.heap.size w3) o)
    have m21 := fun (o o' : Obj) => kept m1 (balloc (balloc (Below.refl w3.heap.size w3) o) o')
    have m12 := fun (o : Obj) => kept m2 (balloc (Below.refl w3.heap.size w3) o)
    have m22 := fun (o o' : Obj) => kept m2 (balloc (balloc (Below.refl w3.heap.size w3) o) o')
    have m13 := fun (o : Obj) => kept m3 (balloc (Below.refl w3.heap.size w3) o)
    have m23 := fun (o o' : Obj) => kept m3 (balloc (balloc (Below.refl w3.heap.size w3) o) o')
    clear hA3 hB3
    go_wp2_with fail
    go_region
    all_goals
      clear j0 j1 j2 j3 m0 m1 m2 m3 j10 j11 j12 j13 j20 j21 j22 j23 m10 m11 m12 m13 m20 m21 m22 m23
      go_upto_region 10 with fail
      cases q1 : x0 == y0 with
      | false =>
        go_wp2
        go_ret
        first | exact ⟨rfl, hbx⟩ | exact ⟨rfl, hby⟩ | exact ⟨rfl, bdrew hbx⟩ | exact ⟨rfl, bdrew hby⟩
      | true =>
      cases q2 : (x1 : Int) == (y1 : Int) with
      | false =>
        go_wp2
        go_ret
        first | exact ⟨rfl, hbx⟩ | exact ⟨rfl, hby⟩ | exact ⟨rfl, bdrew hbx⟩ | exact ⟨rfl, bdrew hby⟩
      | true =>
      cases q3 : (x2 : Int) == (y2 : Int) with
      | false =>
        go_wp2
        go_ret
        first | exact ⟨rfl, hbx⟩ | exact ⟨rfl, hby⟩ | exact ⟨rfl, bdrew hbx⟩ | exact ⟨rfl, bdrew hby⟩
      | true =>
      cases q4 : x3 == y3 with
      | false =>
        go_wp2
        go_ret
        first | exact ⟨rfl, hbx⟩ | exact ⟨rfl, hby⟩ | exact ⟨rfl, bdrew hbx⟩ | exact ⟨rfl, bdrew hby⟩
      | true =>
      go_wp2
      go_ret
      first | exact ⟨rfl, hbx⟩ | exact ⟨rfl, hby⟩ | exact ⟨rfl, bdrew hbx⟩ | exact ⟨rfl, bdrew hby⟩
  · obtain ⟨hn1, hal⟩ := HK.out jk h1 h2 hne heq
    have hAl := fun w => Lib.hid (markAlike (hsaid S[jk]) (hsaid T[jk]) w (hsaid_le _) (hsaid_le _) true hal)
    have c1 : decide ((0 : Int) ≤ n) = true := decide_eq_true hn1
    have c2 : decide (n < 0) = false := decide_eq_false (by omega)
    clear HT HK hne heq hal hn1
    generalize hsaid S[jk] = sa at *
    generalize hsaid T[jk] = sb at *
    have hA3 := hA2.below hb3
    have hB3 := hB2.below hb3
    have hb' := below_chain hb hb3
    clear hC hA2 hB2 hb hb3
    obtain ⟨gA, oA, rfl, j0, j1, j2, j3⟩ := hA3.head na hna
    obtain ⟨gB, oB, rfl, m0, m1, m2, m3⟩ := hB3.head nb hnb
    rw [hla hna] at j0 j1 j2 j3
    rw [hlb hnb] at m0 m1 m2 m3
    dsimp only at j0 j1 j2 j3 m0 m1 m2 m3
    clear hla hlb
    have hbx := balloc (balloc hb' (.cells #[.int .i64 x0, .int .u64 (x1 : Int), .int .u64 (x2 : Int), .int .i64 x3] 25)) (.cells #[.int .i64 y0, .int .u64 (y1 : Int), .int .u64 (y2 : Int), .int .i64 y3] 25)
    have hby := balloc (balloc hb' (.cells #[.int .i64 y0, .int .u64 (y1 : Int), .int .u64 (y2 : Int), .int .i64 y3] 25)) (.cells #[.int .i64 x0, .int .u64 (x1 : Int), .int .u64 (x2 : Int), .int .i64 x3] 25)
    have j10 := fun (o : Obj) => kept j0 (balloc (Below.refl w3.heap.size w3) o)
    have j20 := fun (o o' : Obj) => kept j0 (balloc (balloc (Below.refl w3.heap.size w3) o) o')
    have j11 := fun (o : Obj) => kept j1 (balloc (Below.refl w3.heap.size w3) o)
    have j21 := fun (o o' : Obj) => kept j1 (balloc (balloc (Below.refl w3.heap.size w3) o) o')
    have j12 := fun (o : Obj) => kept j2 (balloc (Below.refl w3.heap.size w3) o)
    have j22 := fun (o o' : Obj) => kept j2 (balloc (balloc (Below.refl w3.heap.size w3) o) o')
    have j13 := fun (o : Obj) => kept j3 (balloc (Below.refl w3.heap.size w3) o)
    have j23 := fun (o o' : Obj) => kept j3 (balloc (balloc (Below.refl w3.heap.size w3) o) o')
    have m10 := fun (o : Obj) => kept m0 (balloc (Below.refl w3.heap.size w3) o)
    have m20 := fun (o o' : Obj) => kept m0 (balloc (balloc (Below.refl w3.heap.size w3) o) o')
    have m11 := fun (o : Obj) => kept m1 (balloc (Below.refl w3.heap.size w3) o)
    have m21 := fun (o o' : Obj) => kept m1 (balloc (balloc (Below.refl w3.heap.size w3) o) o')
    have m12 := fun (o : Obj) => kept m2 (balloc (Below.refl w3.heap.size w3) o)
    have m22 := fun (o o' : Obj) => kept m2 (balloc (balloc (Below.refl w3.heap.size w3) o) o')
    have m13 := fun (o : Obj) => kept m3 (balloc (Below.refl w3.heap.size w3) o)
    have m23 := fun (o o' : Obj) => kept m3 (balloc (balloc (Below.refl w3.heap.size w3) o) o')
    clear hA3 hB3
    go_wp2_with fail
    go_region
    all_goals
      clear j0 j1 j2 j3 m0 m1 m2 m3 j10 j11 j12 j13 j20 j21 j22 j23 m10 m11 m12 m13 m20 m21 m22 m23
      go_upto_region 8 with fail
      go_wp2_with fail
      refine (hAl _).out.mono ?_
      rintro e w4 ⟨rfl, z, rfl⟩
      clear hAl
      go_upto_region 10 with fail
      cases q1 : x0 == y0 with
      | false =>
        go_wp2
        go_ret
        first | exact ⟨rfl, below_drewN hbx _⟩ | exact ⟨rfl, below_drewN hby _⟩
      | true =>
      cases q2 : (x1 : Int) == (y1 : Int) with
      | false =>
        go_wp2
        go_ret
        first | exact ⟨rfl, below_drewN hbx _⟩ | exact ⟨rfl, below_drewN hby _⟩
      | true =>
      cases q3 : (x2 : Int) == (y2 : Int) with
      | false =>
        go_wp2
        go_ret
        first | exact ⟨rfl, below_drewN hbx _⟩ | exact ⟨rfl, below_drewN hby _⟩
      | true =>
      cases q4 : x3 == y3 with
      | false =>
        go_wp2
        go_ret
        first | exact ⟨rfl, below_drewN hbx _⟩ | exact ⟨rfl, below_drewN hby _⟩
      | true =>
      go_wp2
      go_ret
      first | exact ⟨rfl, below_drewN hbx _⟩ | exact ⟨rfl, below_drewN hby _⟩

theorem chainBinds_walk (A B : Option Addr) (c d : Nat) (a b : List Hd) (w : World) (hma : a.length ≤ maxLen) (hmb : b.length ≤ maxLen) (hca : a.length ≤ c) (hcm : c ≤ maxLen) (hdb : b.length ≤ d) (hdm : d ≤ maxLen) (hA : Row w A (hcells a)) (hB : Row w B (hcells b)) :
    Calls Try.prog 7 #[.slice A a.length c, .slice B b.length d] w fun e w' => e = .returned (.bool true) ∧ Below w.heap.size w w' := by
  by_cases h : comErr a b = 0
  · have k := (comErr_ok a b).1 h
    cases hm : decide (hmark (lastH (comA a b)) = hmark (lastH (comB a b))) with
    | false => exact chainBinds_m A B c d a b w hca hcm hdb hdm hA hB k hm
    | true => exact chainBinds_y A B c d a b w hca hcm hdb hdm hA hB k hm
  · exact chainBinds_a A B c d a b w hma hmb hA hB _ rfl h

set_option maxRecDepth 100000 in
theorem chainBinds_lifted (os : Os) (started : os.Started) (H : Type) (enc : TypeId × Value → H) :
    ReturnsInHanded {} Try.checked os 7 .any (Rows.chainBindsSpec.pre6 enc Try.prog Try.f7 Rows.chainBindsRow.domain false) (Rows.chainBindsSpec.post enc Try.prog Try.f7 false true false false) := by
  refine returnsInHanded_of_change (C := Try.checked) own started (by kernel_rfl) Try.func7
    (ChangeSpec.witness6 (enc := enc) (C := Try.checked) false ⟨#[], #[.slice none 0 0, .slice none 0 0], []⟩ 8 (by kernel_rfl) (by kernel_rfl) (by kernel_rfl) (by kernel_rfl)) ?_
  intro W base args ds gs before hval0 hW hcnd _
  have hval : ∀ (j : Nat) t v, Try.f7.params[j]? = some t → args[j]? = some v → Value.okWide Try.prog W .any base t v := hval0
  have hW' := hW
  obtain ⟨p, q, hA0, hV, rfl, hfz, hnd⟩ := hW
  have hA : DataW.TrodAll enc Try.prog W 0 (fun _ => true) true Try.f7.params.toList args.toList ds p := hA0
  rw [Try.params7] at hA hval
  obtain ⟨v0, vs0, d0, ds0, p0, q0, hargs, rfl, rfl, h0, r0⟩ := trodAll_cons hA
  obtain ⟨v1, vs1, d1, ds1, p1, q1, rfl, rfl, rfl, h1, r1⟩ := trodAll_cons r0
  obtain ⟨rfl, rfl, rfl⟩ := trodAll_nil r1
  obtain rfl : args = #[v0, v1] := by cases args; simp_all
  obtain ⟨rfl, rfl⟩ := trodVars_none hV
  obtain ⟨A0, c0, s0, rfl, hm0, hr0, hc0, hd0, hs0, -⟩ := arg_heads (hval 0 22 v0 rfl rfl) h0
  obtain ⟨A1, c1, s1, rfl, hm1, hr1, hc1, hd1, hs1, -⟩ := arg_heads (hval 1 22 v1 rfl rfl) h1
  refine (chainBinds_walk A0 A1 c0 c1 s0 s1 W hm0 hm1 hc0 hd0 hc1 hd1 hr0 hr1).mono fun e W' ⟨he, hb⟩ => ?_
  subst he
  exact ⟨_, rfl, post_law laidOut (by decide +kernel) rfl Try.underlying4 (by kernel_rfl) hW' rfl hb⟩

/-- The statement. -/
theorem chainBinds_said : Rows.ChainBindsSaid :=
  OpenClaim.holds_of_wide 7 Try.f7 rfl rfl rfl rfl rfl rfl rfl ⟨rfl, rfl, rfl, rfl, rfl⟩ rfl rfl rfl rfl rfl (by kernel_rfl) Try.func7 (by kernel_rfl)
    (of_decide_eq_true (by kernel_rfl)) (by unfold Func.isWrapper; first | (rw [if_pos (by decide +kernel)]; kernel_rfl) | (rw [if_neg (by decide +kernel)]; exact ⟨rfl, rfl⟩))
    (fun os started H enc _ => chainBinds_lifted os started H enc)
#print axioms chainBinds_said

end Go.Proofs.Ythkhafgcpmoalaa
