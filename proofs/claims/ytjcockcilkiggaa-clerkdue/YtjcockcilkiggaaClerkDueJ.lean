/- The law ClerkDue returns true: a request that a server has accepted is in a book by the time that it was told, or set again by who came behind it, if there are enough ticks and the server is not closed before. No conditions: true for all arguments. -/
import Derived.Test.YtjcockcilkiggaaJ39
import Derived.Test.YtjcockcilkiggaaClerkWaitJ
import Derived.Test.YtjcockcilkiggaaDueFindJ
import Derived.Test.YtjcockcilkiggaaJ40
import Derived.Test.YtjcockcilkiggaaSizedArgsJ
import Derived.Test.YtjcockcilkiggaaAsksJ
import Derived.Deep.DeepCutAuto
namespace Go.Proofs.Ytjcockcilkiggaa
set_option maxRecDepth 100000
open Go.ChangeShapes Go.WideShapes Go.ChangeAt Go.RowKit

set_option maxHeartbeats 4000000 in
theorem clerkDue_no (k : Ck) (A I B : Option Addr) (c d e : Nat) (ps : List Bp) (na va : Bytes) (nu tg : Nat) (Q : Option Addr) (cq : Nat) (s : List Ak) (w : World) (r : Int) (h0 : r ≠ 0)
    (hA : Row w A (qcells k.wait)) (hI : Row w I (hcells k.heads)) (hB : Books w B ps)
    (hAk : ∀ w : World, Row w A (qcells k.wait) → Row w I (hcells k.heads) → Books w B ps → Hid (Calls Try.prog 8 #[.agg #[.int .i64 k.most, .slice A k.wait.length c, .int .i64 k.batch, .int .i64 k.every, .int .i64 k.now, .slice I k.heads.length d, .slice B ps.length e], .agg #[.string (S na), .string (S va), .int .u64 (nu : Int), .int .u64 (tg : Int)]] w (ClerkNo r w))) :
    Calls Try.prog 4 #[.agg #[.int .i64 k.most, .slice A k.wait.length c, .int .i64 k.batch, .int .i64 k.every, .int .i64 k.now, .slice I k.heads.length d, .slice B ps.length e], .agg #[.string (S na), .string (S va), .int .u64 (nu : Int), .int .u64 (tg : Int)], .slice Q s.length cq] w fun e w' => e = .returned (.bool true) ∧ Below w.heap.size w w' := by
  have hJ := fun w => Lib.hid (clerks w)
  have hb0 := balloc (balloc (Below.refl w.heap.size w) (.cells #[.int .i64 k.most, .slice A k.wait.length c, .int .i64 k.batch, .int .i64 k.every, .int .i64 k.now, .slice I k.heads.length d, .slice B ps.length e] 28)) (.cells #[.string (S na), .string (S va), .int .u64 (nu : Int), .int .u64 (tg : Int)] 35)
  have x0 := (Bx.new w _ rfl _ [.int .i64 k.most, .slice A k.wait.length c, .int .i64 k.batch, .int .i64 k.every, .int .i64 k.now, .slice I k.heads.length d, .slice B ps.length e] 28 rfl).alloc (.cells #[.string (S na), .string (S va), .int .u64 (nu : Int), .int .u64 (tg : Int)] 35)
  have z0 := Bx.new (w.alloc (.cells #[.int .i64 k.most, .slice A k.wait.length c, .int .i64 k.batch, .int .i64 k.every, .int .i64 k.now, .slice I k.heads.length d, .slice B ps.length e] 28)) (w.heap.size + 1) (by simp) _ [.string (S na), .string (S va), .int .u64 (nu : Int), .int .u64 (tg : Int)] 35 rfl
  have c0 : (r != 0) = true := bne_iff_ne.2 h0
  clear h0
  go_enter Try.func4, Try.ntmps4
  go_wp2_with fail
  refine (hJ _).out.mono ?_
  rintro xx w1 ⟨rfl, hb1⟩
  have hb01 := below_chain hb0 hb1
  have x1 := x0.below hb1
  have z1 := z0.below hb1
  have hz1 := z1.lt
  obtain ⟨a0, a1, a2, a3, a4, a5, a6⟩ := x1.get7
  obtain ⟨⟨r0, r1, r2, r3⟩, _⟩ := z1.get4
  go_wp2_with fail
  refine (hAk _ (hA.below hb01) (hI.below hb01) (hB.below hb01)).out.mono ?_
  rintro xx w2 ⟨rfl, hb2⟩
  have hb3 := balloc hb2 (.cells #[.int .i64 0, .slice none 0 0, .int .i64 0, .int .i64 0, .int .i64 0, .slice none 0 0, .slice none 0 0] 28)
  have y3 := Bx.new w2 _ rfl _ [.int .i64 0, .slice none 0 0, .int .i64 0, .int .i64 0, .int .i64 0, .slice none 0 0, .slice none 0 0] 28 rfl
  obtain ⟨y0, y1, y2, y3', y4, y5, y6⟩ := y3.get7
  clear hAk
  go_wp2
  go_ret
  exact ⟨rfl, below_chain hb01 hb3⟩
set_option maxHeartbeats 4000000 in
theorem clerkDue_far (k : Ck) (A I B : Option Addr) (c d e : Nat) (ps : List Bp) (na va : Bytes) (nu tg : Nat) (Q : Option Addr) (cq : Nat) (s : List Ak) (w : World) (k2 : Ck) (due : Int) (hd1 : k.now < due) (hd2 : due ≤ 1000031000) (hd0 : 0 ≤ k.now) (hfar : 60 < due - k.now)
    (hA : Row w A (qcells k.wait)) (hI : Row w I (hcells k.heads)) (hB : Books w B ps)
    (hAk : ∀ w : World, Row w A (qcells k.wait) → Row w I (hcells k.heads) → Books w B ps → Hid (Calls Try.prog 8 #[.agg #[.int .i64 k.most, .slice A k.wait.length c, .int .i64 k.batch, .int .i64 k.every, .int .i64 k.now, .slice I k.heads.length d, .slice B ps.length e], .agg #[.string (S na), .string (S va), .int .u64 (nu : Int), .int .u64 (tg : Int)]] w (AkGives k2 due w))) :
    Calls Try.prog 4 #[.agg #[.int .i64 k.most, .slice A k.wait.length c, .int .i64 k.batch, .int .i64 k.every, .int .i64 k.now, .slice I k.heads.length d, .slice B ps.length e], .agg #[.string (S na), .string (S va), .int .u64 (nu : Int), .int .u64 (tg : Int)], .slice Q s.length cq] w fun e w' => e = .returned (.bool true) ∧ Below w.heap.size w w' := by
  have hJ := fun w => Lib.hid (clerks w)
  have hb0 := balloc (balloc (Below.refl w.heap.size w) (.cells #[.int .i64 k.most, .slice A k.wait.length c, .int .i64 k.batch, .int .i64 k.every, .int .i64 k.now, .slice I k.heads.length d, .slice B ps.length e] 28)) (.cells #[.string (S na), .string (S va), .int .u64 (nu : Int), .int .u64 (tg : Int)] 35)
  have x0 := (Bx.new w _ rfl _ [.int .i64 k.most, .slice A k.wait.length c, .int .i64 k.batch, .int .i64 k.every, .int .i64 k.now, .slice I k.heads.length d, .slice B ps.length e] 28 rfl).alloc (.cells #[.string (S na), .string (S va), .int .u64 (nu : Int), .int .u64 (tg : Int)] 35)
  have z0 := Bx.new (w.alloc (.cells #[.int .i64 k.most, .slice A k.wait.length c, .int .i64 k.batch, .int .i64 k.every, .int .i64 k.now, .slice I k.heads.length d, .slice B ps.length e] 28)) (w.heap.size + 1) (by simp) _ [.string (S na), .string (S va), .int .u64 (nu : Int), .int .u64 (tg : Int)] 35 rfl
  have e1 : IntKind.i64.wrap (due - k.now) = due - k.now := by rw [IntKind.wrap_i64]; omega
  have c1 : decide (60 < due - k.now) = true := decide_eq_true hfar
  have c2 : decide (k.now < due) = true := decide_eq_true hd1
  go_enter Try.func4, Try.ntmps4
  go_wp2_with fail
  refine (hJ _).out.mono ?_
  rintro xx w1 ⟨rfl, hb1⟩
  have hb01 := below_chain hb0 hb1
  have x1 := x0.below hb1
  have z1 := z0.below hb1
  have hz1 := z1.lt
  obtain ⟨a0, a1, a2, a3, a4, a5, a6⟩ := x1.get7
  obtain ⟨⟨r0, r1, r2, r3⟩, _⟩ := z1.get4
  go_wp2_with fail
  refine (hAk _ (hA.below hb01) (hI.below hb01) (hB.below hb01)).out.mono ?_
  rintro xx w2 ⟨D2, d2, E2, f2, F2, h2, qz, rfl, hqz, hO2, hb2⟩
  have hb3 := balloc hb2 (.cells #[.int .i64 k2.most, .slice D2 k2.wait.length d2, .int .i64 k2.batch, .int .i64 k2.every, .int .i64 k2.now, .slice E2 k2.heads.length f2, .slice F2 qz.length h2] 28)
  have x3 := x1.below hb3
  obtain ⟨b0, b1, b2, b3, b4, b5, b6⟩ := x3.get7
  clear hAk a0 a1 a2 a3 a4 a5 a6
  go_wp2
  go_ret
  exact ⟨rfl, below_chain hb01 hb3⟩
set_option maxHeartbeats 16000000 in
theorem clerkDue_near (k : Ck) (A I B : Option Addr) (c d e : Nat) (ps : List Bp) (na va : Bytes) (nu tg : Nat) (Q : Option Addr) (cq : Nat) (s : List Ak) (w : World) (hps : bks ps = k.books) (hg : CkGood k) (hna : na.length ≤ maxLen) (hr0 : ckAskErr k na va = 0) (k1 : Ck) (hk1 : ckAsked k (na, va, nu, tg) = k1) (due : Int) (hdue : dueOf k = due) (hfar : ¬ 60 < due - k.now) (hs1 : s.length * 48 ≤ 140737488351232)
    (hs : ∀ x ∈ s, (x.1.length ≤ maxLen ∧ x.2.1.length ≤ maxLen) ∧ x.2.2.1 < 18446744073709551616 ∧ x.2.2.2 < 18446744073709551616)
    (hA : Row w A (qcells k.wait)) (hI : Row w I (hcells k.heads)) (hB : Books w B ps) (hS : Row w Q (qcells s))
    (hAk : ∀ w : World, Row w A (qcells k.wait) → Row w I (hcells k.heads) → Books w B ps → Hid (Calls Try.prog 8 #[.agg #[.int .i64 k.most, .slice A k.wait.length c, .int .i64 k.batch, .int .i64 k.every, .int .i64 k.now, .slice I k.heads.length d, .slice B ps.length e], .agg #[.string (S na), .string (S va), .int .u64 (nu : Int), .int .u64 (tg : Int)]] w (AkGives k1 due w))) :
    Calls Try.prog 4 #[.agg #[.int .i64 k.most, .slice A k.wait.length c, .int .i64 k.batch, .int .i64 k.every, .int .i64 k.now, .slice I k.heads.length d, .slice B ps.length e], .agg #[.string (S na), .string (S va), .int .u64 (nu : Int), .int .u64 (tg : Int)], .slice Q s.length cq] w fun e w' => e = .returned (.bool true) ∧ Below w.heap.size w w' := by
  have hd1 : k.now < due := by rw [← hdue]; exact dueOf_gt hg
  have hd2 : due ≤ 1000031000 := by rw [← hdue]; exact dueOf_le hg
  have hd0 : 0 ≤ k.now := by have := hg.range; unfold rangeBad at this; omega
  have hJ := fun w => Lib.hid (clerks w)
  have hb0 := balloc (balloc (Below.refl w.heap.size w) (.cells #[.int .i64 k.most, .slice A k.wait.length c, .int .i64 k.batch, .int .i64 k.every, .int .i64 k.now, .slice I k.heads.length d, .slice B ps.length e] 28)) (.cells #[.string (S na), .string (S va), .int .u64 (nu : Int), .int .u64 (tg : Int)] 35)
  have x0 := (Bx.new w _ rfl _ [.int .i64 k.most, .slice A k.wait.length c, .int .i64 k.batch, .int .i64 k.every, .int .i64 k.now, .slice I k.heads.length d, .slice B ps.length e] 28 rfl).alloc (.cells #[.string (S na), .string (S va), .int .u64 (nu : Int), .int .u64 (tg : Int)] 35)
  have z0 := Bx.new (w.alloc (.cells #[.int .i64 k.most, .slice A k.wait.length c, .int .i64 k.batch, .int .i64 k.every, .int .i64 k.now, .slice I k.heads.length d, .slice B ps.length e] 28)) (w.heap.size + 1) (by simp) _ [.string (S na), .string (S va), .int .u64 (nu : Int), .int .u64 (tg : Int)] 35 rfl
  have e1 : IntKind.i64.wrap (due - k.now) = due - k.now := by rw [IntKind.wrap_i64]; omega
  have c1 : decide (60 < due - k.now) = false := decide_eq_false hfar
  have HFAR : Hid (due ≤ k.now + 60) := by show _ ≤ _; omega
  have HSM := Lib.hid (ck_small hg ps hps)
  have HPS := Lib.hid hps
  have HL := Lib.hid hs
  have HNM : Hid (Bin.name na = true) := ((askFault_ok _ _).1 (ckAskErr_ok hr0).1).1
  have HG1k : Hid (CkGood k1) := by show CkGood _; rw [← hk1]; exact ckAsked_good hg hr0
  have HE1k : Hid (CkExt k k1) := by show CkExt _ _; rw [← hk1]; exact (CkExt.refl k).asked _
  have HD1k : Hid ((∀ x ∈ k.wait ++ s, x.1 ≠ na) → DueInv k.books.length (na, va, nu, tg) due k1) := fun _ => by rw [← hk1, ← hdue]; exact DueInv.start hg _ _
  have HN1k : Hid (k1.now = k.now + ((0 : Nat) : Int)) := by show _ = _; rw [← hk1]; show k.now = _; omega
  clear hps hs hg hr0 hk1 hdue hfar
  go_enter Try.func4, Try.ntmps4
  go_wp2_with fail
  refine (hJ _).out.mono ?_
  rintro xx w1 ⟨rfl, hb1⟩
  have hb01 := below_chain hb0 hb1
  have x1 := x0.below hb1
  have z1 := z0.below hb1
  have hz1 := z1.lt
  obtain ⟨a0, a1, a2, a3, a4, a5, a6⟩ := x1.get7
  obtain ⟨⟨r0, r1, r2, r3⟩, _⟩ := z1.get4
  go_wp2_with fail
  refine (hAk _ (hA.below hb01) (hI.below hb01) (hB.below hb01)).out.mono ?_
  rintro xx w2 ⟨D2, d2, E2, f2, F2, h2, qz, rfl, hqz, hO2, hb2⟩
  have hb23 := balloc hb2 (.cells #[.int .i64 k1.most, .slice D2 k1.wait.length d2, .int .i64 k1.batch, .int .i64 k1.every, .int .i64 k1.now, .slice E2 k1.heads.length f2, .slice F2 qz.length h2] 28)
  have u3 := x1.below hb23
  have r3' := z1.below hb23
  have x3 := Bx.new w2 _ rfl _ [.int .i64 k1.most, .slice D2 k1.wait.length d2, .int .i64 k1.batch, .int .i64 k1.every, .int .i64 k1.now, .slice E2 k1.heads.length f2, .slice F2 qz.length h2] 28 rfl
  have hO3 := hO2.below (balloc (Below.refl _ _) (.cells #[.int .i64 k1.most, .slice D2 k1.wait.length d2, .int .i64 k1.batch, .int .i64 k1.every, .int .i64 k1.now, .slice E2 k1.heads.length f2, .slice F2 qz.length h2] 28))
  have hb03 := below_chain hb01 hb23
  have hs2 := hb2.size
  obtain ⟨g7, hg7⟩ : ∃ g7, w2.heap.size = g7 := ⟨_, rfl⟩
  rw [hg7] at x3
  have HP0 : Hid (w.heap.size ≠ g7 ∧ w.heap.size ≤ g7) := by show _ ∧ _; omega
  have HP1 : Hid (w.heap.size + 1 ≠ g7) := by show _ ≠ _; omega
  have HG1 : Hid (w.heap.size + 1 < w1.heap.size) := hz1
  have HG7 := Lib.hid hg7
  have hst0 := ClSt.of HG1k.out HE1k.out hqz hO3 x3
  clear a0 a1 a2 a3 a4 a5 a6 r0 r1 r2 r3 x0 x1 z0 z1 hAk hJ hb0 hb1 hb2 hb23 hz1 hs2 hO2 hO3 x3 hqz hg7 HG1k HE1k
  obtain ⟨c0, c1', c2, c3, c4, c5, c6⟩ := u3.get7
  go_upto_region 8 with fail
  try rw [HG7.out]
  generalize (w2.alloc (.cells #[.int .i64 k1.most, .slice D2 k1.wait.length d2, .int .i64 k1.batch, .int .i64 k1.every, .int .i64 k1.now, .slice E2 k1.heads.length f2, .slice F2 qz.length h2] 28)) = v2 at *
  clear c0 c1' c2 c3 c4 c5 c6 e1 c1
  go_wp2
  go_loopw [10] (fun i wr => ∃ (j : Nat) (k' : Ck) (A' I' B' : Option Addr) (c' d' e' : Nat) (qs : List Bp), j ≤ 60 ∧ i = .int .i64 j ∧ ClSt k g7 wr k' A' I' B' c' d' e' qs ∧ Hid ((∀ x ∈ k.wait ++ s, x.1 ≠ na) → DueInv k.books.length (na, va, nu, tg) due k') ∧ Hid (k'.now = k.now + j) ∧ Bx wr (w.heap.size) [.int .i64 k.most, .slice A k.wait.length c, .int .i64 k.batch, .int .i64 k.every, .int .i64 k.now, .slice I k.heads.length d, .slice B ps.length e] ∧ Bx wr (w.heap.size + 1) [.string (S na), .string (S va), .int .u64 (nu : Int), .int .u64 (tg : Int)] ∧ Below w.heap.size w wr) (fun i _ => 61 - (intOf i).toNat)
  case atStart => exact ⟨0, k1, D2, E2, F2, d2, f2, h2, qz, by omega, rfl, hst0, HD1k, HN1k, u3, r3', hb03⟩
  case round =>
    clear hst0 HD1k HN1k u3 r3' hb03
    obtain ⟨j, k', A', I', B', c', d', e', qs, hj, rfl, hst, HD, HN, hx0, hx1, hbw⟩ := hrel
    have hnw : 0 ≤ k'.now ∧ k'.now ≤ 1000000000 := by have := hst.good.range; unfold rangeBad at this; omega
    by_cases hdn' : k'.now < due
    · have cdn : decide (k'.now < due) = true := decide_eq_true hdn'
      have hj59 : j ≤ 59 := by have := HN.out; have := HFAR.out; omega
      clear hnw
      by_cases hjm : j < s.length
      · have i0 : (0 : Int) ≤ (j : Int) := by omega
        have i1 : (j : Int) < (s.length : Int) := by omega
        have hmm := List.getElem_mem hjm
        obtain ⟨gm, om, rfl, m0, m1, m2, m3⟩ := (hS.below hbw).ask j hjm
        have hx := HL.out _ hmm
        have HNE : Hid ((∀ x ∈ k.wait ++ s, x.1 ≠ na) → s[j].1 ≠ na) := fun h => h _ (List.mem_append_right _ hmm)
        generalize s[j].1 = nb at *
        generalize s[j].2.1 = vb at *
        generalize s[j].2.2.1 = nub at *
        generalize s[j].2.2.2 = tgb at *
        obtain ⟨r, hr⟩ : ∃ r, ckAskErr k' nb vb = r := ⟨_, rfl⟩
        obtain ⟨a0, a1, a2, a3, a4, a5, a6⟩ := hst.bx.get7
        clear hmm
        by_cases h0 : r = 0
        case neg =>
          have c0 : (r == 0) = false := beq_eq_false_iff_ne.2 h0
          have hAk := fun (w : World) h1 h2 h3 => Lib.hid (clerkAskG_no k' A' I' B' c' d' e' qs hst.bk nb vb nub tgb w hx.1.1 hx.1.2 hst.good h1 h2 h3 r hr h0)
          clear hr h0
          go_wp2
          refine wp_region_held_drew (S := fun W => (W.cell? ⟨g7, 0, none⟩ = some (.int .i64 k'.most) ∧ W.cell? ⟨g7, 1, none⟩ = some (.slice A' k'.wait.length c') ∧ W.cell? ⟨g7, 2, none⟩ = some (.int .i64 k'.batch) ∧ W.cell? ⟨g7, 3, none⟩ = some (.int .i64 k'.every) ∧ W.cell? ⟨g7, 4, none⟩ = some (.int .i64 k'.now) ∧ W.cell? ⟨g7, 5, none⟩ = some (.slice I' k'.heads.length d') ∧ W.cell? ⟨g7, 6, none⟩ = some (.slice B' qs.length e')) ∧ W.cell? ⟨gm, om + j * 4, none⟩ = some (.string (S nb)) ∧ W.cell? ⟨gm, om + j * 4 + 1, none⟩ = some (.string (S vb)) ∧ W.cell? ⟨gm, om + j * 4 + 2, none⟩ = some (.int .u64 (nub : Int)) ∧ W.cell? ⟨gm, om + j * 4 + 3, none⟩ = some (.int .u64 (tgb : Int))) (by kernel_rfl) ⟨⟨a0, a1, a2, a3, a4, a5, a6⟩, m0, m1, m2, m3⟩ (fun hHeld => ?_)
          refine wpAnyH_take (i := 0) (v := ?_) rfl (by kernel_rfl) (by kernel_rfl) (by kernel_rfl) (fun _ _ _ h => h) (Or.inl ⟨by rfl, ?_⟩) (by assumption) ?_
          rotate_left
          · intro wt hSt
            try dsimp only at hSt
            first | (go_simp; done) | (go_simp; with_reducible rfl)
          simp only [Act.put, List.setIfInBounds_toArray, List.set_cons_zero, List.set_cons_succ, List.getElem_toArray, List.getElem_cons_zero]
          refine wpAnyH_take (i := 1) (v := ?_) rfl (by kernel_rfl) (by kernel_rfl) (by kernel_rfl) (fun _ _ _ h => h) (Or.inl ⟨by rfl, ?_⟩) (by assumption) ?_
          rotate_left
          · intro wt hSt
            try dsimp only at hSt
            first | (go_simp; done) | (go_simp; with_reducible rfl)
          simp only [Act.put, List.setIfInBounds_toArray, List.set_cons_zero, List.set_cons_succ, List.getElem_toArray, List.getElem_cons_zero, List.getElem_cons_succ]
          refine wpAnyH_take (i := 2) (v := ?_) rfl (by kernel_rfl) (by kernel_rfl) (by kernel_rfl) (fun _ _ _ h => h) (Or.inl ⟨by rfl, ?_⟩) (by assumption) ?_
          rotate_left
          · intro wt hSt
            try dsimp only at hSt
            first | (go_simp; done) | (go_simp; with_reducible rfl)
          simp only [Act.put, List.setIfInBounds_toArray, List.set_cons_zero, List.set_cons_succ, List.getElem_toArray, List.getElem_cons_zero, List.getElem_cons_succ]
          refine wpAnyH_take (i := 3) (v := ?_) rfl (by kernel_rfl) (by kernel_rfl) (by kernel_rfl) (fun _ _ _ h => h) (Or.inl ⟨by rfl, ?_⟩) (by assumption) ?_
          rotate_left
          · intro wt hSt
            try dsimp only at hSt
            first | (go_simp; done) | (go_simp; with_reducible rfl)
          simp only [Act.put, List.setIfInBounds_toArray, List.set_cons_zero, List.set_cons_succ, List.getElem_toArray, List.getElem_cons_zero, List.getElem_cons_succ]
          refine wpAnyH_take (i := 4) (v := ?_) rfl (by kernel_rfl) (by kernel_rfl) (by kernel_rfl) (fun _ _ _ h => h) (Or.inl ⟨by rfl, ?_⟩) (by assumption) ?_
          rotate_left
          · intro wt hSt
            try dsimp only at hSt
            first | (go_simp; done) | (go_simp; with_reducible rfl)
          simp only [Act.put, List.setIfInBounds_toArray, List.set_cons_zero, List.set_cons_succ, List.getElem_toArray, List.getElem_cons_zero, List.getElem_cons_succ]
          refine wpAnyH_ready (rs := [5, 10]) (by kernel_rfl) (by simp) ?_
          refine AllReadyH.cons rfl (fun K hK => ?_) (AllReadyH.cons rfl (fun K hK => ?_) (AllReadyH.nil))
          · skip
            go_simp
            go_at_call 8
            refine (hAk _ (hst.ra.drewN 1) (hst.ri.drewN 1) (hst.rb.below (bdrew (Below.refl _ _)))).out.mono ?_
            rintro xx w3 ⟨rfl, hb3⟩
            have hbC : Below wr.heap.size wr w3 := below_chain (bdrew (Below.refl _ _)) hb3
            go_wp2_with fail
            refine hK.out _ _ ⟨⟨kept a0 hbC, kept a1 hbC, kept a2 hbC, kept a3 hbC, kept a4 hbC, kept a5 hbC, kept a6 hbC⟩, kept m0 hbC, kept m1 hbC, kept m2 hbC, kept m3 hbC⟩ (fun hHeldN => ?_)
            clear hK K hHeld
            have hHeld := hHeldN
            clear hHeldN
            refine wpAnyH_take (i := 6) (v := ?_) rfl (by kernel_rfl) (by kernel_rfl) (by kernel_rfl) (fun _ _ _ h => h) (Or.inl ⟨by rfl, ?_⟩) (by assumption) ?_
            rotate_left
            · intro wt hSt
              try dsimp only at hSt
              first | (go_simp; done) | (go_simp; with_reducible rfl)
            simp only [Act.put, List.setIfInBounds_toArray, List.set_cons_zero, List.set_cons_succ, List.getElem_toArray, List.getElem_cons_zero, List.getElem_cons_succ]
            refine wpAnyH_take (i := 7) (v := ?_) rfl (by kernel_rfl) (by kernel_rfl) (by kernel_rfl) (fun _ _ _ h => h) (Or.inl ⟨by rfl, ?_⟩) (by assumption) ?_
            rotate_left
            · intro wt hSt
              try dsimp only at hSt
              first | (go_simp; done) | (go_simp; with_reducible rfl)
            simp only [Act.put, List.setIfInBounds_toArray, List.set_cons_zero, List.set_cons_succ, List.getElem_toArray, List.getElem_cons_zero, List.getElem_cons_succ]
            refine wpAnyH_take (i := 8) (v := ?_) rfl (by kernel_rfl) (by kernel_rfl) (by kernel_rfl) (fun _ _ _ h => h) (Or.inl ⟨by rfl, ?_⟩) (by assumption) ?_
            rotate_left
            · intro wt hSt
              try dsimp only at hSt
              first | (go_simp; done) | (go_simp; with_reducible rfl)
            simp only [Act.put, List.setIfInBounds_toArray, List.set_cons_zero, List.set_cons_succ, List.getElem_toArray, List.getElem_cons_zero, List.getElem_cons_succ]
            refine wpAnyH_take (i := 9) (v := ?_) rfl (by kernel_rfl) (by kernel_rfl) (by kernel_rfl) (fun _ _ _ h => h) (Or.inl ⟨by rfl, ?_⟩) (by assumption) ?_
            rotate_left
            · intro wt hSt
              try dsimp only at hSt
              first | (go_simp; done) | (go_simp; with_reducible rfl)
            simp only [Act.put, List.setIfInBounds_toArray, List.set_cons_zero, List.set_cons_succ, List.getElem_toArray, List.getElem_cons_zero, List.getElem_cons_succ]
            refine wpAnyH_ready (rs := [10]) (by kernel_rfl) (by simp) ?_
            refine AllReadyH.cons rfl (fun K hK => ?_) (AllReadyH.nil)
            go_simp
            have hbD : Below wr.heap.size wr (w3.alloc (.cells #[.int .i64 0, .slice none 0 0, .int .i64 0, .int .i64 0, .int .i64 0, .slice none 0 0, .slice none 0 0] 28)) := balloc hbC _
            refine hK.out _ _ ⟨⟨kept a0 hbD, kept a1 hbD, kept a2 hbD, kept a3 hbD, kept a4 hbD, kept a5 hbD, kept a6 hbD⟩, kept m0 hbD, kept m1 hbD, kept m2 hbD, kept m3 hbD⟩ (fun hHeldN => ?_)
            clear hK K hHeld
            have hHeld := hHeldN
            clear hHeldN
            refine wpAnyH_ready (rs := [11]) (by kernel_rfl) (by simp) ?_
            refine AllReadyH.cons rfl (fun K hK => ?_) (AllReadyH.nil)
            go_simp
            have hbE : Below wr.heap.size wr (w3.alloc (.cells #[.int .i64 0, .slice none 0 0, .int .i64 0, .int .i64 0, .int .i64 0, .slice none 0 0, .slice none 0 0] 28)) := balloc hbC _
            refine hK.out _ _ ⟨⟨kept a0 hbE, kept a1 hbE, kept a2 hbE, kept a3 hbE, kept a4 hbE, kept a5 hbE, kept a6 hbE⟩, kept m0 hbE, kept m1 hbE, kept m2 hbE, kept m3 hbE⟩ (fun hHeldN => ?_)
            clear hK K hHeld
            have hHeld := hHeldN
            clear hHeldN
            refine wpAnyH_take (i := 12) (v := ?_) rfl (by kernel_rfl) (by kernel_rfl) (by kernel_rfl) (fun _ _ _ h => h) (Or.inl ⟨by rfl, ?_⟩) (by assumption) ?_
            rotate_left
            · intro wt hSt
              try dsimp only at hSt
              first | (go_simp; done) | (go_simp; with_reducible rfl)
            simp only [Act.put, List.setIfInBounds_toArray, List.set_cons_zero, List.set_cons_succ, List.getElem_toArray, List.getElem_cons_zero, List.getElem_cons_succ]
            refine wpAnyH_take (i := 13) (v := ?_) rfl (by kernel_rfl) (by kernel_rfl) (by kernel_rfl) (fun _ _ _ h => h) (Or.inl ⟨by rfl, ?_⟩) (by assumption) ?_
            rotate_left
            · intro wt hSt
              try dsimp only at hSt
              first | (go_simp; done) | (go_simp; with_reducible rfl)
            simp only [Act.put, List.setIfInBounds_toArray, List.set_cons_zero, List.set_cons_succ, List.getElem_toArray, List.getElem_cons_zero, List.getElem_cons_succ]
            refine wpAnyH_done (by kernel_rfl) ?_ _
            have hst' := hst.below hbE
            have hx0' := hx0.below hbE
            have hx1' := hx1.below hbE
            have hbw' := below_chain hbw hbE
            generalize (w3.alloc (.cells #[.int .i64 0, .slice none 0 0, .int .i64 0, .int .i64 0, .int .i64 0, .slice none 0 0, .slice none 0 0] 28)) = w9' at *
            clear hHeld hst hx0 hx1 hbw a0 a1 a2 a3 a4 a5 a6 m0 m1 m2 m3 hbC hb3 hAk hbD
            have hst := hst'
            have hx0 := hx0'
            have hx1 := hx1'
            have hbw := hbw'
            clear hst' hx0' hx1' hbw' hbE
            obtain ⟨⟨k3, b3'⟩, hk3⟩ : ∃ u, ckTick k' = u := ⟨_, rfl⟩
            have HG3 : Hid (CkGood k3) := by show CkGood _; have := ckTick_good hst.good; rw [hk3] at this; exact this
            have HE3 : Hid (CkExt k k3) := by show CkExt _ _; have := hst.ext.tick; rw [hk3] at this; exact this
            have HD3 : Hid ((∀ x ∈ k.wait ++ s, x.1 ≠ na) → DueInv k.books.length (na, va, nu, tg) due k3) := fun hn => by have := (HD.out hn).tick hst.good hst.ext.bl; rw [hk3] at this; exact this
            have HN3 : Hid (k3.now = k'.now ∨ k3.now = k'.now + 1) := by show _ ∨ _; have := ckTick_now k'; rw [hk3] at this; exact this
            have hTk := fun (w : World) g1 g2 g3 => Lib.hid (clerkTickG k' A' I' B' c' d' e' qs hst.bk w hst.good g1 g2 g3 k3 b3' hk3)
            obtain ⟨a0, a1, a2, a3, a4, a5, a6⟩ := hst.bx.get7
            have hgl := hst.bx.lt
            clear hk3
            go_wp2_with fail
            refine (hTk _ hst.ra hst.ri hst.rb).out.mono ?_
            rintro xx v4 ⟨D3, d3, E3, f3, F3, h3, qt, rfl, hqt, hO4, hb4⟩
            have hb45 := balloc hb4 (.cells #[.int .i64 k3.most, .slice D3 k3.wait.length d3, .int .i64 k3.batch, .int .i64 k3.every, .int .i64 k3.now, .slice E3 k3.heads.length f3, .slice F3 qt.length h3] 28)
            have x5 := hst.bx.below hb45
            have u5 := hx0.below hb45
            have r5 := hx1.below hb45
            have y5 := Bx.new v4 _ rfl _ [.int .i64 k3.most, .slice D3 k3.wait.length d3, .int .i64 k3.batch, .int .i64 k3.every, .int .i64 k3.now, .slice E3 k3.heads.length f3, .slice F3 qt.length h3] 28 rfl
            have hO5 := hO4.below (balloc (Below.refl _ _) (.cells #[.int .i64 k3.most, .slice D3 k3.wait.length d3, .int .i64 k3.batch, .int .i64 k3.every, .int .i64 k3.now, .slice E3 k3.heads.length f3, .slice F3 qt.length h3] 28))
            have hb5 := below_chain hbw hb45
            have hpg0 := HP0.out
            have hpg1 := HP1.out
            clear a0 a1 a2 a3 a4 a5 a6 hTk hO4 hb4 hb45 hst hx0 hx1 hbw HD
            by_cases hsm : k3.now = k'.now
            · have cs : (k3.now == k'.now) = true := beq_iff_eq.2 hsm
              obtain ⟨a0, a1, a2, a3, a4, a5, a6⟩ := y5.get7
              obtain ⟨b0, b1, b2, b3, b4, b5, b6⟩ := x5.get7
              clear hsm
              go_wp2
              go_ret
              exact ⟨rfl, hb5⟩
            · have cs : (k3.now == k'.now) = false := beq_eq_false_iff_ne.2 hsm
              have HNW : Hid (k3.now = k.now + ((j + 1 : Nat) : Int)) := by
                show _ = _
                have h1 := HN3.out
                have h2 := HN.out
                rcases h1 with h1 | h1
                · exact absurd h1 hsm
                · rw [h1, h2]; omega
              have x9 : Bx ((((((((v4.alloc (.cells #[.int .i64 k3.most, .slice D3 k3.wait.length d3, .int .i64 k3.batch, .int .i64 k3.every, .int .i64 k3.now, .slice E3 k3.heads.length f3, .slice F3 qt.length h3] 28)).setCell ⟨g7, 0, none⟩ (.int .i64 k3.most)).setCell ⟨g7, 1, none⟩ (.slice D3 k3.wait.length d3)).setCell ⟨g7, 2, none⟩ (.int .i64 k3.batch)).setCell ⟨g7, 3, none⟩ (.int .i64 k3.every)).setCell ⟨g7, 4, none⟩ (.int .i64 k3.now)).setCell ⟨g7, 5, none⟩ (.slice E3 k3.heads.length f3)).setCell ⟨g7, 6, none⟩ (.slice F3 qt.length h3)) (g7) [.int .i64 k3.most, .slice D3 k3.wait.length d3, .int .i64 k3.batch, .int .i64 k3.every, .int .i64 k3.now, .slice E3 k3.heads.length f3, .slice F3 qt.length h3] := (((((((x5.set 0 (.int .i64 k3.most)).set 1 (.slice D3 k3.wait.length d3)).set 2 (.int .i64 k3.batch)).set 3 (.int .i64 k3.every)).set 4 (.int .i64 k3.now)).set 5 (.slice E3 k3.heads.length f3)).set 6 (.slice F3 qt.length h3))
              have u9 := (((((((u5.far (h := g7) (by omega) 0 (.int .i64 k3.most)).far (h := g7) (by omega) 1 (.slice D3 k3.wait.length d3)).far (h := g7) (by omega) 2 (.int .i64 k3.batch)).far (h := g7) (by omega) 3 (.int .i64 k3.every)).far (h := g7) (by omega) 4 (.int .i64 k3.now)).far (h := g7) (by omega) 5 (.slice E3 k3.heads.length f3)).far (h := g7) (by omega) 6 (.slice F3 qt.length h3))
              have r9 := (((((((r5.far (h := g7) (by omega) 0 (.int .i64 k3.most)).far (h := g7) (by omega) 1 (.slice D3 k3.wait.length d3)).far (h := g7) (by omega) 2 (.int .i64 k3.batch)).far (h := g7) (by omega) 3 (.int .i64 k3.every)).far (h := g7) (by omega) 4 (.int .i64 k3.now)).far (h := g7) (by omega) 5 (.slice E3 k3.heads.length f3)).far (h := g7) (by omega) 6 (.slice F3 qt.length h3))
              have hO9 := (((((((hO5.set (g := g7) (by omega) 0 (.int .i64 k3.most)).set (g := g7) (by omega) 1 (.slice D3 k3.wait.length d3)).set (g := g7) (by omega) 2 (.int .i64 k3.batch)).set (g := g7) (by omega) 3 (.int .i64 k3.every)).set (g := g7) (by omega) 4 (.int .i64 k3.now)).set (g := g7) (by omega) 5 (.slice E3 k3.heads.length f3)).set (g := g7) (by omega) 6 (.slice F3 qt.length h3))
              have hb9 := (((((((hb5.setCell (p := ⟨g7, 0, none⟩) (by show w.heap.size ≤ g7; omega) (.int .i64 k3.most)).setCell (p := ⟨g7, 1, none⟩) (by show w.heap.size ≤ g7; omega) (.slice D3 k3.wait.length d3)).setCell (p := ⟨g7, 2, none⟩) (by show w.heap.size ≤ g7; omega) (.int .i64 k3.batch)).setCell (p := ⟨g7, 3, none⟩) (by show w.heap.size ≤ g7; omega) (.int .i64 k3.every)).setCell (p := ⟨g7, 4, none⟩) (by show w.heap.size ≤ g7; omega) (.int .i64 k3.now)).setCell (p := ⟨g7, 5, none⟩) (by show w.heap.size ≤ g7; omega) (.slice E3 k3.heads.length f3)).setCell (p := ⟨g7, 6, none⟩) (by show w.heap.size ≤ g7; omega) (.slice F3 qt.length h3))
              have HQT := Lib.hid hqt
              obtain ⟨a0, a1, a2, a3, a4, a5, a6⟩ := y5.get7
              obtain ⟨b0, b1, b2, b3, b4, b5, b6⟩ := x5.get7
              have f0 := x5.f 0 (by simp)
              have f1 := x5.f 1 (by simp)
              have f2' := x5.f 2 (by simp)
              have f3' := x5.f 3 (by simp)
              have f4 := x5.f 4 (by simp)
              have f5 := x5.f 5 (by simp)
              have f6 := x5.f 6 (by simp)
              clear x5 u5 r5 y5 hO5 hb5 hqt hgl hsm HN3 HN
              go_upto_region 10 with fail
              generalize ((((((((v4.alloc (.cells #[.int .i64 k3.most, .slice D3 k3.wait.length d3, .int .i64 k3.batch, .int .i64 k3.every, .int .i64 k3.now, .slice E3 k3.heads.length f3, .slice F3 qt.length h3] 28)).setCell ⟨g7, 0, none⟩ (.int .i64 k3.most)).setCell ⟨g7, 1, none⟩ (.slice D3 k3.wait.length d3)).setCell ⟨g7, 2, none⟩ (.int .i64 k3.batch)).setCell ⟨g7, 3, none⟩ (.int .i64 k3.every)).setCell ⟨g7, 4, none⟩ (.int .i64 k3.now)).setCell ⟨g7, 5, none⟩ (.slice E3 k3.heads.length f3)).setCell ⟨g7, 6, none⟩ (.slice F3 qt.length h3)) = w9 at *
              clear a0 a1 a2 a3 a4 a5 a6 b0 b1 b2 b3 b4 b5 b6 f0 f1 f2' f3' f4 f5 f6 hpg0 hpg1 cs
              go_wp2
              go_roundw
              case rel => exact ⟨j + 1, k3, D3, E3, F3, d3, f3, h3, qt, by omega, by go_num, ClSt.of HG3.out HE3.out HQT.out hO9 x9, HD3, HNW, u9, r9, hb9⟩
              case measure => simp [intOf]; omega
          · skip
            go_simp
            have hbA : Below wr.heap.size wr (wr.alloc (.cells #[.int .i64 0, .slice none 0 0, .int .i64 0, .int .i64 0, .int .i64 0, .slice none 0 0, .slice none 0 0] 28)).drew := bdrew (balloc (Below.refl _ _) _)
            refine hK.out _ _ ⟨⟨kept a0 hbA, kept a1 hbA, kept a2 hbA, kept a3 hbA, kept a4 hbA, kept a5 hbA, kept a6 hbA⟩, kept m0 hbA, kept m1 hbA, kept m2 hbA, kept m3 hbA⟩ (fun hHeldN => ?_)
            clear hK K hHeld
            have hHeld := hHeldN
            clear hHeldN
            refine wpAnyH_ready (rs := [5]) (by kernel_rfl) (by simp) ?_
            refine AllReadyH.cons rfl (fun K hK => ?_) (AllReadyH.nil)
            go_simp
            go_at_call 8
            refine (hAk _ (hst.ra.below hbA) (hst.ri.below hbA) (hst.rb.below hbA)).out.mono ?_
            rintro xx w3 ⟨rfl, hb3⟩
            have hbC : Below wr.heap.size wr w3 := below_chain hbA hb3
            have y3 := ((Bx.new wr _ rfl _ [.int .i64 0, .slice none 0 0, .int .i64 0, .int .i64 0, .int .i64 0, .slice none 0 0, .slice none 0 0] 28 rfl).drewN 1).below hb3
            obtain ⟨z0, z1, z2, z3, z4, z5, z6⟩ := y3.get7
            have zf0 := y3.f 0 (by simp)
            have zf1 := y3.f 1 (by simp)
            have zf2 := y3.f 2 (by simp)
            have zf3 := y3.f 3 (by simp)
            have zf4 := y3.f 4 (by simp)
            have zf5 := y3.f 5 (by simp)
            have zf6 := y3.f 6 (by simp)
            go_wp2_with fail
            refine hK.out _ _ ⟨⟨kept a0 hbC, kept a1 hbC, kept a2 hbC, kept a3 hbC, kept a4 hbC, kept a5 hbC, kept a6 hbC⟩, kept m0 hbC, kept m1 hbC, kept m2 hbC, kept m3 hbC⟩ (fun hHeldN => ?_)
            clear hK K hHeld
            have hHeld := hHeldN
            clear hHeldN
            refine wpAnyH_take (i := 6) (v := ?_) rfl (by kernel_rfl) (by kernel_rfl) (by kernel_rfl) (fun _ _ _ h => h) (Or.inl ⟨by rfl, ?_⟩) (by assumption) ?_
            rotate_left
            · intro wt hSt
              try dsimp only at hSt
              first | (go_simp; done) | (go_simp; with_reducible rfl)
            simp only [Act.put, List.setIfInBounds_toArray, List.set_cons_zero, List.set_cons_succ, List.getElem_toArray, List.getElem_cons_zero, List.getElem_cons_succ]
            refine wpAnyH_take (i := 7) (v := ?_) rfl (by kernel_rfl) (by kernel_rfl) (by kernel_rfl) (fun _ _ _ h => h) (Or.inl ⟨by rfl, ?_⟩) (by assumption) ?_
            rotate_left
            · intro wt hSt
              try dsimp only at hSt
              first | (go_simp; done) | (go_simp; with_reducible rfl)
            simp only [Act.put, List.setIfInBounds_toArray, List.set_cons_zero, List.set_cons_succ, List.getElem_toArray, List.getElem_cons_zero, List.getElem_cons_succ]
            refine wpAnyH_take (i := 8) (v := ?_) rfl (by kernel_rfl) (by kernel_rfl) (by kernel_rfl) (fun _ _ _ h => h) (Or.inl ⟨by rfl, ?_⟩) (by assumption) ?_
            rotate_left
            · intro wt hSt
              try dsimp only at hSt
              first | (go_simp; done) | (go_simp; with_reducible rfl)
            simp only [Act.put, List.setIfInBounds_toArray, List.set_cons_zero, List.set_cons_succ, List.getElem_toArray, List.getElem_cons_zero, List.getElem_cons_succ]
            refine wpAnyH_take (i := 9) (v := ?_) rfl (by kernel_rfl) (by kernel_rfl) (by kernel_rfl) (fun _ _ _ h => h) (Or.inl ⟨by rfl, ?_⟩) (by assumption) ?_
            rotate_left
            · intro wt hSt
              try dsimp only at hSt
              first | (go_simp; done) | (go_simp; with_reducible rfl)
            simp only [Act.put, List.setIfInBounds_toArray, List.set_cons_zero, List.set_cons_succ, List.getElem_toArray, List.getElem_cons_zero, List.getElem_cons_succ]
            refine wpAnyH_ready (rs := [11]) (by kernel_rfl) (by simp) ?_
            refine AllReadyH.cons rfl (fun K hK => ?_) (AllReadyH.nil)
            go_simp
            have hbE : Below wr.heap.size wr (((((((w3.setCell ⟨wr.heap.size, 0, none⟩ (.int .i64 0)).setCell ⟨wr.heap.size, 1, none⟩ (.slice none 0 0)).setCell ⟨wr.heap.size, 2, none⟩ (.int .i64 0)).setCell ⟨wr.heap.size, 3, none⟩ (.int .i64 0)).setCell ⟨wr.heap.size, 4, none⟩ (.int .i64 0)).setCell ⟨wr.heap.size, 5, none⟩ (.slice none 0 0)).setCell ⟨wr.heap.size, 6, none⟩ (.slice none 0 0)) := (((((((hbC.setCell (p := ⟨wr.heap.size, 0, none⟩) (Nat.le_refl _) (.int .i64 0)).setCell (p := ⟨wr.heap.size, 1, none⟩) (Nat.le_refl _) (.slice none 0 0)).setCell (p := ⟨wr.heap.size, 2, none⟩) (Nat.le_refl _) (.int .i64 0)).setCell (p := ⟨wr.heap.size, 3, none⟩) (Nat.le_refl _) (.int .i64 0)).setCell (p := ⟨wr.heap.size, 4, none⟩) (Nat.le_refl _) (.int .i64 0)).setCell (p := ⟨wr.heap.size, 5, none⟩) (Nat.le_refl _) (.slice none 0 0)).setCell (p := ⟨wr.heap.size, 6, none⟩) (Nat.le_refl _) (.slice none 0 0))
            refine hK.out _ _ ⟨⟨kept a0 hbE, kept a1 hbE, kept a2 hbE, kept a3 hbE, kept a4 hbE, kept a5 hbE, kept a6 hbE⟩, kept m0 hbE, kept m1 hbE, kept m2 hbE, kept m3 hbE⟩ (fun hHeldN => ?_)
            clear hK K hHeld
            have hHeld := hHeldN
            clear hHeldN
            refine wpAnyH_take (i := 12) (v := ?_) rfl (by kernel_rfl) (by kernel_rfl) (by kernel_rfl) (fun _ _ _ h => h) (Or.inl ⟨by rfl, ?_⟩) (by assumption) ?_
            rotate_left
            · intro wt hSt
              try dsimp only at hSt
              first | (go_simp; done) | (go_simp; with_reducible rfl)
            simp only [Act.put, List.setIfInBounds_toArray, List.set_cons_zero, List.set_cons_succ, List.getElem_toArray, List.getElem_cons_zero, List.getElem_cons_succ]
            refine wpAnyH_take (i := 13) (v := ?_) rfl (by kernel_rfl) (by kernel_rfl) (by kernel_rfl) (fun _ _ _ h => h) (Or.inl ⟨by rfl, ?_⟩) (by assumption) ?_
            rotate_left
            · intro wt hSt
              try dsimp only at hSt
              first | (go_simp; done) | (go_simp; with_reducible rfl)
            simp only [Act.put, List.setIfInBounds_toArray, List.set_cons_zero, List.set_cons_succ, List.getElem_toArray, List.getElem_cons_zero, List.getElem_cons_succ]
            refine wpAnyH_done (by kernel_rfl) ?_ _
            have hst' := hst.below hbE
            have hx0' := hx0.below hbE
            have hx1' := hx1.below hbE
            have hbw' := below_chain hbw hbE
            generalize (((((((w3.setCell ⟨wr.heap.size, 0, none⟩ (.int .i64 0)).setCell ⟨wr.heap.size, 1, none⟩ (.slice none 0 0)).setCell ⟨wr.heap.size, 2, none⟩ (.int .i64 0)).setCell ⟨wr.heap.size, 3, none⟩ (.int .i64 0)).setCell ⟨wr.heap.size, 4, none⟩ (.int .i64 0)).setCell ⟨wr.heap.size, 5, none⟩ (.slice none 0 0)).setCell ⟨wr.heap.size, 6, none⟩ (.slice none 0 0)) = w9' at *
            clear hHeld hst hx0 hx1 hbw a0 a1 a2 a3 a4 a5 a6 m0 m1 m2 m3 hbC hb3 hAk y3 z0 z1 z2 z3 z4 z5 z6 zf0 zf1 zf2 zf3 zf4 zf5 zf6 hbA
            have hst := hst'
            have hx0 := hx0'
            have hx1 := hx1'
            have hbw := hbw'
            clear hst' hx0' hx1' hbw' hbE
            obtain ⟨⟨k3, b3'⟩, hk3⟩ : ∃ u, ckTick k' = u := ⟨_, rfl⟩
            have HG3 : Hid (CkGood k3) := by show CkGood _; have := ckTick_good hst.good; rw [hk3] at this; exact this
            have HE3 : Hid (CkExt k k3) := by show CkExt _ _; have := hst.ext.tick; rw [hk3] at this; exact this
            have HD3 : Hid ((∀ x ∈ k.wait ++ s, x.1 ≠ na) → DueInv k.books.length (na, va, nu, tg) due k3) := fun hn => by have := (HD.out hn).tick hst.good hst.ext.bl; rw [hk3] at this; exact this
            have HN3 : Hid (k3.now = k'.now ∨ k3.now = k'.now + 1) := by show _ ∨ _; have := ckTick_now k'; rw [hk3] at this; exact this
            have hTk := fun (w : World) g1 g2 g3 => Lib.hid (clerkTickG k' A' I' B' c' d' e' qs hst.bk w hst.good g1 g2 g3 k3 b3' hk3)
            obtain ⟨a0, a1, a2, a3, a4, a5, a6⟩ := hst.bx.get7
            have hgl := hst.bx.lt
            clear hk3
            go_wp2_with fail
            refine (hTk _ hst.ra hst.ri hst.rb).out.mono ?_
            rintro xx v4 ⟨D3, d3, E3, f3, F3, h3, qt, rfl, hqt, hO4, hb4⟩
            have hb45 := balloc hb4 (.cells #[.int .i64 k3.most, .slice D3 k3.wait.length d3, .int .i64 k3.batch, .int .i64 k3.every, .int .i64 k3.now, .slice E3 k3.heads.length f3, .slice F3 qt.length h3] 28)
            have x5 := hst.bx.below hb45
            have u5 := hx0.below hb45
            have r5 := hx1.below hb45
            have y5 := Bx.new v4 _ rfl _ [.int .i64 k3.most, .slice D3 k3.wait.length d3, .int .i64 k3.batch, .int .i64 k3.every, .int .i64 k3.now, .slice E3 k3.heads.length f3, .slice F3 qt.length h3] 28 rfl
            have hO5 := hO4.below (balloc (Below.refl _ _) (.cells #[.int .i64 k3.most, .slice D3 k3.wait.length d3, .int .i64 k3.batch, .int .i64 k3.every, .int .i64 k3.now, .slice E3 k3.heads.length f3, .slice F3 qt.length h3] 28))
            have hb5 := below_chain hbw hb45
            have hpg0 := HP0.out
            have hpg1 := HP1.out
            clear a0 a1 a2 a3 a4 a5 a6 hTk hO4 hb4 hb45 hst hx0 hx1 hbw HD
            by_cases hsm : k3.now = k'.now
            · have cs : (k3.now == k'.now) = true := beq_iff_eq.2 hsm
              obtain ⟨a0, a1, a2, a3, a4, a5, a6⟩ := y5.get7
              obtain ⟨b0, b1, b2, b3, b4, b5, b6⟩ := x5.get7
              clear hsm
              go_wp2
              go_ret
              exact ⟨rfl, hb5⟩
            · have cs : (k3.now == k'.now) = false := beq_eq_false_iff_ne.2 hsm
              have HNW : Hid (k3.now = k.now + ((j + 1 : Nat) : Int)) := by
                show _ = _
                have h1 := HN3.out
                have h2 := HN.out
                rcases h1 with h1 | h1
                · exact absurd h1 hsm
                · rw [h1, h2]; omega
              have x9 : Bx ((((((((v4.alloc (.cells #[.int .i64 k3.most, .slice D3 k3.wait.length d3, .int .i64 k3.batch, .int .i64 k3.every, .int .i64 k3.now, .slice E3 k3.heads.length f3, .slice F3 qt.length h3] 28)).setCell ⟨g7, 0, none⟩ (.int .i64 k3.most)).setCell ⟨g7, 1, none⟩ (.slice D3 k3.wait.length d3)).setCell ⟨g7, 2, none⟩ (.int .i64 k3.batch)).setCell ⟨g7, 3, none⟩ (.int .i64 k3.every)).setCell ⟨g7, 4, none⟩ (.int .i64 k3.now)).setCell ⟨g7, 5, none⟩ (.slice E3 k3.heads.length f3)).setCell ⟨g7, 6, none⟩ (.slice F3 qt.length h3)) (g7) [.int .i64 k3.most, .slice D3 k3.wait.length d3, .int .i64 k3.batch, .int .i64 k3.every, .int .i64 k3.now, .slice E3 k3.heads.length f3, .slice F3 qt.length h3] := (((((((x5.set 0 (.int .i64 k3.most)).set 1 (.slice D3 k3.wait.length d3)).set 2 (.int .i64 k3.batch)).set 3 (.int .i64 k3.every)).set 4 (.int .i64 k3.now)).set 5 (.slice E3 k3.heads.length f3)).set 6 (.slice F3 qt.length h3))
              have u9 := (((((((u5.far (h := g7) (by omega) 0 (.int .i64 k3.most)).far (h := g7) (by omega) 1 (.slice D3 k3.wait.length d3)).far (h := g7) (by omega) 2 (.int .i64 k3.batch)).far (h := g7) (by omega) 3 (.int .i64 k3.every)).far (h := g7) (by omega) 4 (.int .i64 k3.now)).far (h := g7) (by omega) 5 (.slice E3 k3.heads.length f3)).far (h := g7) (by omega) 6 (.slice F3 qt.length h3))
              have r9 := (((((((r5.far (h := g7) (by omega) 0 (.int .i64 k3.most)).far (h := g7) (by omega) 1 (.slice D3 k3.wait.length d3)).far (h := g7) (by omega) 2 (.int .i64 k3.batch)).far (h := g7) (by omega) 3 (.int .i64 k3.every)).far (h := g7) (by omega) 4 (.int .i64 k3.now)).far (h := g7) (by omega) 5 (.slice E3 k3.heads.length f3)).far (h := g7) (by omega) 6 (.slice F3 qt.length h3))
              have hO9 := (((((((hO5.set (g := g7) (by omega) 0 (.int .i64 k3.most)).set (g := g7) (by omega) 1 (.slice D3 k3.wait.length d3)).set (g := g7) (by omega) 2 (.int .i64 k3.batch)).set (g := g7) (by omega) 3 (.int .i64 k3.every)).set (g := g7) (by omega) 4 (.int .i64 k3.now)).set (g := g7) (by omega) 5 (.slice E3 k3.heads.length f3)).set (g := g7) (by omega) 6 (.slice F3 qt.length h3))
              have hb9 := (((((((hb5.setCell (p := ⟨g7, 0, none⟩) (by show w.heap.size ≤ g7; omega) (.int .i64 k3.most)).setCell (p := ⟨g7, 1, none⟩) (by show w.heap.size ≤ g7; omega) (.slice D3 k3.wait.length d3)).setCell (p := ⟨g7, 2, none⟩) (by show w.heap.size ≤ g7; omega) (.int .i64 k3.batch)).setCell (p := ⟨g7, 3, none⟩) (by show w.heap.size ≤ g7; omega) (.int .i64 k3.every)).setCell (p := ⟨g7, 4, none⟩) (by show w.heap.size ≤ g7; omega) (.int .i64 k3.now)).setCell (p := ⟨g7, 5, none⟩) (by show w.heap.size ≤ g7; omega) (.slice E3 k3.heads.length f3)).setCell (p := ⟨g7, 6, none⟩) (by show w.heap.size ≤ g7; omega) (.slice F3 qt.length h3))
              have HQT := Lib.hid hqt
              obtain ⟨a0, a1, a2, a3, a4, a5, a6⟩ := y5.get7
              obtain ⟨b0, b1, b2, b3, b4, b5, b6⟩ := x5.get7
              have f0 := x5.f 0 (by simp)
              have f1 := x5.f 1 (by simp)
              have f2' := x5.f 2 (by simp)
              have f3' := x5.f 3 (by simp)
              have f4 := x5.f 4 (by simp)
              have f5 := x5.f 5 (by simp)
              have f6 := x5.f 6 (by simp)
              clear x5 u5 r5 y5 hO5 hb5 hqt hgl hsm HN3 HN
              go_upto_region 10 with fail
              generalize ((((((((v4.alloc (.cells #[.int .i64 k3.most, .slice D3 k3.wait.length d3, .int .i64 k3.batch, .int .i64 k3.every, .int .i64 k3.now, .slice E3 k3.heads.length f3, .slice F3 qt.length h3] 28)).setCell ⟨g7, 0, none⟩ (.int .i64 k3.most)).setCell ⟨g7, 1, none⟩ (.slice D3 k3.wait.length d3)).setCell ⟨g7, 2, none⟩ (.int .i64 k3.batch)).setCell ⟨g7, 3, none⟩ (.int .i64 k3.every)).setCell ⟨g7, 4, none⟩ (.int .i64 k3.now)).setCell ⟨g7, 5, none⟩ (.slice E3 k3.heads.length f3)).setCell ⟨g7, 6, none⟩ (.slice F3 qt.length h3)) = w9 at *
              clear a0 a1 a2 a3 a4 a5 a6 b0 b1 b2 b3 b4 b5 b6 f0 f1 f2' f3' f4 f5 f6 hpg0 hpg1 cs
              go_wp2
              go_roundw
              case rel => exact ⟨j + 1, k3, D3, E3, F3, d3, f3, h3, qt, by omega, by go_num, ClSt.of HG3.out HE3.out HQT.out hO9 x9, HD3, HNW, u9, r9, hb9⟩
              case measure => simp [intOf]; omega
        case pos =>
          subst h0
          obtain ⟨k2, hk2⟩ : ∃ k2, ckAsked k' (nb, vb, nub, tgb) = k2 := ⟨_, rfl⟩
          have HG2 : Hid (CkGood k2) := by show CkGood _; rw [← hk2]; exact ckAsked_good hst.good hr
          have HE2 : Hid (CkExt k k2) := by show CkExt _ _; rw [← hk2]; exact hst.ext.asked _
          have HD2 : Hid ((∀ x ∈ k.wait ++ s, x.1 ≠ na) → DueInv k.books.length (na, va, nu, tg) due k2) := fun hn => by rw [← hk2]; exact (HD.out hn).asked (HNE.out hn)
          have HN2 : Hid (k2.now = k.now + (j : Int)) := by show _ = _; rw [← hk2]; exact HN.out
          obtain ⟨due2, hdue2⟩ : ∃ due2, dueOf k' = due2 := ⟨_, rfl⟩
          have hAk := fun (w : World) h1 h2 h3 => Lib.hid (clerkAskG_ok k' A' I' B' c' d' e' qs hst.bk nb vb nub tgb w hx.1.1 hx.1.2 hst.good h1 h2 h3 hr k2 hk2 due2 hdue2)
          clear hr hk2 hdue2 HN
          go_wp2
          refine wp_region_held_drew (S := fun W => (W.cell? ⟨g7, 0, none⟩ = some (.int .i64 k'.most) ∧ W.cell? ⟨g7, 1, none⟩ = some (.slice A' k'.wait.length c') ∧ W.cell? ⟨g7, 2, none⟩ = some (.int .i64 k'.batch) ∧ W.cell? ⟨g7, 3, none⟩ = some (.int .i64 k'.every) ∧ W.cell? ⟨g7, 4, none⟩ = some (.int .i64 k'.now) ∧ W.cell? ⟨g7, 5, none⟩ = some (.slice I' k'.heads.length d') ∧ W.cell? ⟨g7, 6, none⟩ = some (.slice B' qs.length e')) ∧ W.cell? ⟨gm, om + j * 4, none⟩ = some (.string (S nb)) ∧ W.cell? ⟨gm, om + j * 4 + 1, none⟩ = some (.string (S vb)) ∧ W.cell? ⟨gm, om + j * 4 + 2, none⟩ = some (.int .u64 (nub : Int)) ∧ W.cell? ⟨gm, om + j * 4 + 3, none⟩ = some (.int .u64 (tgb : Int))) (by kernel_rfl) ⟨⟨a0, a1, a2, a3, a4, a5, a6⟩, m0, m1, m2, m3⟩ (fun hHeld => ?_)
          refine wpAnyH_take (i := 0) (v := ?_) rfl (by kernel_rfl) (by kernel_rfl) (by kernel_rfl) (fun _ _ _ h => h) (Or.inl ⟨by rfl, ?_⟩) (by assumption) ?_
          rotate_left
          · intro wt hSt
            try dsimp only at hSt
            first | (go_simp; done) | (go_simp; with_reducible rfl)
          simp only [Act.put, List.setIfInBounds_toArray, List.set_cons_zero, List.set_cons_succ, List.getElem_toArray, List.getElem_cons_zero]
          refine wpAnyH_take (i := 1) (v := ?_) rfl (by kernel_rfl) (by kernel_rfl) (by kernel_rfl) (fun _ _ _ h => h) (Or.inl ⟨by rfl, ?_⟩) (by assumption) ?_
          rotate_left
          · intro wt hSt
            try dsimp only at hSt
            first | (go_simp; done) | (go_simp; with_reducible rfl)
          simp only [Act.put, List.setIfInBounds_toArray, List.set_cons_zero, List.set_cons_succ, List.getElem_toArray, List.getElem_cons_zero, List.getElem_cons_succ]
          refine wpAnyH_take (i := 2) (v := ?_) rfl (by kernel_rfl) (by kernel_rfl) (by kernel_rfl) (fun _ _ _ h => h) (Or.inl ⟨by rfl, ?_⟩) (by assumption) ?_
          rotate_left
          · intro wt hSt
            try dsimp only at hSt
            first | (go_simp; done) | (go_simp; with_reducible rfl)
          simp only [Act.put, List.setIfInBounds_toArray, List.set_cons_zero, List.set_cons_succ, List.getElem_toArray, List.getElem_cons_zero, List.getElem_cons_succ]
          refine wpAnyH_take (i := 3) (v := ?_) rfl (by kernel_rfl) (by kernel_rfl) (by kernel_rfl) (fun _ _ _ h => h) (Or.inl ⟨by rfl, ?_⟩) (by assumption) ?_
          rotate_left
          · intro wt hSt
            try dsimp only at hSt
            first | (go_simp; done) | (go_simp; with_reducible rfl)
          simp only [Act.put, List.setIfInBounds_toArray, List.set_cons_zero, List.set_cons_succ, List.getElem_toArray, List.getElem_cons_zero, List.getElem_cons_succ]
          refine wpAnyH_take (i := 4) (v := ?_) rfl (by kernel_rfl) (by kernel_rfl) (by kernel_rfl) (fun _ _ _ h => h) (Or.inl ⟨by rfl, ?_⟩) (by assumption) ?_
          rotate_left
          · intro wt hSt
            try dsimp only at hSt
            first | (go_simp; done) | (go_simp; with_reducible rfl)
          simp only [Act.put, List.setIfInBounds_toArray, List.set_cons_zero, List.set_cons_succ, List.getElem_toArray, List.getElem_cons_zero, List.getElem_cons_succ]
          refine wpAnyH_ready (rs := [5, 10]) (by kernel_rfl) (by simp) ?_
          refine AllReadyH.cons rfl (fun K hK => ?_) (AllReadyH.cons rfl (fun K hK => ?_) (AllReadyH.nil))
          · skip
            go_simp
            go_at_call 8
            refine (hAk _ (hst.ra.drewN 1) (hst.ri.drewN 1) (hst.rb.below (bdrew (Below.refl _ _)))).out.mono ?_
            rintro xx w3 ⟨D2, d2, E2, f2, F2, h2, qz, rfl, hqz, hO3, hb3⟩
            have hbC : Below wr.heap.size wr w3 := below_chain (bdrew (Below.refl _ _)) hb3
            go_wp2_with fail
            refine hK.out _ _ ⟨⟨kept a0 hbC, kept a1 hbC, kept a2 hbC, kept a3 hbC, kept a4 hbC, kept a5 hbC, kept a6 hbC⟩, kept m0 hbC, kept m1 hbC, kept m2 hbC, kept m3 hbC⟩ (fun hHeldN => ?_)
            clear hK K hHeld
            have hHeld := hHeldN
            clear hHeldN
            refine wpAnyH_take (i := 6) (v := ?_) rfl (by kernel_rfl) (by kernel_rfl) (by kernel_rfl) (fun _ _ _ h => h) (Or.inl ⟨by rfl, ?_⟩) (by assumption) ?_
            rotate_left
            · intro wt hSt
              try dsimp only at hSt
              first | (go_simp; done) | (go_simp; with_reducible rfl)
            simp only [Act.put, List.setIfInBounds_toArray, List.set_cons_zero, List.set_cons_succ, List.getElem_toArray, List.getElem_cons_zero, List.getElem_cons_succ]
            refine wpAnyH_take (i := 7) (v := ?_) rfl (by kernel_rfl) (by kernel_rfl) (by kernel_rfl) (fun _ _ _ h => h) (Or.inl ⟨by rfl, ?_⟩) (by assumption) ?_
            rotate_left
            · intro wt hSt
              try dsimp only at hSt
              first | (go_simp; done) | (go_simp; with_reducible rfl)
            simp only [Act.put, List.setIfInBounds_toArray, List.set_cons_zero, List.set_cons_succ, List.getElem_toArray, List.getElem_cons_zero, List.getElem_cons_succ]
            refine wpAnyH_take (i := 8) (v := ?_) rfl (by kernel_rfl) (by kernel_rfl) (by kernel_rfl) (fun _ _ _ h => h) (Or.inl ⟨by rfl, ?_⟩) (by assumption) ?_
            rotate_left
            · intro wt hSt
              try dsimp only at hSt
              first | (go_simp; done) | (go_simp; with_reducible rfl)
            simp only [Act.put, List.setIfInBounds_toArray, List.set_cons_zero, List.set_cons_succ, List.getElem_toArray, List.getElem_cons_zero, List.getElem_cons_succ]
            refine wpAnyH_take (i := 9) (v := ?_) rfl (by kernel_rfl) (by kernel_rfl) (by kernel_rfl) (fun _ _ _ h => h) (Or.inl ⟨by rfl, ?_⟩) (by assumption) ?_
            rotate_left
            · intro wt hSt
              try dsimp only at hSt
              first | (go_simp; done) | (go_simp; with_reducible rfl)
            simp only [Act.put, List.setIfInBounds_toArray, List.set_cons_zero, List.set_cons_succ, List.getElem_toArray, List.getElem_cons_zero, List.getElem_cons_succ]
            refine wpAnyH_ready (rs := [10]) (by kernel_rfl) (by simp) ?_
            refine AllReadyH.cons rfl (fun K hK => ?_) (AllReadyH.nil)
            go_simp
            have hbD : Below wr.heap.size wr (w3.alloc (.cells #[.int .i64 0, .slice none 0 0, .int .i64 0, .int .i64 0, .int .i64 0, .slice none 0 0, .slice none 0 0] 28)) := balloc hbC _
            refine hK.out _ _ ⟨⟨kept a0 hbD, kept a1 hbD, kept a2 hbD, kept a3 hbD, kept a4 hbD, kept a5 hbD, kept a6 hbD⟩, kept m0 hbD, kept m1 hbD, kept m2 hbD, kept m3 hbD⟩ (fun hHeldN => ?_)
            clear hK K hHeld
            have hHeld := hHeldN
            clear hHeldN
            refine wpAnyH_ready (rs := [11]) (by kernel_rfl) (by simp) ?_
            refine AllReadyH.cons rfl (fun K hK => ?_) (AllReadyH.nil)
            go_simp
            have hbE : Below wr.heap.size wr (w3.alloc (.cells #[.int .i64 k2.most, .slice D2 k2.wait.length d2, .int .i64 k2.batch, .int .i64 k2.every, .int .i64 k2.now, .slice E2 k2.heads.length f2, .slice F2 qz.length h2] 28)) := balloc hbC _
            refine hK.out _ _ ⟨⟨kept a0 hbE, kept a1 hbE, kept a2 hbE, kept a3 hbE, kept a4 hbE, kept a5 hbE, kept a6 hbE⟩, kept m0 hbE, kept m1 hbE, kept m2 hbE, kept m3 hbE⟩ (fun hHeldN => ?_)
            clear hK K hHeld
            have hHeld := hHeldN
            clear hHeldN
            refine wpAnyH_take (i := 12) (v := ?_) rfl (by kernel_rfl) (by kernel_rfl) (by kernel_rfl) (fun _ _ _ h => h) (Or.inl ⟨by rfl, ?_⟩) (by assumption) ?_
            rotate_left
            · intro wt hSt
              try dsimp only at hSt
              first | (go_simp; done) | (go_simp; with_reducible rfl)
            simp only [Act.put, List.setIfInBounds_toArray, List.set_cons_zero, List.set_cons_succ, List.getElem_toArray, List.getElem_cons_zero, List.getElem_cons_succ]
            refine wpAnyH_take (i := 13) (v := ?_) rfl (by kernel_rfl) (by kernel_rfl) (by kernel_rfl) (fun _ _ _ h => h) (Or.inl ⟨by rfl, ?_⟩) (by assumption) ?_
            rotate_left
            · intro wt hSt
              try dsimp only at hSt
              first | (go_simp; done) | (go_simp; with_reducible rfl)
            simp only [Act.put, List.setIfInBounds_toArray, List.set_cons_zero, List.set_cons_succ, List.getElem_toArray, List.getElem_cons_zero, List.getElem_cons_succ]
            refine wpAnyH_done (by kernel_rfl) ?_ _
            have hst' := hst.below hbE
            have hx0' := hx0.below hbE
            have hx1' := hx1.below hbE
            have hbw' := below_chain hbw hbE
            have y9 := Bx.new w3 _ rfl _ [.int .i64 k2.most, .slice D2 k2.wait.length d2, .int .i64 k2.batch, .int .i64 k2.every, .int .i64 k2.now, .slice E2 k2.heads.length f2, .slice F2 qz.length h2] 28 rfl
            have hO9 := (hO3.below (balloc (Below.refl _ _) (.cells #[.int .i64 k2.most, .slice D2 k2.wait.length d2, .int .i64 k2.batch, .int .i64 k2.every, .int .i64 k2.now, .slice E2 k2.heads.length f2, .slice F2 qz.length h2] 28))).mono (show g7 + 1 ≤ _ from hst.bx.lt)
            generalize (w3.alloc (.cells #[.int .i64 k2.most, .slice D2 k2.wait.length d2, .int .i64 k2.batch, .int .i64 k2.every, .int .i64 k2.now, .slice E2 k2.heads.length f2, .slice F2 qz.length h2] 28)) = w9' at *
            clear hHeld hst hx0 hx1 hbw a0 a1 a2 a3 a4 a5 a6 m0 m1 m2 m3 hbC hb3 hAk hO3 hbD
            obtain ⟨y0, y1, y2, y3, y4, y5, y6⟩ := y9.get7
            have x9a := hst'.bx
            obtain ⟨b0, b1, b2, b3, b4, b5, b6⟩ := x9a.get7
            have f0 := x9a.f 0 (by simp)
            have f1 := x9a.f 1 (by simp)
            have f2' := x9a.f 2 (by simp)
            have f3 := x9a.f 3 (by simp)
            have f4 := x9a.f 4 (by simp)
            have f5 := x9a.f 5 (by simp)
            have f6 := x9a.f 6 (by simp)
            have hpg0 := HP0.out
            have hpg1 := HP1.out
            have x9b : Bx (((((((w9'.setCell ⟨g7, 0, none⟩ (.int .i64 k2.most)).setCell ⟨g7, 1, none⟩ (.slice D2 k2.wait.length d2)).setCell ⟨g7, 2, none⟩ (.int .i64 k2.batch)).setCell ⟨g7, 3, none⟩ (.int .i64 k2.every)).setCell ⟨g7, 4, none⟩ (.int .i64 k2.now)).setCell ⟨g7, 5, none⟩ (.slice E2 k2.heads.length f2)).setCell ⟨g7, 6, none⟩ (.slice F2 qz.length h2)) (g7) [.int .i64 k2.most, .slice D2 k2.wait.length d2, .int .i64 k2.batch, .int .i64 k2.every, .int .i64 k2.now, .slice E2 k2.heads.length f2, .slice F2 qz.length h2] := (((((((x9a.set 0 (.int .i64 k2.most)).set 1 (.slice D2 k2.wait.length d2)).set 2 (.int .i64 k2.batch)).set 3 (.int .i64 k2.every)).set 4 (.int .i64 k2.now)).set 5 (.slice E2 k2.heads.length f2)).set 6 (.slice F2 qz.length h2))
            have hx0b := (((((((hx0'.far (h := g7) (by omega) 0 (.int .i64 k2.most)).far (h := g7) (by omega) 1 (.slice D2 k2.wait.length d2)).far (h := g7) (by omega) 2 (.int .i64 k2.batch)).far (h := g7) (by omega) 3 (.int .i64 k2.every)).far (h := g7) (by omega) 4 (.int .i64 k2.now)).far (h := g7) (by omega) 5 (.slice E2 k2.heads.length f2)).far (h := g7) (by omega) 6 (.slice F2 qz.length h2))
            have hx1b := (((((((hx1'.far (h := g7) (by omega) 0 (.int .i64 k2.most)).far (h := g7) (by omega) 1 (.slice D2 k2.wait.length d2)).far (h := g7) (by omega) 2 (.int .i64 k2.batch)).far (h := g7) (by omega) 3 (.int .i64 k2.every)).far (h := g7) (by omega) 4 (.int .i64 k2.now)).far (h := g7) (by omega) 5 (.slice E2 k2.heads.length f2)).far (h := g7) (by omega) 6 (.slice F2 qz.length h2))
            have hO9b := (((((((hO9.set (g := g7) (by omega) 0 (.int .i64 k2.most)).set (g := g7) (by omega) 1 (.slice D2 k2.wait.length d2)).set (g := g7) (by omega) 2 (.int .i64 k2.batch)).set (g := g7) (by omega) 3 (.int .i64 k2.every)).set (g := g7) (by omega) 4 (.int .i64 k2.now)).set (g := g7) (by omega) 5 (.slice E2 k2.heads.length f2)).set (g := g7) (by omega) 6 (.slice F2 qz.length h2))
            have hbwb := (((((((hbw'.setCell (p := ⟨g7, 0, none⟩) (by show w.heap.size ≤ g7; omega) (.int .i64 k2.most)).setCell (p := ⟨g7, 1, none⟩) (by show w.heap.size ≤ g7; omega) (.slice D2 k2.wait.length d2)).setCell (p := ⟨g7, 2, none⟩) (by show w.heap.size ≤ g7; omega) (.int .i64 k2.batch)).setCell (p := ⟨g7, 3, none⟩) (by show w.heap.size ≤ g7; omega) (.int .i64 k2.every)).setCell (p := ⟨g7, 4, none⟩) (by show w.heap.size ≤ g7; omega) (.int .i64 k2.now)).setCell (p := ⟨g7, 5, none⟩) (by show w.heap.size ≤ g7; omega) (.slice E2 k2.heads.length f2)).setCell (p := ⟨g7, 6, none⟩) (by show w.heap.size ≤ g7; omega) (.slice F2 qz.length h2))
            have HQZ := Lib.hid hqz
            clear y9 x9a hst' hx0' hx1' hbw' hO9 hbE hqz HD
            go_upto_region 15 with fail
            generalize (((((((w9'.setCell ⟨g7, 0, none⟩ (.int .i64 k2.most)).setCell ⟨g7, 1, none⟩ (.slice D2 k2.wait.length d2)).setCell ⟨g7, 2, none⟩ (.int .i64 k2.batch)).setCell ⟨g7, 3, none⟩ (.int .i64 k2.every)).setCell ⟨g7, 4, none⟩ (.int .i64 k2.now)).setCell ⟨g7, 5, none⟩ (.slice E2 k2.heads.length f2)).setCell ⟨g7, 6, none⟩ (.slice F2 qz.length h2)) = w8 at *
            clear y0 y1 y2 y3 y4 y5 y6 b0 b1 b2 b3 b4 b5 b6 f0 f1 f2' f3 f4 f5 f6 hpg0 hpg1
            have hst := ClSt.of HG2.out HE2.out HQZ.out hO9b x9b
            have hx0 := hx0b
            have hx1 := hx1b
            have hbw := hbwb
            have HD := HD2
            have HN := HN2
            clear hO9b x9b hx0b hx1b hbwb HD2 HN2 HG2 HE2 HQZ
            obtain ⟨⟨k3, b3'⟩, hk3⟩ : ∃ u, ckTick k2 = u := ⟨_, rfl⟩
            have HG3 : Hid (CkGood k3) := by show CkGood _; have := ckTick_good hst.good; rw [hk3] at this; exact this
            have HE3 : Hid (CkExt k k3) := by show CkExt _ _; have := hst.ext.tick; rw [hk3] at this; exact this
            have HD3 : Hid ((∀ x ∈ k.wait ++ s, x.1 ≠ na) → DueInv k.books.length (na, va, nu, tg) due k3) := fun hn => by have := (HD.out hn).tick hst.good hst.ext.bl; rw [hk3] at this; exact this
            have HN3 : Hid (k3.now = k2.now ∨ k3.now = k2.now + 1) := by show _ ∨ _; have := ckTick_now k2; rw [hk3] at this; exact this
            have hTk := fun (w : World) g1 g2 g3 => Lib.hid (clerkTickG k2 D2 E2 F2 d2 f2 h2 qz hst.bk w hst.good g1 g2 g3 k3 b3' hk3)
            obtain ⟨a0, a1, a2, a3, a4, a5, a6⟩ := hst.bx.get7
            have hgl := hst.bx.lt
            clear hk3
            go_wp2_with fail
            refine (hTk _ hst.ra hst.ri hst.rb).out.mono ?_
            rintro xx v4 ⟨D3, d3, E3, f3, F3, h3, qt, rfl, hqt, hO4, hb4⟩
            have hb45 := balloc hb4 (.cells #[.int .i64 k3.most, .slice D3 k3.wait.length d3, .int .i64 k3.batch, .int .i64 k3.every, .int .i64 k3.now, .slice E3 k3.heads.length f3, .slice F3 qt.length h3] 28)
            have x5 := hst.bx.below hb45
            have u5 := hx0.below hb45
            have r5 := hx1.below hb45
            have y5 := Bx.new v4 _ rfl _ [.int .i64 k3.most, .slice D3 k3.wait.length d3, .int .i64 k3.batch, .int .i64 k3.every, .int .i64 k3.now, .slice E3 k3.heads.length f3, .slice F3 qt.length h3] 28 rfl
            have hO5 := hO4.below (balloc (Below.refl _ _) (.cells #[.int .i64 k3.most, .slice D3 k3.wait.length d3, .int .i64 k3.batch, .int .i64 k3.every, .int .i64 k3.now, .slice E3 k3.heads.length f3, .slice F3 qt.length h3] 28))
            have hb5 := below_chain hbw hb45
            have hpg0 := HP0.out
            have hpg1 := HP1.out
            clear a0 a1 a2 a3 a4 a5 a6 hTk hO4 hb4 hb45 hst hx0 hx1 hbw HD
            by_cases hsm : k3.now = k2.now
            · have cs : (k3.now == k2.now) = true := beq_iff_eq.2 hsm
              obtain ⟨a0, a1, a2, a3, a4, a5, a6⟩ := y5.get7
              obtain ⟨b0, b1, b2, b3, b4, b5, b6⟩ := x5.get7
              clear hsm
              go_wp2
              go_ret
              exact ⟨rfl, hb5⟩
            · have cs : (k3.now == k2.now) = false := beq_eq_false_iff_ne.2 hsm
              have HNW : Hid (k3.now = k.now + ((j + 1 : Nat) : Int)) := by
                show _ = _
                have h1 := HN3.out
                have h2 := HN.out
                rcases h1 with h1 | h1
                · exact absurd h1 hsm
                · rw [h1, h2]; omega
              have x9 : Bx ((((((((v4.alloc (.cells #[.int .i64 k3.most, .slice D3 k3.wait.length d3, .int .i64 k3.batch, .int .i64 k3.every, .int .i64 k3.now, .slice E3 k3.heads.length f3, .slice F3 qt.length h3] 28)).setCell ⟨g7, 0, none⟩ (.int .i64 k3.most)).setCell ⟨g7, 1, none⟩ (.slice D3 k3.wait.length d3)).setCell ⟨g7, 2, none⟩ (.int .i64 k3.batch)).setCell ⟨g7, 3, none⟩ (.int .i64 k3.every)).setCell ⟨g7, 4, none⟩ (.int .i64 k3.now)).setCell ⟨g7, 5, none⟩ (.slice E3 k3.heads.length f3)).setCell ⟨g7, 6, none⟩ (.slice F3 qt.length h3)) (g7) [.int .i64 k3.most, .slice D3 k3.wait.length d3, .int .i64 k3.batch, .int .i64 k3.every, .int .i64 k3.now, .slice E3 k3.heads.length f3, .slice F3 qt.length h3] := (((((((x5.set 0 (.int .i64 k3.most)).set 1 (.slice D3 k3.wait.length d3)).set 2 (.int .i64 k3.batch)).set 3 (.int .i64 k3.every)).set 4 (.int .i64 k3.now)).set 5 (.slice E3 k3.heads.length f3)).set 6 (.slice F3 qt.length h3))
              have u9 := (((((((u5.far (h := g7) (by omega) 0 (.int .i64 k3.most)).far (h := g7) (by omega) 1 (.slice D3 k3.wait.length d3)).far (h := g7) (by omega) 2 (.int .i64 k3.batch)).far (h := g7) (by omega) 3 (.int .i64 k3.every)).far (h := g7) (by omega) 4 (.int .i64 k3.now)).far (h := g7) (by omega) 5 (.slice E3 k3.heads.length f3)).far (h := g7) (by omega) 6 (.slice F3 qt.length h3))
              have r9 := (((((((r5.far (h := g7) (by omega) 0 (.int .i64 k3.most)).far (h := g7) (by omega) 1 (.slice D3 k3.wait.length d3)).far (h := g7) (by omega) 2 (.int .i64 k3.batch)).far (h := g7) (by omega) 3 (.int .i64 k3.every)).far (h := g7) (by omega) 4 (.int .i64 k3.now)).far (h := g7) (by omega) 5 (.slice E3 k3.heads.length f3)).far (h := g7) (by omega) 6 (.slice F3 qt.length h3))
              have hO9 := (((((((hO5.set (g := g7) (by omega) 0 (.int .i64 k3.most)).set (g := g7) (by omega) 1 (.slice D3 k3.wait.length d3)).set (g := g7) (by omega) 2 (.int .i64 k3.batch)).set (g := g7) (by omega) 3 (.int .i64 k3.every)).set (g := g7) (by omega) 4 (.int .i64 k3.now)).set (g := g7) (by omega) 5 (.slice E3 k3.heads.length f3)).set (g := g7) (by omega) 6 (.slice F3 qt.length h3))
              have hb9 := (((((((hb5.setCell (p := ⟨g7, 0, none⟩) (by show w.heap.size ≤ g7; omega) (.int .i64 k3.most)).setCell (p := ⟨g7, 1, none⟩) (by show w.heap.size ≤ g7; omega) (.slice D3 k3.wait.length d3)).setCell (p := ⟨g7, 2, none⟩) (by show w.heap.size ≤ g7; omega) (.int .i64 k3.batch)).setCell (p := ⟨g7, 3, none⟩) (by show w.heap.size ≤ g7; omega) (.int .i64 k3.every)).setCell (p := ⟨g7, 4, none⟩) (by show w.heap.size ≤ g7; omega) (.int .i64 k3.now)).setCell (p := ⟨g7, 5, none⟩) (by show w.heap.size ≤ g7; omega) (.slice E3 k3.heads.length f3)).setCell (p := ⟨g7, 6, none⟩) (by show w.heap.size ≤ g7; omega) (.slice F3 qt.length h3))
              have HQT := Lib.hid hqt
              obtain ⟨a0, a1, a2, a3, a4, a5, a6⟩ := y5.get7
              obtain ⟨b0, b1, b2, b3, b4, b5, b6⟩ := x5.get7
              have f0 := x5.f 0 (by simp)
              have f1 := x5.f 1 (by simp)
              have f2' := x5.f 2 (by simp)
              have f3' := x5.f 3 (by simp)
              have f4 := x5.f 4 (by simp)
              have f5 := x5.f 5 (by simp)
              have f6 := x5.f 6 (by simp)
              clear x5 u5 r5 y5 hO5 hb5 hqt hgl hsm HN3 HN
              go_upto_region 10 with fail
              generalize ((((((((v4.alloc (.cells #[.int .i64 k3.most, .slice D3 k3.wait.length d3, .int .i64 k3.batch, .int .i64 k3.every, .int .i64 k3.now, .slice E3 k3.heads.length f3, .slice F3 qt.length h3] 28)).setCell ⟨g7, 0, none⟩ (.int .i64 k3.most)).setCell ⟨g7, 1, none⟩ (.slice D3 k3.wait.length d3)).setCell ⟨g7, 2, none⟩ (.int .i64 k3.batch)).setCell ⟨g7, 3, none⟩ (.int .i64 k3.every)).setCell ⟨g7, 4, none⟩ (.int .i64 k3.now)).setCell ⟨g7, 5, none⟩ (.slice E3 k3.heads.length f3)).setCell ⟨g7, 6, none⟩ (.slice F3 qt.length h3)) = w9 at *
              clear a0 a1 a2 a3 a4 a5 a6 b0 b1 b2 b3 b4 b5 b6 f0 f1 f2' f3' f4 f5 f6 hpg0 hpg1 cs
              go_wp2
              go_roundw
              case rel => exact ⟨j + 1, k3, D3, E3, F3, d3, f3, h3, qt, by omega, by go_num, ClSt.of HG3.out HE3.out HQT.out hO9 x9, HD3, HNW, u9, r9, hb9⟩
              case measure => simp [intOf]; omega
          · skip
            go_simp
            have hbA : Below wr.heap.size wr (wr.alloc (.cells #[.int .i64 0, .slice none 0 0, .int .i64 0, .int .i64 0, .int .i64 0, .slice none 0 0, .slice none 0 0] 28)).drew := bdrew (balloc (Below.refl _ _) _)
            refine hK.out _ _ ⟨⟨kept a0 hbA, kept a1 hbA, kept a2 hbA, kept a3 hbA, kept a4 hbA, kept a5 hbA, kept a6 hbA⟩, kept m0 hbA, kept m1 hbA, kept m2 hbA, kept m3 hbA⟩ (fun hHeldN => ?_)
            clear hK K hHeld
            have hHeld := hHeldN
            clear hHeldN
            refine wpAnyH_ready (rs := [5]) (by kernel_rfl) (by simp) ?_
            refine AllReadyH.cons rfl (fun K hK => ?_) (AllReadyH.nil)
            go_simp
            go_at_call 8
            refine (hAk _ (hst.ra.below hbA) (hst.ri.below hbA) (hst.rb.below hbA)).out.mono ?_
            rintro xx w3 ⟨D2, d2, E2, f2, F2, h2, qz, rfl, hqz, hO3, hb3⟩
            have hbC : Below wr.heap.size wr w3 := below_chain hbA hb3
            have y3 := ((Bx.new wr _ rfl _ [.int .i64 0, .slice none 0 0, .int .i64 0, .int .i64 0, .int .i64 0, .slice none 0 0, .slice none 0 0] 28 rfl).drewN 1).below hb3
            obtain ⟨z0, z1, z2, z3, z4, z5, z6⟩ := y3.get7
            have zf0 := y3.f 0 (by simp)
            have zf1 := y3.f 1 (by simp)
            have zf2 := y3.f 2 (by simp)
            have zf3 := y3.f 3 (by simp)
            have zf4 := y3.f 4 (by simp)
            have zf5 := y3.f 5 (by simp)
            have zf6 := y3.f 6 (by simp)
            go_wp2_with fail
            refine hK.out _ _ ⟨⟨kept a0 hbC, kept a1 hbC, kept a2 hbC, kept a3 hbC, kept a4 hbC, kept a5 hbC, kept a6 hbC⟩, kept m0 hbC, kept m1 hbC, kept m2 hbC, kept m3 hbC⟩ (fun hHeldN => ?_)
            clear hK K hHeld
            have hHeld := hHeldN
            clear hHeldN
            refine wpAnyH_take (i := 6) (v := ?_) rfl (by kernel_rfl) (by kernel_rfl) (by kernel_rfl) (fun _ _ _ h => h) (Or.inl ⟨by rfl, ?_⟩) (by assumption) ?_
            rotate_left
            · intro wt hSt
              try dsimp only at hSt
              first | (go_simp; done) | (go_simp; with_reducible rfl)
            simp only [Act.put, List.setIfInBounds_toArray, List.set_cons_zero, List.set_cons_succ, List.getElem_toArray, List.getElem_cons_zero, List.getElem_cons_succ]
            refine wpAnyH_take (i := 7) (v := ?_) rfl (by kernel_rfl) (by kernel_rfl) (by kernel_rfl) (fun _ _ _ h => h) (Or.inl ⟨by rfl, ?_⟩) (by assumption) ?_
            rotate_left
            · intro wt hSt
              try dsimp only at hSt
              first | (go_simp; done) | (go_simp; with_reducible rfl)
            simp only [Act.put, List.setIfInBounds_toArray, List.set_cons_zero, List.set_cons_succ, List.getElem_toArray, List.getElem_cons_zero, List.getElem_cons_succ]
            refine wpAnyH_take (i := 8) (v := ?_) rfl (by kernel_rfl) (by kernel_rfl) (by kernel_rfl) (fun _ _ _ h => h) (Or.inl ⟨by rfl, ?_⟩) (by assumption) ?_
            rotate_left
            · intro wt hSt
              try dsimp only at hSt
              first | (go_simp; done) | (go_simp; with_reducible rfl)
            simp only [Act.put, List.setIfInBounds_toArray, List.set_cons_zero, List.set_cons_succ, List.getElem_toArray, List.getElem_cons_zero, List.getElem_cons_succ]
            refine wpAnyH_take (i := 9) (v := ?_) rfl (by kernel_rfl) (by kernel_rfl) (by kernel_rfl) (fun _ _ _ h => h) (Or.inl ⟨by rfl, ?_⟩) (by assumption) ?_
            rotate_left
            · intro wt hSt
              try dsimp only at hSt
              first | (go_simp; done) | (go_simp; with_reducible rfl)
            simp only [Act.put, List.setIfInBounds_toArray, List.set_cons_zero, List.set_cons_succ, List.getElem_toArray, List.getElem_cons_zero, List.getElem_cons_succ]
            refine wpAnyH_ready (rs := [11]) (by kernel_rfl) (by simp) ?_
            refine AllReadyH.cons rfl (fun K hK => ?_) (AllReadyH.nil)
            go_simp
            have hbE : Below wr.heap.size wr (((((((w3.setCell ⟨wr.heap.size, 0, none⟩ (.int .i64 k2.most)).setCell ⟨wr.heap.size, 1, none⟩ (.slice D2 k2.wait.length d2)).setCell ⟨wr.heap.size, 2, none⟩ (.int .i64 k2.batch)).setCell ⟨wr.heap.size, 3, none⟩ (.int .i64 k2.every)).setCell ⟨wr.heap.size, 4, none⟩ (.int .i64 k2.now)).setCell ⟨wr.heap.size, 5, none⟩ (.slice E2 k2.heads.length f2)).setCell ⟨wr.heap.size, 6, none⟩ (.slice F2 qz.length h2)) := (((((((hbC.setCell (p := ⟨wr.heap.size, 0, none⟩) (Nat.le_refl _) (.int .i64 k2.most)).setCell (p := ⟨wr.heap.size, 1, none⟩) (Nat.le_refl _) (.slice D2 k2.wait.length d2)).setCell (p := ⟨wr.heap.size, 2, none⟩) (Nat.le_refl _) (.int .i64 k2.batch)).setCell (p := ⟨wr.heap.size, 3, none⟩) (Nat.le_refl _) (.int .i64 k2.every)).setCell (p := ⟨wr.heap.size, 4, none⟩) (Nat.le_refl _) (.int .i64 k2.now)).setCell (p := ⟨wr.heap.size, 5, none⟩) (Nat.le_refl _) (.slice E2 k2.heads.length f2)).setCell (p := ⟨wr.heap.size, 6, none⟩) (Nat.le_refl _) (.slice F2 qz.length h2))
            refine hK.out _ _ ⟨⟨kept a0 hbE, kept a1 hbE, kept a2 hbE, kept a3 hbE, kept a4 hbE, kept a5 hbE, kept a6 hbE⟩, kept m0 hbE, kept m1 hbE, kept m2 hbE, kept m3 hbE⟩ (fun hHeldN => ?_)
            clear hK K hHeld
            have hHeld := hHeldN
            clear hHeldN
            refine wpAnyH_take (i := 12) (v := ?_) rfl (by kernel_rfl) (by kernel_rfl) (by kernel_rfl) (fun _ _ _ h => h) (Or.inl ⟨by rfl, ?_⟩) (by assumption) ?_
            rotate_left
            · intro wt hSt
              try dsimp only at hSt
              first | (go_simp; done) | (go_simp; with_reducible rfl)
            simp only [Act.put, List.setIfInBounds_toArray, List.set_cons_zero, List.set_cons_succ, List.getElem_toArray, List.getElem_cons_zero, List.getElem_cons_succ]
            refine wpAnyH_take (i := 13) (v := ?_) rfl (by kernel_rfl) (by kernel_rfl) (by kernel_rfl) (fun _ _ _ h => h) (Or.inl ⟨by rfl, ?_⟩) (by assumption) ?_
            rotate_left
            · intro wt hSt
              try dsimp only at hSt
              first | (go_simp; done) | (go_simp; with_reducible rfl)
            simp only [Act.put, List.setIfInBounds_toArray, List.set_cons_zero, List.set_cons_succ, List.getElem_toArray, List.getElem_cons_zero, List.getElem_cons_succ]
            refine wpAnyH_done (by kernel_rfl) ?_ _
            have hst' := hst.below hbE
            have hx0' := hx0.below hbE
            have hx1' := hx1.below hbE
            have hbw' := below_chain hbw hbE
            have y9 : Bx (((((((w3.setCell ⟨wr.heap.size, 0, none⟩ (.int .i64 k2.most)).setCell ⟨wr.heap.size, 1, none⟩ (.slice D2 k2.wait.length d2)).setCell ⟨wr.heap.size, 2, none⟩ (.int .i64 k2.batch)).setCell ⟨wr.heap.size, 3, none⟩ (.int .i64 k2.every)).setCell ⟨wr.heap.size, 4, none⟩ (.int .i64 k2.now)).setCell ⟨wr.heap.size, 5, none⟩ (.slice E2 k2.heads.length f2)).setCell ⟨wr.heap.size, 6, none⟩ (.slice F2 qz.length h2)) wr.heap.size [.int .i64 k2.most, .slice D2 k2.wait.length d2, .int .i64 k2.batch, .int .i64 k2.every, .int .i64 k2.now, .slice E2 k2.heads.length f2, .slice F2 qz.length h2] := (((((((y3.set 0 (.int .i64 k2.most)).set 1 (.slice D2 k2.wait.length d2)).set 2 (.int .i64 k2.batch)).set 3 (.int .i64 k2.every)).set 4 (.int .i64 k2.now)).set 5 (.slice E2 k2.heads.length f2)).set 6 (.slice F2 qz.length h2))
            have hO9 := ((((((((hO3.set (g := wr.heap.size) (by simp) 0 (.int .i64 k2.most)).set (g := wr.heap.size) (by simp) 1 (.slice D2 k2.wait.length d2)).set (g := wr.heap.size) (by simp) 2 (.int .i64 k2.batch)).set (g := wr.heap.size) (by simp) 3 (.int .i64 k2.every)).set (g := wr.heap.size) (by simp) 4 (.int .i64 k2.now)).set (g := wr.heap.size) (by simp) 5 (.slice E2 k2.heads.length f2)).set (g := wr.heap.size) (by simp) 6 (.slice F2 qz.length h2))).mono (show g7 + 1 ≤ (wr.alloc (.cells #[.int .i64 0, .slice none 0 0, .int .i64 0, .int .i64 0, .int .i64 0, .slice none 0 0, .slice none 0 0] 28)).heap.size by have := hst.bx.lt; simp; omega)
            generalize (((((((w3.setCell ⟨wr.heap.size, 0, none⟩ (.int .i64 k2.most)).setCell ⟨wr.heap.size, 1, none⟩ (.slice D2 k2.wait.length d2)).setCell ⟨wr.heap.size, 2, none⟩ (.int .i64 k2.batch)).setCell ⟨wr.heap.size, 3, none⟩ (.int .i64 k2.every)).setCell ⟨wr.heap.size, 4, none⟩ (.int .i64 k2.now)).setCell ⟨wr.heap.size, 5, none⟩ (.slice E2 k2.heads.length f2)).setCell ⟨wr.heap.size, 6, none⟩ (.slice F2 qz.length h2)) = w9' at *
            clear hHeld hst hx0 hx1 hbw a0 a1 a2 a3 a4 a5 a6 m0 m1 m2 m3 hbC hb3 hAk hO3 y3 z0 z1 z2 z3 z4 z5 z6 zf0 zf1 zf2 zf3 zf4 zf5 zf6 hbA
            obtain ⟨y0, y1, y2, y3, y4, y5, y6⟩ := y9.get7
            have x9a := hst'.bx
            obtain ⟨b0, b1, b2, b3, b4, b5, b6⟩ := x9a.get7
            have f0 := x9a.f 0 (by simp)
            have f1 := x9a.f 1 (by simp)
            have f2' := x9a.f 2 (by simp)
            have f3 := x9a.f 3 (by simp)
            have f4 := x9a.f 4 (by simp)
            have f5 := x9a.f 5 (by simp)
            have f6 := x9a.f 6 (by simp)
            have hpg0 := HP0.out
            have hpg1 := HP1.out
            have x9b : Bx (((((((w9'.setCell ⟨g7, 0, none⟩ (.int .i64 k2.most)).setCell ⟨g7, 1, none⟩ (.slice D2 k2.wait.length d2)).setCell ⟨g7, 2, none⟩ (.int .i64 k2.batch)).setCell ⟨g7, 3, none⟩ (.int .i64 k2.every)).setCell ⟨g7, 4, none⟩ (.int .i64 k2.now)).setCell ⟨g7, 5, none⟩ (.slice E2 k2.heads.length f2)).setCell ⟨g7, 6, none⟩ (.slice F2 qz.length h2)) (g7) [.int .i64 k2.most, .slice D2 k2.wait.length d2, .int .i64 k2.batch, .int .i64 k2.every, .int .i64 k2.now, .slice E2 k2.heads.length f2, .slice F2 qz.length h2] := (((((((x9a.set 0 (.int .i64 k2.most)).set 1 (.slice D2 k2.wait.length d2)).set 2 (.int .i64 k2.batch)).set 3 (.int .i64 k2.every)).set 4 (.int .i64 k2.now)).set 5 (.slice E2 k2.heads.length f2)).set 6 (.slice F2 qz.length h2))
            have hx0b := (((((((hx0'.far (h := g7) (by omega) 0 (.int .i64 k2.most)).far (h := g7) (by omega) 1 (.slice D2 k2.wait.length d2)).far (h := g7) (by omega) 2 (.int .i64 k2.batch)).far (h := g7) (by omega) 3 (.int .i64 k2.every)).far (h := g7) (by omega) 4 (.int .i64 k2.now)).far (h := g7) (by omega) 5 (.slice E2 k2.heads.length f2)).far (h := g7) (by omega) 6 (.slice F2 qz.length h2))
            have hx1b := (((((((hx1'.far (h := g7) (by omega) 0 (.int .i64 k2.most)).far (h := g7) (by omega) 1 (.slice D2 k2.wait.length d2)).far (h := g7) (by omega) 2 (.int .i64 k2.batch)).far (h := g7) (by omega) 3 (.int .i64 k2.every)).far (h := g7) (by omega) 4 (.int .i64 k2.now)).far (h := g7) (by omega) 5 (.slice E2 k2.heads.length f2)).far (h := g7) (by omega) 6 (.slice F2 qz.length h2))
            have hO9b := (((((((hO9.set (g := g7) (by omega) 0 (.int .i64 k2.most)).set (g := g7) (by omega) 1 (.slice D2 k2.wait.length d2)).set (g := g7) (by omega) 2 (.int .i64 k2.batch)).set (g := g7) (by omega) 3 (.int .i64 k2.every)).set (g := g7) (by omega) 4 (.int .i64 k2.now)).set (g := g7) (by omega) 5 (.slice E2 k2.heads.length f2)).set (g := g7) (by omega) 6 (.slice F2 qz.length h2))
            have hbwb := (((((((hbw'.setCell (p := ⟨g7, 0, none⟩) (by show w.heap.size ≤ g7; omega) (.int .i64 k2.most)).setCell (p := ⟨g7, 1, none⟩) (by show w.heap.size ≤ g7; omega) (.slice D2 k2.wait.length d2)).setCell (p := ⟨g7, 2, none⟩) (by show w.heap.size ≤ g7; omega) (.int .i64 k2.batch)).setCell (p := ⟨g7, 3, none⟩) (by show w.heap.size ≤ g7; omega) (.int .i64 k2.every)).setCell (p := ⟨g7, 4, none⟩) (by show w.heap.size ≤ g7; omega) (.int .i64 k2.now)).setCell (p := ⟨g7, 5, none⟩) (by show w.heap.size ≤ g7; omega) (.slice E2 k2.heads.length f2)).setCell (p := ⟨g7, 6, none⟩) (by show w.heap.size ≤ g7; omega) (.slice F2 qz.length h2))
            have HQZ := Lib.hid hqz
            clear y9 x9a hst' hx0' hx1' hbw' hO9 hbE hqz HD
            go_upto_region 15 with fail
            generalize (((((((w9'.setCell ⟨g7, 0, none⟩ (.int .i64 k2.most)).setCell ⟨g7, 1, none⟩ (.slice D2 k2.wait.length d2)).setCell ⟨g7, 2, none⟩ (.int .i64 k2.batch)).setCell ⟨g7, 3, none⟩ (.int .i64 k2.every)).setCell ⟨g7, 4, none⟩ (.int .i64 k2.now)).setCell ⟨g7, 5, none⟩ (.slice E2 k2.heads.length f2)).setCell ⟨g7, 6, none⟩ (.slice F2 qz.length h2)) = w8 at *
            clear y0 y1 y2 y3 y4 y5 y6 b0 b1 b2 b3 b4 b5 b6 f0 f1 f2' f3 f4 f5 f6 hpg0 hpg1
            have hst := ClSt.of HG2.out HE2.out HQZ.out hO9b x9b
            have hx0 := hx0b
            have hx1 := hx1b
            have hbw := hbwb
            have HD := HD2
            have HN := HN2
            clear hO9b x9b hx0b hx1b hbwb HD2 HN2 HG2 HE2 HQZ
            obtain ⟨⟨k3, b3'⟩, hk3⟩ : ∃ u, ckTick k2 = u := ⟨_, rfl⟩
            have HG3 : Hid (CkGood k3) := by show CkGood _; have := ckTick_good hst.good; rw [hk3] at this; exact this
            have HE3 : Hid (CkExt k k3) := by show CkExt _ _; have := hst.ext.tick; rw [hk3] at this; exact this
            have HD3 : Hid ((∀ x ∈ k.wait ++ s, x.1 ≠ na) → DueInv k.books.length (na, va, nu, tg) due k3) := fun hn => by have := (HD.out hn).tick hst.good hst.ext.bl; rw [hk3] at this; exact this
            have HN3 : Hid (k3.now = k2.now ∨ k3.now = k2.now + 1) := by show _ ∨ _; have := ckTick_now k2; rw [hk3] at this; exact this
            have hTk := fun (w : World) g1 g2 g3 => Lib.hid (clerkTickG k2 D2 E2 F2 d2 f2 h2 qz hst.bk w hst.good g1 g2 g3 k3 b3' hk3)
            obtain ⟨a0, a1, a2, a3, a4, a5, a6⟩ := hst.bx.get7
            have hgl := hst.bx.lt
            clear hk3
            go_wp2_with fail
            refine (hTk _ hst.ra hst.ri hst.rb).out.mono ?_
            rintro xx v4 ⟨D3, d3, E3, f3, F3, h3, qt, rfl, hqt, hO4, hb4⟩
            have hb45 := balloc hb4 (.cells #[.int .i64 k3.most, .slice D3 k3.wait.length d3, .int .i64 k3.batch, .int .i64 k3.every, .int .i64 k3.now, .slice E3 k3.heads.length f3, .slice F3 qt.length h3] 28)
            have x5 := hst.bx.below hb45
            have u5 := hx0.below hb45
            have r5 := hx1.below hb45
            have y5 := Bx.new v4 _ rfl _ [.int .i64 k3.most, .slice D3 k3.wait.length d3, .int .i64 k3.batch, .int .i64 k3.every, .int .i64 k3.now, .slice E3 k3.heads.length f3, .slice F3 qt.length h3] 28 rfl
            have hO5 := hO4.below (balloc (Below.refl _ _) (.cells #[.int .i64 k3.most, .slice D3 k3.wait.length d3, .int .i64 k3.batch, .int .i64 k3.every, .int .i64 k3.now, .slice E3 k3.heads.length f3, .slice F3 qt.length h3] 28))
            have hb5 := below_chain hbw hb45
            have hpg0 := HP0.out
            have hpg1 := HP1.out
            clear a0 a1 a2 a3 a4 a5 a6 hTk hO4 hb4 hb45 hst hx0 hx1 hbw HD
            by_cases hsm : k3.now = k2.now
            · have cs : (k3.now == k2.now) = true := beq_iff_eq.2 hsm
              obtain ⟨a0, a1, a2, a3, a4, a5, a6⟩ := y5.get7
              obtain ⟨b0, b1, b2, b3, b4, b5, b6⟩ := x5.get7
              clear hsm
              go_wp2
              go_ret
              exact ⟨rfl, hb5⟩
            · have cs : (k3.now == k2.now) = false := beq_eq_false_iff_ne.2 hsm
              have HNW : Hid (k3.now = k.now + ((j + 1 : Nat) : Int)) := by
                show _ = _
                have h1 := HN3.out
                have h2 := HN.out
                rcases h1 with h1 | h1
                · exact absurd h1 hsm
                · rw [h1, h2]; omega
              have x9 : Bx ((((((((v4.alloc (.cells #[.int .i64 k3.most, .slice D3 k3.wait.length d3, .int .i64 k3.batch, .int .i64 k3.every, .int .i64 k3.now, .slice E3 k3.heads.length f3, .slice F3 qt.length h3] 28)).setCell ⟨g7, 0, none⟩ (.int .i64 k3.most)).setCell ⟨g7, 1, none⟩ (.slice D3 k3.wait.length d3)).setCell ⟨g7, 2, none⟩ (.int .i64 k3.batch)).setCell ⟨g7, 3, none⟩ (.int .i64 k3.every)).setCell ⟨g7, 4, none⟩ (.int .i64 k3.now)).setCell ⟨g7, 5, none⟩ (.slice E3 k3.heads.length f3)).setCell ⟨g7, 6, none⟩ (.slice F3 qt.length h3)) (g7) [.int .i64 k3.most, .slice D3 k3.wait.length d3, .int .i64 k3.batch, .int .i64 k3.every, .int .i64 k3.now, .slice E3 k3.heads.length f3, .slice F3 qt.length h3] := (((((((x5.set 0 (.int .i64 k3.most)).set 1 (.slice D3 k3.wait.length d3)).set 2 (.int .i64 k3.batch)).set 3 (.int .i64 k3.every)).set 4 (.int .i64 k3.now)).set 5 (.slice E3 k3.heads.length f3)).set 6 (.slice F3 qt.length h3))
              have u9 := (((((((u5.far (h := g7) (by omega) 0 (.int .i64 k3.most)).far (h := g7) (by omega) 1 (.slice D3 k3.wait.length d3)).far (h := g7) (by omega) 2 (.int .i64 k3.batch)).far (h := g7) (by omega) 3 (.int .i64 k3.every)).far (h := g7) (by omega) 4 (.int .i64 k3.now)).far (h := g7) (by omega) 5 (.slice E3 k3.heads.length f3)).far (h := g7) (by omega) 6 (.slice F3 qt.length h3))
              have r9 := (((((((r5.far (h := g7) (by omega) 0 (.int .i64 k3.most)).far (h := g7) (by omega) 1 (.slice D3 k3.wait.length d3)).far (h := g7) (by omega) 2 (.int .i64 k3.batch)).far (h := g7) (by omega) 3 (.int .i64 k3.every)).far (h := g7) (by omega) 4 (.int .i64 k3.now)).far (h := g7) (by omega) 5 (.slice E3 k3.heads.length f3)).far (h := g7) (by omega) 6 (.slice F3 qt.length h3))
              have hO9 := (((((((hO5.set (g := g7) (by omega) 0 (.int .i64 k3.most)).set (g := g7) (by omega) 1 (.slice D3 k3.wait.length d3)).set (g := g7) (by omega) 2 (.int .i64 k3.batch)).set (g := g7) (by omega) 3 (.int .i64 k3.every)).set (g := g7) (by omega) 4 (.int .i64 k3.now)).set (g := g7) (by omega) 5 (.slice E3 k3.heads.length f3)).set (g := g7) (by omega) 6 (.slice F3 qt.length h3))
              have hb9 := (((((((hb5.setCell (p := ⟨g7, 0, none⟩) (by show w.heap.size ≤ g7; omega) (.int .i64 k3.most)).setCell (p := ⟨g7, 1, none⟩) (by show w.heap.size ≤ g7; omega) (.slice D3 k3.wait.length d3)).setCell (p := ⟨g7, 2, none⟩) (by show w.heap.size ≤ g7; omega) (.int .i64 k3.batch)).setCell (p := ⟨g7, 3, none⟩) (by show w.heap.size ≤ g7; omega) (.int .i64 k3.every)).setCell (p := ⟨g7, 4, none⟩) (by show w.heap.size ≤ g7; omega) (.int .i64 k3.now)).setCell (p := ⟨g7, 5, none⟩) (by show w.heap.size ≤ g7; omega) (.slice E3 k3.heads.length f3)).setCell (p := ⟨g7, 6, none⟩) (by show w.heap.size ≤ g7; omega) (.slice F3 qt.length h3))
              have HQT := Lib.hid hqt
              obtain ⟨a0, a1, a2, a3, a4, a5, a6⟩ := y5.get7
              obtain ⟨b0, b1, b2, b3, b4, b5, b6⟩ := x5.get7
              have f0 := x5.f 0 (by simp)
              have f1 := x5.f 1 (by simp)
              have f2' := x5.f 2 (by simp)
              have f3' := x5.f 3 (by simp)
              have f4 := x5.f 4 (by simp)
              have f5 := x5.f 5 (by simp)
              have f6 := x5.f 6 (by simp)
              clear x5 u5 r5 y5 hO5 hb5 hqt hgl hsm HN3 HN
              go_upto_region 10 with fail
              generalize ((((((((v4.alloc (.cells #[.int .i64 k3.most, .slice D3 k3.wait.length d3, .int .i64 k3.batch, .int .i64 k3.every, .int .i64 k3.now, .slice E3 k3.heads.length f3, .slice F3 qt.length h3] 28)).setCell ⟨g7, 0, none⟩ (.int .i64 k3.most)).setCell ⟨g7, 1, none⟩ (.slice D3 k3.wait.length d3)).setCell ⟨g7, 2, none⟩ (.int .i64 k3.batch)).setCell ⟨g7, 3, none⟩ (.int .i64 k3.every)).setCell ⟨g7, 4, none⟩ (.int .i64 k3.now)).setCell ⟨g7, 5, none⟩ (.slice E3 k3.heads.length f3)).setCell ⟨g7, 6, none⟩ (.slice F3 qt.length h3)) = w9 at *
              clear a0 a1 a2 a3 a4 a5 a6 b0 b1 b2 b3 b4 b5 b6 f0 f1 f2' f3' f4 f5 f6 hpg0 hpg1 cs
              go_wp2
              go_roundw
              case rel => exact ⟨j + 1, k3, D3, E3, F3, d3, f3, h3, qt, by omega, by go_num, ClSt.of HG3.out HE3.out HQT.out hO9 x9, HD3, HNW, u9, r9, hb9⟩
              case measure => simp [intOf]; omega
      · have i1 : ¬ (j : Int) < (s.length : Int) := by omega
        have i1' : decide ((j : Int) < (s.length : Int)) = false := decide_eq_false i1
        obtain ⟨⟨k3, b3'⟩, hk3⟩ : ∃ u, ckTick k' = u := ⟨_, rfl⟩
        have HG3 : Hid (CkGood k3) := by show CkGood _; have := ckTick_good hst.good; rw [hk3] at this; exact this
        have HE3 : Hid (CkExt k k3) := by show CkExt _ _; have := hst.ext.tick; rw [hk3] at this; exact this
        have HD3 : Hid ((∀ x ∈ k.wait ++ s, x.1 ≠ na) → DueInv k.books.length (na, va, nu, tg) due k3) := fun hn => by have := (HD.out hn).tick hst.good hst.ext.bl; rw [hk3] at this; exact this
        have HN3 : Hid (k3.now = k'.now ∨ k3.now = k'.now + 1) := by show _ ∨ _; have := ckTick_now k'; rw [hk3] at this; exact this
        have hTk := fun (w : World) g1 g2 g3 => Lib.hid (clerkTickG k' A' I' B' c' d' e' qs hst.bk w hst.good g1 g2 g3 k3 b3' hk3)
        obtain ⟨a0, a1, a2, a3, a4, a5, a6⟩ := hst.bx.get7
        have hgl := hst.bx.lt
        clear hk3
        go_wp2_with fail
        refine (hTk _ hst.ra hst.ri hst.rb).out.mono ?_
        rintro xx v4 ⟨D3, d3, E3, f3, F3, h3, qt, rfl, hqt, hO4, hb4⟩
        have hb45 := balloc hb4 (.cells #[.int .i64 k3.most, .slice D3 k3.wait.length d3, .int .i64 k3.batch, .int .i64 k3.every, .int .i64 k3.now, .slice E3 k3.heads.length f3, .slice F3 qt.length h3] 28)
        have x5 := hst.bx.below hb45
        have u5 := hx0.below hb45
        have r5 := hx1.below hb45
        have y5 := Bx.new v4 _ rfl _ [.int .i64 k3.most, .slice D3 k3.wait.length d3, .int .i64 k3.batch, .int .i64 k3.every, .int .i64 k3.now, .slice E3 k3.heads.length f3, .slice F3 qt.length h3] 28 rfl
        have hO5 := hO4.below (balloc (Below.refl _ _) (.cells #[.int .i64 k3.most, .slice D3 k3.wait.length d3, .int .i64 k3.batch, .int .i64 k3.every, .int .i64 k3.now, .slice E3 k3.heads.length f3, .slice F3 qt.length h3] 28))
        have hb5 := below_chain hbw hb45
        have hpg0 := HP0.out
        have hpg1 := HP1.out
        clear a0 a1 a2 a3 a4 a5 a6 hTk hO4 hb4 hb45 hst hx0 hx1 hbw HD
        by_cases hsm : k3.now = k'.now
        · have cs : (k3.now == k'.now) = true := beq_iff_eq.2 hsm
          obtain ⟨a0, a1, a2, a3, a4, a5, a6⟩ := y5.get7
          obtain ⟨b0, b1, b2, b3, b4, b5, b6⟩ := x5.get7
          clear hsm
          go_wp2
          go_ret
          exact ⟨rfl, hb5⟩
        · have cs : (k3.now == k'.now) = false := beq_eq_false_iff_ne.2 hsm
          have HNW : Hid (k3.now = k.now + ((j + 1 : Nat) : Int)) := by
            show _ = _
            have h1 := HN3.out
            have h2 := HN.out
            rcases h1 with h1 | h1
            · exact absurd h1 hsm
            · rw [h1, h2]; omega
          have x9 : Bx ((((((((v4.alloc (.cells #[.int .i64 k3.most, .slice D3 k3.wait.length d3, .int .i64 k3.batch, .int .i64 k3.every, .int .i64 k3.now, .slice E3 k3.heads.length f3, .slice F3 qt.length h3] 28)).setCell ⟨g7, 0, none⟩ (.int .i64 k3.most)).setCell ⟨g7, 1, none⟩ (.slice D3 k3.wait.length d3)).setCell ⟨g7, 2, none⟩ (.int .i64 k3.batch)).setCell ⟨g7, 3, none⟩ (.int .i64 k3.every)).setCell ⟨g7, 4, none⟩ (.int .i64 k3.now)).setCell ⟨g7, 5, none⟩ (.slice E3 k3.heads.length f3)).setCell ⟨g7, 6, none⟩ (.slice F3 qt.length h3)) (g7) [.int .i64 k3.most, .slice D3 k3.wait.length d3, .int .i64 k3.batch, .int .i64 k3.every, .int .i64 k3.now, .slice E3 k3.heads.length f3, .slice F3 qt.length h3] := (((((((x5.set 0 (.int .i64 k3.most)).set 1 (.slice D3 k3.wait.length d3)).set 2 (.int .i64 k3.batch)).set 3 (.int .i64 k3.every)).set 4 (.int .i64 k3.now)).set 5 (.slice E3 k3.heads.length f3)).set 6 (.slice F3 qt.length h3))
          have u9 := (((((((u5.far (h := g7) (by omega) 0 (.int .i64 k3.most)).far (h := g7) (by omega) 1 (.slice D3 k3.wait.length d3)).far (h := g7) (by omega) 2 (.int .i64 k3.batch)).far (h := g7) (by omega) 3 (.int .i64 k3.every)).far (h := g7) (by omega) 4 (.int .i64 k3.now)).far (h := g7) (by omega) 5 (.slice E3 k3.heads.length f3)).far (h := g7) (by omega) 6 (.slice F3 qt.length h3))
          have r9 := (((((((r5.far (h := g7) (by omega) 0 (.int .i64 k3.most)).far (h := g7) (by omega) 1 (.slice D3 k3.wait.length d3)).far (h := g7) (by omega) 2 (.int .i64 k3.batch)).far (h := g7) (by omega) 3 (.int .i64 k3.every)).far (h := g7) (by omega) 4 (.int .i64 k3.now)).far (h := g7) (by omega) 5 (.slice E3 k3.heads.length f3)).far (h := g7) (by omega) 6 (.slice F3 qt.length h3))
          have hO9 := (((((((hO5.set (g := g7) (by omega) 0 (.int .i64 k3.most)).set (g := g7) (by omega) 1 (.slice D3 k3.wait.length d3)).set (g := g7) (by omega) 2 (.int .i64 k3.batch)).set (g := g7) (by omega) 3 (.int .i64 k3.every)).set (g := g7) (by omega) 4 (.int .i64 k3.now)).set (g := g7) (by omega) 5 (.slice E3 k3.heads.length f3)).set (g := g7) (by omega) 6 (.slice F3 qt.length h3))
          have hb9 := (((((((hb5.setCell (p := ⟨g7, 0, none⟩) (by show w.heap.size ≤ g7; omega) (.int .i64 k3.most)).setCell (p := ⟨g7, 1, none⟩) (by show w.heap.size ≤ g7; omega) (.slice D3 k3.wait.length d3)).setCell (p := ⟨g7, 2, none⟩) (by show w.heap.size ≤ g7; omega) (.int .i64 k3.batch)).setCell (p := ⟨g7, 3, none⟩) (by show w.heap.size ≤ g7; omega) (.int .i64 k3.every)).setCell (p := ⟨g7, 4, none⟩) (by show w.heap.size ≤ g7; omega) (.int .i64 k3.now)).setCell (p := ⟨g7, 5, none⟩) (by show w.heap.size ≤ g7; omega) (.slice E3 k3.heads.length f3)).setCell (p := ⟨g7, 6, none⟩) (by show w.heap.size ≤ g7; omega) (.slice F3 qt.length h3))
          have HQT := Lib.hid hqt
          obtain ⟨a0, a1, a2, a3, a4, a5, a6⟩ := y5.get7
          obtain ⟨b0, b1, b2, b3, b4, b5, b6⟩ := x5.get7
          have f0 := x5.f 0 (by simp)
          have f1 := x5.f 1 (by simp)
          have f2' := x5.f 2 (by simp)
          have f3' := x5.f 3 (by simp)
          have f4 := x5.f 4 (by simp)
          have f5 := x5.f 5 (by simp)
          have f6 := x5.f 6 (by simp)
          clear x5 u5 r5 y5 hO5 hb5 hqt hgl hsm HN3 HN
          go_upto_region 10 with fail
          generalize ((((((((v4.alloc (.cells #[.int .i64 k3.most, .slice D3 k3.wait.length d3, .int .i64 k3.batch, .int .i64 k3.every, .int .i64 k3.now, .slice E3 k3.heads.length f3, .slice F3 qt.length h3] 28)).setCell ⟨g7, 0, none⟩ (.int .i64 k3.most)).setCell ⟨g7, 1, none⟩ (.slice D3 k3.wait.length d3)).setCell ⟨g7, 2, none⟩ (.int .i64 k3.batch)).setCell ⟨g7, 3, none⟩ (.int .i64 k3.every)).setCell ⟨g7, 4, none⟩ (.int .i64 k3.now)).setCell ⟨g7, 5, none⟩ (.slice E3 k3.heads.length f3)).setCell ⟨g7, 6, none⟩ (.slice F3 qt.length h3)) = w9 at *
          clear a0 a1 a2 a3 a4 a5 a6 b0 b1 b2 b3 b4 b5 b6 f0 f1 f2' f3' f4 f5 f6 hpg0 hpg1 cs
          go_wp2
          go_roundw
          case rel => exact ⟨j + 1, k3, D3, E3, F3, d3, f3, h3, qt, by omega, by go_num, ClSt.of HG3.out HE3.out HQT.out hO9 x9, HD3, HNW, u9, r9, hb9⟩
          case measure => simp [intOf]; omega
    · have cdn : decide (k'.now < due) = false := decide_eq_false hdn'
      have hdn : due ≤ k'.now := by omega
      generalize wr = w0 at *
      have hgl := hst.bx.lt
      have hpB : k.books.length = ps.length := by rw [← HPS.out, bks_length]
      obtain ⟨a0, a1, a2, a3, a4, a5, a6⟩ := hst.bx.get7
      obtain ⟨b0, b1, b2, b3, b4, b5, b6⟩ := hx0.get7
      obtain ⟨⟨r0, r1, r2, r3⟩, _⟩ := hx1.get4
      have hsm := hst.small
      have hsb := hsm.b
      have hsh := hsm.h
      have hqk : k'.books.length = qs.length := by rw [← hst.bk, bks_length]
      have hxl := hst.ext.bl
      go_wp2
      clear a0 a1 a2 a3 a4 b0 b1 b2 b3 b4 b5 b6 r2 r3
      have HXL : Hid (k.books.length ≤ qs.length) := by show _ ≤ _; rw [← hqk]; exact hxl
      have HPB := Lib.hid hpB
      have HQK := Lib.hid hqk
      have hq40 : qs.length ≤ 40 := by omega
      clear hsb hsh hpB hqk hxl
      go_loopw [17] (fun i wr => ∃ j : Nat, ps.length ≤ j ∧ j ≤ qs.length ∧ i = .int .i64 j ∧ Hid (∀ i, k.books.length ≤ i → i < j → ∀ (h : i < k'.books.length) (h' : i < k'.heads.length), ¬ (stands k'.books[i] na = some va ∧ k'.heads[i].2.2.2 ≤ due)) ∧ Below w0.heap.size w0 wr) (fun i _ => qs.length - (intOf i).toNat)
      case atStart => exact ⟨ps.length, Nat.le_refl _, by have h1 := HXL.out; have h2 := HPB.out; omega, rfl, fun i h1 h2 => by have h3 := HPB.out; omega, Below.refl _ _⟩
      case round =>
        obtain ⟨j, hj1, hj, rfl, HNF, hbl⟩ := hrel
        have hbw3 := below_chain hbw hbl
        by_cases hlt : j < qs.length
        · have hjk : j < k'.books.length := by have := HQK.out; omega
          have hjh : j < k'.heads.length := by have := hsm.b; omega
          obtain ⟨gB, oB, rfl, jB, rB⟩ := (hst.rb.below hbl).get j hlt
          obtain ⟨gI, oI, rfl, l0, l1, l2, l3⟩ := (hst.ri.below hbl).head j hjh
          have hbj : k'.books[j] = qs[j].2.2 := by rw [← bks_get qs j hlt]; congr 1; exact hst.bk.symm
          have hpe := hsm.e _ (List.getElem_mem hlt)
          have hgT : Good qs[j].2.2 := by rw [← hbj]; exact (hst.good.each j hjk hjh).1
          have HNF1 : ¬ (stands qs[j].2.2 na = some va ∧ k'.heads[j].2.2.2 ≤ due) → Hid (∀ i, k.books.length ≤ i → i < j + 1 → ∀ (h : i < k'.books.length) (h' : i < k'.heads.length), ¬ (stands k'.books[i] na = some va ∧ k'.heads[i].2.2.2 ≤ due)) := fun hno i h1 h2 h3 h4 => by
            by_cases e : i = j
            · subst e; rw [hbj]; exact hno
            · exact HNF.out i h1 (by omega) h3 h4
          have hgn : getAns qs[j].2.2 na = ((stands qs[j].2.2 na).getD [], (stands qs[j].2.2 na).isSome, 0) := by unfold getAns; rw [if_pos ((askErr_ok _ _).2 ⟨hgT, HNM.out⟩)]
          have HT : Hid (∀ x ∈ qs[j].2.2, x.1.length ≤ maxLen ∧ x.2.length ≤ maxLen) := fun x hx => by have := hpe.2 x hx; unfold maxLen; omega
          have hT24 := hpe.1
          have a6' := kept a6 hbl
          have a5w := kept a5 hbl
          have r0w := kept r0 hbl
          have r1w := kept r1 hbl
          generalize qs[j].2.2 = T at *
          generalize qs[j].1 = P1 at *
          generalize qs[j].2.1 = P2 at *
          generalize k'.heads[j].2.2.2 = atv at *
          have i0 : (0 : Int) ≤ (j : Int) := by omega
          have i1 : (j : Int) < (qs.length : Int) := by omega
          have i2 : (j : Int) < (k'.heads.length : Int) := by omega
          clear a5 a6 r0 r1 l0 l1 l2 hjk hjh hbj hpe hgT HNF
          have a6 := a6'
          have a5 := a5w
          have r0 := r0w
          have r1 := r1w
          clear a6' a5w r0w r1w
          obtain ⟨o, ho⟩ : ∃ o, stands T na = o := ⟨_, rfl⟩
          rw [ho] at hgn HNF1
          clear ho
          cases o with
          | none =>
            have HNF2 := HNF1 (by rintro ⟨h, _⟩; cases h)
            have hGet := fun (w : World) h1 => Lib.hid (treeGet P1 P2 T na w (by unfold maxLen; omega) HT.out hna h1 [] false 0 hgn)
            clear HNF1 hgn hst
            go_wp2
            refine wp_region_held_drew (S := fun W => W.cell? ⟨g7, 6, none⟩ = some (.slice (some ⟨gB, oB, none⟩) qs.length e') ∧ W.cell? ⟨gB, oB + j, none⟩ = some (.slice P1 T.length P2) ∧ W.cell? ⟨w.heap.size + 1, 0, none⟩ = some (.string (S na))) (by kernel_rfl) ⟨a6, jB, r0⟩ (fun hHeld => ?_)
            refine wpAnyH_take (i := 0) (v := ?_) rfl (by kernel_rfl) (by kernel_rfl) (by kernel_rfl) (fun _ _ _ h => h) (Or.inl ⟨by rfl, ?_⟩) (by assumption) ?_
            rotate_left
            · intro wt hSt
              try dsimp only at hSt
              first | (go_simp; done) | (go_simp; with_reducible rfl)
            simp only [Act.put, List.setIfInBounds_toArray, List.set_cons_zero, List.set_cons_succ, List.getElem_toArray, List.getElem_cons_zero]
            refine wpAnyH_take (i := 1) (v := ?_) rfl (by kernel_rfl) (by kernel_rfl) (by kernel_rfl) (fun _ _ _ h => h) (Or.inl ⟨by rfl, ?_⟩) (by assumption) ?_
            rotate_left
            · intro wt hSt
              try dsimp only at hSt
              first | (go_simp; done) | (go_simp; with_reducible rfl)
            simp only [Act.put, List.setIfInBounds_toArray, List.set_cons_zero, List.set_cons_succ, List.getElem_toArray, List.getElem_cons_zero, List.getElem_cons_succ]
            refine wpAnyH_take (i := 2) (v := ?_) rfl (by kernel_rfl) (by kernel_rfl) (by kernel_rfl) (fun _ _ _ h => h) (Or.inl ⟨by rfl, ?_⟩) (by assumption) ?_
            rotate_left
            · intro wt hSt
              try dsimp only at hSt
              first | (go_simp; done) | (go_simp; with_reducible rfl)
            simp only [Act.put, List.setIfInBounds_toArray, List.set_cons_zero, List.set_cons_succ, List.getElem_toArray, List.getElem_cons_zero, List.getElem_cons_succ]
            refine wpAnyH_take (i := 3) (v := ?_) rfl (by kernel_rfl) (by kernel_rfl) (by kernel_rfl) (fun _ _ _ h => h) (Or.inl ⟨by rfl, ?_⟩) (by assumption) ?_
            rotate_left
            · intro wt hSt
              try dsimp only at hSt
              first | (go_simp; done) | (go_simp; with_reducible rfl)
            simp only [Act.put, List.setIfInBounds_toArray, List.set_cons_zero, List.set_cons_succ, List.getElem_toArray, List.getElem_cons_zero, List.getElem_cons_succ]
            refine wpAnyH_take (i := 4) (v := ?_) rfl (by kernel_rfl) (by kernel_rfl) (by kernel_rfl) (fun _ _ _ h => h) (Or.inl ⟨by rfl, ?_⟩) (by assumption) ?_
            rotate_left
            · intro wt hSt
              try dsimp only at hSt
              first | (go_simp; done) | (go_simp; with_reducible rfl)
            simp only [Act.put, List.setIfInBounds_toArray, List.set_cons_zero, List.set_cons_succ, List.getElem_toArray, List.getElem_cons_zero, List.getElem_cons_succ]
            refine wpAnyH_take (i := 5) (v := ?_) rfl (by kernel_rfl) (by kernel_rfl) (by kernel_rfl) (fun _ _ _ h => h) (Or.inl ⟨by rfl, ?_⟩) (by assumption) ?_
            rotate_left
            · intro wt hSt
              try dsimp only at hSt
              first | (go_simp; done) | (go_simp; with_reducible rfl)
            simp only [Act.put, List.setIfInBounds_toArray, List.set_cons_zero, List.set_cons_succ, List.getElem_toArray, List.getElem_cons_zero, List.getElem_cons_succ]
            refine wpAnyH_take (i := 6) (v := ?_) rfl (by kernel_rfl) (by kernel_rfl) (by kernel_rfl) (fun _ _ _ h => h) (Or.inl ⟨by rfl, ?_⟩) (by assumption) ?_
            rotate_left
            · intro wt hSt
              try dsimp only at hSt
              first | (go_simp; done) | (go_simp; with_reducible rfl)
            simp only [Act.put, List.setIfInBounds_toArray, List.set_cons_zero, List.set_cons_succ, List.getElem_toArray, List.getElem_cons_zero, List.getElem_cons_succ]
            refine wpAnyH_ready (rs := [7]) (by kernel_rfl) (by simp) ?_
            refine AllReadyH.cons rfl (fun K hK => ?_) AllReadyH.nil
            go_simp
            go_at_call 13
            refine (hGet _ (rB.drewN 1)).out.mono ?_
            rintro xx v5 ⟨rfl, hb5'⟩
            have hb5 : Below wr.heap.size wr v5 := below_chain (bdrew (Below.refl _ _)) hb5'
            go_wp2_with fail
            refine hK.out _ _ ⟨kept a6 hb5, kept jB hb5, kept r0 hb5⟩ (fun hHeldN => ?_)
            clear hK K hHeld
            have hHeld := hHeldN
            clear hHeldN
            refine wpAnyH_take (i := 8) (v := ?_) rfl (by kernel_rfl) (by kernel_rfl) (by kernel_rfl) (fun _ _ _ h => h) (Or.inl ⟨by rfl, ?_⟩) (by assumption) ?_
            rotate_left
            · intro wt hSt
              try dsimp only at hSt
              first | (go_simp; done) | (go_simp; with_reducible rfl)
            simp only [Act.put, List.setIfInBounds_toArray, List.set_cons_zero, List.set_cons_succ, List.getElem_toArray, List.getElem_cons_zero, List.getElem_cons_succ]
            refine wpAnyH_take (i := 9) (v := ?_) rfl (by kernel_rfl) (by kernel_rfl) (by kernel_rfl) (fun _ _ _ h => h) (Or.inl ⟨by rfl, ?_⟩) (by assumption) ?_
            rotate_left
            · intro wt hSt
              try dsimp only at hSt
              first | (go_simp; done) | (go_simp; with_reducible rfl)
            simp only [Act.put, List.setIfInBounds_toArray, List.set_cons_zero, List.set_cons_succ, List.getElem_toArray, List.getElem_cons_zero, List.getElem_cons_succ]
            refine wpAnyH_take (i := 10) (v := ?_) rfl (by kernel_rfl) (by kernel_rfl) (by kernel_rfl) (fun _ _ _ h => h) (Or.inl ⟨by rfl, ?_⟩) (by assumption) ?_
            rotate_left
            · intro wt hSt
              try dsimp only at hSt
              first | (go_simp; done) | (go_simp; with_reducible rfl)
            simp only [Act.put, List.setIfInBounds_toArray, List.set_cons_zero, List.set_cons_succ, List.getElem_toArray, List.getElem_cons_zero, List.getElem_cons_succ]
            refine wpAnyH_take (i := 11) (v := ?_) rfl (by kernel_rfl) (by kernel_rfl) (by kernel_rfl) (fun _ _ _ h => h) (Or.inl ⟨by rfl, ?_⟩) (by assumption) ?_
            rotate_left
            · intro wt hSt
              try dsimp only at hSt
              first | (go_simp; done) | (go_simp; with_reducible rfl)
            simp only [Act.put, List.setIfInBounds_toArray, List.set_cons_zero, List.set_cons_succ, List.getElem_toArray, List.getElem_cons_zero, List.getElem_cons_succ]
            refine wpAnyH_take (i := 12) (v := ?_) rfl (by kernel_rfl) (by kernel_rfl) (by kernel_rfl) (fun _ _ _ h => h) (Or.inl ⟨by rfl, ?_⟩) (by assumption) ?_
            rotate_left
            · intro wt hSt
              try dsimp only at hSt
              first | (go_simp; done) | (go_simp; with_reducible rfl)
            simp only [Act.put, List.setIfInBounds_toArray, List.set_cons_zero, List.set_cons_succ, List.getElem_toArray, List.getElem_cons_zero, List.getElem_cons_succ]
            refine wpAnyH_take (i := 13) (v := ?_) rfl (by kernel_rfl) (by kernel_rfl) (by kernel_rfl) (fun _ _ _ h => h) (Or.inl ⟨by rfl, ?_⟩) (by assumption) ?_
            rotate_left
            · intro wt hSt
              try dsimp only at hSt
              first | (go_simp; done) | (go_simp; with_reducible rfl)
            simp only [Act.put, List.setIfInBounds_toArray, List.set_cons_zero, List.set_cons_succ, List.getElem_toArray, List.getElem_cons_zero, List.getElem_cons_succ]
            refine wpAnyH_take (i := 14) (v := ?_) rfl (by kernel_rfl) (by kernel_rfl) (by kernel_rfl) (fun _ _ _ h => h) (Or.inl ⟨by rfl, ?_⟩) (by assumption) ?_
            rotate_left
            · intro wt hSt
              try dsimp only at hSt
              first | (go_simp; done) | (go_simp; with_reducible rfl)
            simp only [Act.put, List.setIfInBounds_toArray, List.set_cons_zero, List.set_cons_succ, List.getElem_toArray, List.getElem_cons_zero, List.getElem_cons_succ]
            refine wpAnyH_done (by kernel_rfl) ?_ _
            clear hGet
            have a5' := kept a5 hb5
            go_wp2
            go_roundw
            case rel => exact ⟨j + 1, by omega, by omega, by go_num, HNF2, below_chain hbl hb5⟩
            case measure => simp [intOf]; omega
          | some u =>
            have hGet := fun (w : World) h1 => Lib.hid (treeGet P1 P2 T na w (by unfold maxLen; omega) HT.out hna h1 u true 0 hgn)
            by_cases huv : u = va
            case neg =>
              have HNF2 := HNF1 (by rintro ⟨h, _⟩; injection h with h; exact huv h)
              have cuv : (u == va) = false := beq_eq_false_iff_ne.2 huv
              clear HNF1 hgn hst huv
              go_wp2
              refine wp_region_held_drew (S := fun W => W.cell? ⟨g7, 6, none⟩ = some (.slice (some ⟨gB, oB, none⟩) qs.length e') ∧ W.cell? ⟨gB, oB + j, none⟩ = some (.slice P1 T.length P2) ∧ W.cell? ⟨w.heap.size + 1, 0, none⟩ = some (.string (S na))) (by kernel_rfl) ⟨a6, jB, r0⟩ (fun hHeld => ?_)
              refine wpAnyH_take (i := 0) (v := ?_) rfl (by kernel_rfl) (by kernel_rfl) (by kernel_rfl) (fun _ _ _ h => h) (Or.inl ⟨by rfl, ?_⟩) (by assumption) ?_
              rotate_left
              · intro wt hSt
                try dsimp only at hSt
                first | (go_simp; done) | (go_simp; with_reducible rfl)
              simp only [Act.put, List.setIfInBounds_toArray, List.set_cons_zero, List.set_cons_succ, List.getElem_toArray, List.getElem_cons_zero]
              refine wpAnyH_take (i := 1) (v := ?_) rfl (by kernel_rfl) (by kernel_rfl) (by kernel_rfl) (fun _ _ _ h => h) (Or.inl ⟨by rfl, ?_⟩) (by assumption) ?_
              rotate_left
              · intro wt hSt
                try dsimp only at hSt
                first | (go_simp; done) | (go_simp; with_reducible rfl)
              simp only [Act.put, List.setIfInBounds_toArray, List.set_cons_zero, List.set_cons_succ, List.getElem_toArray, List.getElem_cons_zero, List.getElem_cons_succ]
              refine wpAnyH_take (i := 2) (v := ?_) rfl (by kernel_rfl) (by kernel_rfl) (by kernel_rfl) (fun _ _ _ h => h) (Or.inl ⟨by rfl, ?_⟩) (by assumption) ?_
              rotate_left
              · intro wt hSt
                try dsimp only at hSt
                first | (go_simp; done) | (go_simp; with_reducible rfl)
              simp only [Act.put, List.setIfInBounds_toArray, List.set_cons_zero, List.set_cons_succ, List.getElem_toArray, List.getElem_cons_zero, List.getElem_cons_succ]
              refine wpAnyH_take (i := 3) (v := ?_) rfl (by kernel_rfl) (by kernel_rfl) (by kernel_rfl) (fun _ _ _ h => h) (Or.inl ⟨by rfl, ?_⟩) (by assumption) ?_
              rotate_left
              · intro wt hSt
                try dsimp only at hSt
                first | (go_simp; done) | (go_simp; with_reducible rfl)
              simp only [Act.put, List.setIfInBounds_toArray, List.set_cons_zero, List.set_cons_succ, List.getElem_toArray, List.getElem_cons_zero, List.getElem_cons_succ]
              refine wpAnyH_take (i := 4) (v := ?_) rfl (by kernel_rfl) (by kernel_rfl) (by kernel_rfl) (fun _ _ _ h => h) (Or.inl ⟨by rfl, ?_⟩) (by assumption) ?_
              rotate_left
              · intro wt hSt
                try dsimp only at hSt
                first | (go_simp; done) | (go_simp; with_reducible rfl)
              simp only [Act.put, List.setIfInBounds_toArray, List.set_cons_zero, List.set_cons_succ, List.getElem_toArray, List.getElem_cons_zero, List.getElem_cons_succ]
              refine wpAnyH_take (i := 5) (v := ?_) rfl (by kernel_rfl) (by kernel_rfl) (by kernel_rfl) (fun _ _ _ h => h) (Or.inl ⟨by rfl, ?_⟩) (by assumption) ?_
              rotate_left
              · intro wt hSt
                try dsimp only at hSt
                first | (go_simp; done) | (go_simp; with_reducible rfl)
              simp only [Act.put, List.setIfInBounds_toArray, List.set_cons_zero, List.set_cons_succ, List.getElem_toArray, List.getElem_cons_zero, List.getElem_cons_succ]
              refine wpAnyH_take (i := 6) (v := ?_) rfl (by kernel_rfl) (by kernel_rfl) (by kernel_rfl) (fun _ _ _ h => h) (Or.inl ⟨by rfl, ?_⟩) (by assumption) ?_
              rotate_left
              · intro wt hSt
                try dsimp only at hSt
                first | (go_simp; done) | (go_simp; with_reducible rfl)
              simp only [Act.put, List.setIfInBounds_toArray, List.set_cons_zero, List.set_cons_succ, List.getElem_toArray, List.getElem_cons_zero, List.getElem_cons_succ]
              refine wpAnyH_ready (rs := [7]) (by kernel_rfl) (by simp) ?_
              refine AllReadyH.cons rfl (fun K hK => ?_) AllReadyH.nil
              go_simp
              go_at_call 13
              refine (hGet _ (rB.drewN 1)).out.mono ?_
              rintro xx v5 ⟨rfl, hb5'⟩
              have hb5 : Below wr.heap.size wr v5 := below_chain (bdrew (Below.refl _ _)) hb5'
              go_wp2_with fail
              refine hK.out _ _ ⟨kept a6 hb5, kept jB hb5, kept r0 hb5⟩ (fun hHeldN => ?_)
              clear hK K hHeld
              have hHeld := hHeldN
              clear hHeldN
              refine wpAnyH_take (i := 8) (v := ?_) rfl (by kernel_rfl) (by kernel_rfl) (by kernel_rfl) (fun _ _ _ h => h) (Or.inl ⟨by rfl, ?_⟩) (by assumption) ?_
              rotate_left
              · intro wt hSt
                try dsimp only at hSt
                first | (go_simp; done) | (go_simp; with_reducible rfl)
              simp only [Act.put, List.setIfInBounds_toArray, List.set_cons_zero, List.set_cons_succ, List.getElem_toArray, List.getElem_cons_zero, List.getElem_cons_succ]
              refine wpAnyH_take (i := 9) (v := ?_) rfl (by kernel_rfl) (by kernel_rfl) (by kernel_rfl) (fun _ _ _ h => h) (Or.inl ⟨by rfl, ?_⟩) (by assumption) ?_
              rotate_left
              · intro wt hSt
                try dsimp only at hSt
                first | (go_simp; done) | (go_simp; with_reducible rfl)
              simp only [Act.put, List.setIfInBounds_toArray, List.set_cons_zero, List.set_cons_succ, List.getElem_toArray, List.getElem_cons_zero, List.getElem_cons_succ]
              refine wpAnyH_take (i := 10) (v := ?_) rfl (by kernel_rfl) (by kernel_rfl) (by kernel_rfl) (fun _ _ _ h => h) (Or.inl ⟨by rfl, ?_⟩) (by assumption) ?_
              rotate_left
              · intro wt hSt
                try dsimp only at hSt
                first | (go_simp; done) | (go_simp; with_reducible rfl)
              simp only [Act.put, List.setIfInBounds_toArray, List.set_cons_zero, List.set_cons_succ, List.getElem_toArray, List.getElem_cons_zero, List.getElem_cons_succ]
              refine wpAnyH_take (i := 11) (v := ?_) rfl (by kernel_rfl) (by kernel_rfl) (by kernel_rfl) (fun _ _ _ h => h) (Or.inl ⟨by rfl, ?_⟩) (by assumption) ?_
              rotate_left
              · intro wt hSt
                try dsimp only at hSt
                first | (go_simp; done) | (go_simp; with_reducible rfl)
              simp only [Act.put, List.setIfInBounds_toArray, List.set_cons_zero, List.set_cons_succ, List.getElem_toArray, List.getElem_cons_zero, List.getElem_cons_succ]
              refine wpAnyH_take (i := 12) (v := ?_) rfl (by kernel_rfl) (by kernel_rfl) (by kernel_rfl) (fun _ _ _ h => h) (Or.inl ⟨by rfl, ?_⟩) (by assumption) ?_
              rotate_left
              · intro wt hSt
                try dsimp only at hSt
                first | (go_simp; done) | (go_simp; with_reducible rfl)
              simp only [Act.put, List.setIfInBounds_toArray, List.set_cons_zero, List.set_cons_succ, List.getElem_toArray, List.getElem_cons_zero, List.getElem_cons_succ]
              refine wpAnyH_take (i := 13) (v := ?_) rfl (by kernel_rfl) (by kernel_rfl) (by kernel_rfl) (fun _ _ _ h => h) (Or.inl ⟨by rfl, ?_⟩) (by assumption) ?_
              rotate_left
              · intro wt hSt
                try dsimp only at hSt
                first | (go_simp; done) | (go_simp; with_reducible rfl)
              simp only [Act.put, List.setIfInBounds_toArray, List.set_cons_zero, List.set_cons_succ, List.getElem_toArray, List.getElem_cons_zero, List.getElem_cons_succ]
              refine wpAnyH_take (i := 14) (v := ?_) rfl (by kernel_rfl) (by kernel_rfl) (by kernel_rfl) (fun _ _ _ h => h) (Or.inl ⟨by rfl, ?_⟩) (by assumption) ?_
              rotate_left
              · intro wt hSt
                try dsimp only at hSt
                first | (go_simp; done) | (go_simp; with_reducible rfl)
              simp only [Act.put, List.setIfInBounds_toArray, List.set_cons_zero, List.set_cons_succ, List.getElem_toArray, List.getElem_cons_zero, List.getElem_cons_succ]
              refine wpAnyH_done (by kernel_rfl) ?_ _
              have r1' := kept r1 hb5
              clear hGet
              go_wp2
              go_roundw
              case rel => exact ⟨j + 1, by omega, by omega, by go_num, HNF2, below_chain hbl hb5⟩
              case measure => simp [intOf]; omega
            case pos =>
              subst huv
              by_cases hat : atv ≤ due
              case neg =>
                have HNF2 := HNF1 (by rintro ⟨_, h⟩; exact hat h)
                have cat' : decide (atv ≤ due) = false := decide_eq_false hat
                clear HNF1 hgn hst hat
                go_wp2
                refine wp_region_held_drew (S := fun W => W.cell? ⟨g7, 6, none⟩ = some (.slice (some ⟨gB, oB, none⟩) qs.length e') ∧ W.cell? ⟨gB, oB + j, none⟩ = some (.slice P1 T.length P2) ∧ W.cell? ⟨w.heap.size + 1, 0, none⟩ = some (.string (S na))) (by kernel_rfl) ⟨a6, jB, r0⟩ (fun hHeld => ?_)
                refine wpAnyH_take (i := 0) (v := ?_) rfl (by kernel_rfl) (by kernel_rfl) (by kernel_rfl) (fun _ _ _ h => h) (Or.inl ⟨by rfl, ?_⟩) (by assumption) ?_
                rotate_left
                · intro wt hSt
                  try dsimp only at hSt
                  first | (go_simp; done) | (go_simp; with_reducible rfl)
                simp only [Act.put, List.setIfInBounds_toArray, List.set_cons_zero, List.set_cons_succ, List.getElem_toArray, List.getElem_cons_zero]
                refine wpAnyH_take (i := 1) (v := ?_) rfl (by kernel_rfl) (by kernel_rfl) (by kernel_rfl) (fun _ _ _ h => h) (Or.inl ⟨by rfl, ?_⟩) (by assumption) ?_
                rotate_left
                · intro wt hSt
                  try dsimp only at hSt
                  first | (go_simp; done) | (go_simp; with_reducible rfl)
                simp only [Act.put, List.setIfInBounds_toArray, List.set_cons_zero, List.set_cons_succ, List.getElem_toArray, List.getElem_cons_zero, List.getElem_cons_succ]
                refine wpAnyH_take (i := 2) (v := ?_) rfl (by kernel_rfl) (by kernel_rfl) (by kernel_rfl) (fun _ _ _ h => h) (Or.inl ⟨by rfl, ?_⟩) (by assumption) ?_
                rotate_left
                · intro wt hSt
                  try dsimp only at hSt
                  first | (go_simp; done) | (go_simp; with_reducible rfl)
                simp only [Act.put, List.setIfInBounds_toArray, List.set_cons_zero, List.set_cons_succ, List.getElem_toArray, List.getElem_cons_zero, List.getElem_cons_succ]
                refine wpAnyH_take (i := 3) (v := ?_) rfl (by kernel_rfl) (by kernel_rfl) (by kernel_rfl) (fun _ _ _ h => h) (Or.inl ⟨by rfl, ?_⟩) (by assumption) ?_
                rotate_left
                · intro wt hSt
                  try dsimp only at hSt
                  first | (go_simp; done) | (go_simp; with_reducible rfl)
                simp only [Act.put, List.setIfInBounds_toArray, List.set_cons_zero, List.set_cons_succ, List.getElem_toArray, List.getElem_cons_zero, List.getElem_cons_succ]
                refine wpAnyH_take (i := 4) (v := ?_) rfl (by kernel_rfl) (by kernel_rfl) (by kernel_rfl) (fun _ _ _ h => h) (Or.inl ⟨by rfl, ?_⟩) (by assumption) ?_
                rotate_left
                · intro wt hSt
                  try dsimp only at hSt
                  first | (go_simp; done) | (go_simp; with_reducible rfl)
                simp only [Act.put, List.setIfInBounds_toArray, List.set_cons_zero, List.set_cons_succ, List.getElem_toArray, List.getElem_cons_zero, List.getElem_cons_succ]
                refine wpAnyH_take (i := 5) (v := ?_) rfl (by kernel_rfl) (by kernel_rfl) (by kernel_rfl) (fun _ _ _ h => h) (Or.inl ⟨by rfl, ?_⟩) (by assumption) ?_
                rotate_left
                · intro wt hSt
                  try dsimp only at hSt
                  first | (go_simp; done) | (go_simp; with_reducible rfl)
                simp only [Act.put, List.setIfInBounds_toArray, List.set_cons_zero, List.set_cons_succ, List.getElem_toArray, List.getElem_cons_zero, List.getElem_cons_succ]
                refine wpAnyH_take (i := 6) (v := ?_) rfl (by kernel_rfl) (by kernel_rfl) (by kernel_rfl) (fun _ _ _ h => h) (Or.inl ⟨by rfl, ?_⟩) (by assumption) ?_
                rotate_left
                · intro wt hSt
                  try dsimp only at hSt
                  first | (go_simp; done) | (go_simp; with_reducible rfl)
                simp only [Act.put, List.setIfInBounds_toArray, List.set_cons_zero, List.set_cons_succ, List.getElem_toArray, List.getElem_cons_zero, List.getElem_cons_succ]
                refine wpAnyH_ready (rs := [7]) (by kernel_rfl) (by simp) ?_
                refine AllReadyH.cons rfl (fun K hK => ?_) AllReadyH.nil
                go_simp
                go_at_call 13
                refine (hGet _ (rB.drewN 1)).out.mono ?_
                rintro xx v5 ⟨rfl, hb5'⟩
                have hb5 : Below wr.heap.size wr v5 := below_chain (bdrew (Below.refl _ _)) hb5'
                go_wp2_with fail
                refine hK.out _ _ ⟨kept a6 hb5, kept jB hb5, kept r0 hb5⟩ (fun hHeldN => ?_)
                clear hK K hHeld
                have hHeld := hHeldN
                clear hHeldN
                refine wpAnyH_take (i := 8) (v := ?_) rfl (by kernel_rfl) (by kernel_rfl) (by kernel_rfl) (fun _ _ _ h => h) (Or.inl ⟨by rfl, ?_⟩) (by assumption) ?_
                rotate_left
                · intro wt hSt
                  try dsimp only at hSt
                  first | (go_simp; done) | (go_simp; with_reducible rfl)
                simp only [Act.put, List.setIfInBounds_toArray, List.set_cons_zero, List.set_cons_succ, List.getElem_toArray, List.getElem_cons_zero, List.getElem_cons_succ]
                refine wpAnyH_take (i := 9) (v := ?_) rfl (by kernel_rfl) (by kernel_rfl) (by kernel_rfl) (fun _ _ _ h => h) (Or.inl ⟨by rfl, ?_⟩) (by assumption) ?_
                rotate_left
                · intro wt hSt
                  try dsimp only at hSt
                  first | (go_simp; done) | (go_simp; with_reducible rfl)
                simp only [Act.put, List.setIfInBounds_toArray, List.set_cons_zero, List.set_cons_succ, List.getElem_toArray, List.getElem_cons_zero, List.getElem_cons_succ]
                refine wpAnyH_take (i := 10) (v := ?_) rfl (by kernel_rfl) (by kernel_rfl) (by kernel_rfl) (fun _ _ _ h => h) (Or.inl ⟨by rfl, ?_⟩) (by assumption) ?_
                rotate_left
                · intro wt hSt
                  try dsimp only at hSt
                  first | (go_simp; done) | (go_simp; with_reducible rfl)
                simp only [Act.put, List.setIfInBounds_toArray, List.set_cons_zero, List.set_cons_succ, List.getElem_toArray, List.getElem_cons_zero, List.getElem_cons_succ]
                refine wpAnyH_take (i := 11) (v := ?_) rfl (by kernel_rfl) (by kernel_rfl) (by kernel_rfl) (fun _ _ _ h => h) (Or.inl ⟨by rfl, ?_⟩) (by assumption) ?_
                rotate_left
                · intro wt hSt
                  try dsimp only at hSt
                  first | (go_simp; done) | (go_simp; with_reducible rfl)
                simp only [Act.put, List.setIfInBounds_toArray, List.set_cons_zero, List.set_cons_succ, List.getElem_toArray, List.getElem_cons_zero, List.getElem_cons_succ]
                refine wpAnyH_take (i := 12) (v := ?_) rfl (by kernel_rfl) (by kernel_rfl) (by kernel_rfl) (fun _ _ _ h => h) (Or.inl ⟨by rfl, ?_⟩) (by assumption) ?_
                rotate_left
                · intro wt hSt
                  try dsimp only at hSt
                  first | (go_simp; done) | (go_simp; with_reducible rfl)
                simp only [Act.put, List.setIfInBounds_toArray, List.set_cons_zero, List.set_cons_succ, List.getElem_toArray, List.getElem_cons_zero, List.getElem_cons_succ]
                refine wpAnyH_take (i := 13) (v := ?_) rfl (by kernel_rfl) (by kernel_rfl) (by kernel_rfl) (fun _ _ _ h => h) (Or.inl ⟨by rfl, ?_⟩) (by assumption) ?_
                rotate_left
                · intro wt hSt
                  try dsimp only at hSt
                  first | (go_simp; done) | (go_simp; with_reducible rfl)
                simp only [Act.put, List.setIfInBounds_toArray, List.set_cons_zero, List.set_cons_succ, List.getElem_toArray, List.getElem_cons_zero, List.getElem_cons_succ]
                refine wpAnyH_take (i := 14) (v := ?_) rfl (by kernel_rfl) (by kernel_rfl) (by kernel_rfl) (fun _ _ _ h => h) (Or.inl ⟨by rfl, ?_⟩) (by assumption) ?_
                rotate_left
                · intro wt hSt
                  try dsimp only at hSt
                  first | (go_simp; done) | (go_simp; with_reducible rfl)
                simp only [Act.put, List.setIfInBounds_toArray, List.set_cons_zero, List.set_cons_succ, List.getElem_toArray, List.getElem_cons_zero, List.getElem_cons_succ]
                refine wpAnyH_done (by kernel_rfl) ?_ _
                have a5' := kept a5 hb5
                have r1' := kept r1 hb5
                have l3' := kept l3 hb5
                clear hGet
                go_wp2
                go_roundw
                case rel => exact ⟨j + 1, by omega, by omega, by go_num, HNF2, below_chain hbl hb5⟩
                case measure => simp [intOf]; omega
              case pos =>
                have cat' : decide (atv ≤ due) = true := decide_eq_true hat
                clear HNF1 hgn hst hat
                go_wp2
                refine wp_region_held_drew (S := fun W => W.cell? ⟨g7, 6, none⟩ = some (.slice (some ⟨gB, oB, none⟩) qs.length e') ∧ W.cell? ⟨gB, oB + j, none⟩ = some (.slice P1 T.length P2) ∧ W.cell? ⟨w.heap.size + 1, 0, none⟩ = some (.string (S na))) (by kernel_rfl) ⟨a6, jB, r0⟩ (fun hHeld => ?_)
                refine wpAnyH_take (i := 0) (v := ?_) rfl (by kernel_rfl) (by kernel_rfl) (by kernel_rfl) (fun _ _ _ h => h) (Or.inl ⟨by rfl, ?_⟩) (by assumption) ?_
                rotate_left
                · intro wt hSt
                  try dsimp only at hSt
                  first | (go_simp; done) | (go_simp; with_reducible rfl)
                simp only [Act.put, List.setIfInBounds_toArray, List.set_cons_zero, List.set_cons_succ, List.getElem_toArray, List.getElem_cons_zero]
                refine wpAnyH_take (i := 1) (v := ?_) rfl (by kernel_rfl) (by kernel_rfl) (by kernel_rfl) (fun _ _ _ h => h) (Or.inl ⟨by rfl, ?_⟩) (by assumption) ?_
                rotate_left
                · intro wt hSt
                  try dsimp only at hSt
                  first | (go_simp; done) | (go_simp; with_reducible rfl)
                simp only [Act.put, List.setIfInBounds_toArray, List.set_cons_zero, List.set_cons_succ, List.getElem_toArray, List.getElem_cons_zero, List.getElem_cons_succ]
                refine wpAnyH_take (i := 2) (v := ?_) rfl (by kernel_rfl) (by kernel_rfl) (by kernel_rfl) (fun _ _ _ h => h) (Or.inl ⟨by rfl, ?_⟩) (by assumption) ?_
                rotate_left
                · intro wt hSt
                  try dsimp only at hSt
                  first | (go_simp; done) | (go_simp; with_reducible rfl)
                simp only [Act.put, List.setIfInBounds_toArray, List.set_cons_zero, List.set_cons_succ, List.getElem_toArray, List.getElem_cons_zero, List.getElem_cons_succ]
                refine wpAnyH_take (i := 3) (v := ?_) rfl (by kernel_rfl) (by kernel_rfl) (by kernel_rfl) (fun _ _ _ h => h) (Or.inl ⟨by rfl, ?_⟩) (by assumption) ?_
                rotate_left
                · intro wt hSt
                  try dsimp only at hSt
                  first | (go_simp; done) | (go_simp; with_reducible rfl)
                simp only [Act.put, List.setIfInBounds_toArray, List.set_cons_zero, List.set_cons_succ, List.getElem_toArray, List.getElem_cons_zero, List.getElem_cons_succ]
                refine wpAnyH_take (i := 4) (v := ?_) rfl (by kernel_rfl) (by kernel_rfl) (by kernel_rfl) (fun _ _ _ h => h) (Or.inl ⟨by rfl, ?_⟩) (by assumption) ?_
                rotate_left
                · intro wt hSt
                  try dsimp only at hSt
                  first | (go_simp; done) | (go_simp; with_reducible rfl)
                simp only [Act.put, List.setIfInBounds_toArray, List.set_cons_zero, List.set_cons_succ, List.getElem_toArray, List.getElem_cons_zero, List.getElem_cons_succ]
                refine wpAnyH_take (i := 5) (v := ?_) rfl (by kernel_rfl) (by kernel_rfl) (by kernel_rfl) (fun _ _ _ h => h) (Or.inl ⟨by rfl, ?_⟩) (by assumption) ?_
                rotate_left
                · intro wt hSt
                  try dsimp only at hSt
                  first | (go_simp; done) | (go_simp; with_reducible rfl)
                simp only [Act.put, List.setIfInBounds_toArray, List.set_cons_zero, List.set_cons_succ, List.getElem_toArray, List.getElem_cons_zero, List.getElem_cons_succ]
                refine wpAnyH_take (i := 6) (v := ?_) rfl (by kernel_rfl) (by kernel_rfl) (by kernel_rfl) (fun _ _ _ h => h) (Or.inl ⟨by rfl, ?_⟩) (by assumption) ?_
                rotate_left
                · intro wt hSt
                  try dsimp only at hSt
                  first | (go_simp; done) | (go_simp; with_reducible rfl)
                simp only [Act.put, List.setIfInBounds_toArray, List.set_cons_zero, List.set_cons_succ, List.getElem_toArray, List.getElem_cons_zero, List.getElem_cons_succ]
                refine wpAnyH_ready (rs := [7]) (by kernel_rfl) (by simp) ?_
                refine AllReadyH.cons rfl (fun K hK => ?_) AllReadyH.nil
                go_simp
                go_at_call 13
                refine (hGet _ (rB.drewN 1)).out.mono ?_
                rintro xx v5 ⟨rfl, hb5'⟩
                have hb5 : Below wr.heap.size wr v5 := below_chain (bdrew (Below.refl _ _)) hb5'
                go_wp2_with fail
                refine hK.out _ _ ⟨kept a6 hb5, kept jB hb5, kept r0 hb5⟩ (fun hHeldN => ?_)
                clear hK K hHeld
                have hHeld := hHeldN
                clear hHeldN
                refine wpAnyH_take (i := 8) (v := ?_) rfl (by kernel_rfl) (by kernel_rfl) (by kernel_rfl) (fun _ _ _ h => h) (Or.inl ⟨by rfl, ?_⟩) (by assumption) ?_
                rotate_left
                · intro wt hSt
                  try dsimp only at hSt
                  first | (go_simp; done) | (go_simp; with_reducible rfl)
                simp only [Act.put, List.setIfInBounds_toArray, List.set_cons_zero, List.set_cons_succ, List.getElem_toArray, List.getElem_cons_zero, List.getElem_cons_succ]
                refine wpAnyH_take (i := 9) (v := ?_) rfl (by kernel_rfl) (by kernel_rfl) (by kernel_rfl) (fun _ _ _ h => h) (Or.inl ⟨by rfl, ?_⟩) (by assumption) ?_
                rotate_left
                · intro wt hSt
                  try dsimp only at hSt
                  first | (go_simp; done) | (go_simp; with_reducible rfl)
                simp only [Act.put, List.setIfInBounds_toArray, List.set_cons_zero, List.set_cons_succ, List.getElem_toArray, List.getElem_cons_zero, List.getElem_cons_succ]
                refine wpAnyH_take (i := 10) (v := ?_) rfl (by kernel_rfl) (by kernel_rfl) (by kernel_rfl) (fun _ _ _ h => h) (Or.inl ⟨by rfl, ?_⟩) (by assumption) ?_
                rotate_left
                · intro wt hSt
                  try dsimp only at hSt
                  first | (go_simp; done) | (go_simp; with_reducible rfl)
                simp only [Act.put, List.setIfInBounds_toArray, List.set_cons_zero, List.set_cons_succ, List.getElem_toArray, List.getElem_cons_zero, List.getElem_cons_succ]
                refine wpAnyH_take (i := 11) (v := ?_) rfl (by kernel_rfl) (by kernel_rfl) (by kernel_rfl) (fun _ _ _ h => h) (Or.inl ⟨by rfl, ?_⟩) (by assumption) ?_
                rotate_left
                · intro wt hSt
                  try dsimp only at hSt
                  first | (go_simp; done) | (go_simp; with_reducible rfl)
                simp only [Act.put, List.setIfInBounds_toArray, List.set_cons_zero, List.set_cons_succ, List.getElem_toArray, List.getElem_cons_zero, List.getElem_cons_succ]
                refine wpAnyH_take (i := 12) (v := ?_) rfl (by kernel_rfl) (by kernel_rfl) (by kernel_rfl) (fun _ _ _ h => h) (Or.inl ⟨by rfl, ?_⟩) (by assumption) ?_
                rotate_left
                · intro wt hSt
                  try dsimp only at hSt
                  first | (go_simp; done) | (go_simp; with_reducible rfl)
                simp only [Act.put, List.setIfInBounds_toArray, List.set_cons_zero, List.set_cons_succ, List.getElem_toArray, List.getElem_cons_zero, List.getElem_cons_succ]
                refine wpAnyH_take (i := 13) (v := ?_) rfl (by kernel_rfl) (by kernel_rfl) (by kernel_rfl) (fun _ _ _ h => h) (Or.inl ⟨by rfl, ?_⟩) (by assumption) ?_
                rotate_left
                · intro wt hSt
                  try dsimp only at hSt
                  first | (go_simp; done) | (go_simp; with_reducible rfl)
                simp only [Act.put, List.setIfInBounds_toArray, List.set_cons_zero, List.set_cons_succ, List.getElem_toArray, List.getElem_cons_zero, List.getElem_cons_succ]
                refine wpAnyH_take (i := 14) (v := ?_) rfl (by kernel_rfl) (by kernel_rfl) (by kernel_rfl) (fun _ _ _ h => h) (Or.inl ⟨by rfl, ?_⟩) (by assumption) ?_
                rotate_left
                · intro wt hSt
                  try dsimp only at hSt
                  first | (go_simp; done) | (go_simp; with_reducible rfl)
                simp only [Act.put, List.setIfInBounds_toArray, List.set_cons_zero, List.set_cons_succ, List.getElem_toArray, List.getElem_cons_zero, List.getElem_cons_succ]
                refine wpAnyH_done (by kernel_rfl) ?_ _
                have a5' := kept a5 hb5
                have r1' := kept r1 hb5
                have l3' := kept l3 hb5
                clear hGet
                go_wp2
                go_ret
                exact ⟨rfl, below_chain hbw3 hb5⟩
        · by_cases hno : (∀ x ∈ k.wait ++ s, x.1 ≠ na)
          · exfalso
            obtain ⟨i, h1, h2, h3, h4⟩ := ((HD.out hno).had hst.good hdn)
            exact HNF.out i h1 (by have := HQK.out; omega) h2 h3 h4
          · have hex : ∃ x ∈ k.wait ++ s, x.1 = na := by
              by_cases h : ∃ x ∈ k.wait ++ s, x.1 = na
              · exact h
              · exact absurd (fun x hx e => h ⟨x, hx, e⟩) hno
            have HEX := Lib.hid hex
            have hCl := fun (w : World) h => Lib.hid (cloneAsks0 A c k.wait w (by have := HSM.out.q; omega) h)
            have hx0w := hx0.below hbl
            have hx1w := hx1.below hbl
            obtain ⟨q0, q1, q2, q3, q4, q5, q6⟩ := hx0w.get7
            have a6' := kept a6 hbl
            have hS3 := hS.below hbw3
            have hsm48 : (k.wait.length + s.length) * 48 ≤ 140737488355328 := by have := HSM.out.q; omega
            have hlt1 := hx1w.lt
            clear hno hex hst HNF a5 a6 r0 r1 hx0 hx1
            go_wp2_with fail
            refine (hCl _ (hA.below hbw3)).out.mono ?_
            rintro xx v5 ⟨D5, d5, rfl, hown5, hb5⟩
            have hx1v := hx1w.below hb5
            have hS5 := hS3.below hb5
            have hbv5 := below_chain hbw3 hb5
            clear hCl q0 q1 q2 q3 q4 q5 q6 a6' hx0w hx1w hS3
            go_wp2_with (at_builtin; refine app_asks0 _ rfl _ _ rfl wr.heap.size (.slice D5 k.wait.length d5) k.wait rfl hown5 Q cq s rfl hS5 hsm48 hb5.size ?_; intro v6 w6 hown6 hgrow6)
            obtain ⟨D6, d6, rfl⟩ := own_shape hown6
            have hb6 : Below w.heap.size w w6 := hbv5.grown hgrow6 hbv5.size (fun q hq => Nat.le_trans hbw3.size (hown5.lt q hq).1)
            have hx1z := hx1v.kept hgrow6 (fun h => by have h1 := (hown5.lt _ h.symm).1; omega)
            obtain ⟨L, hL⟩ : ∃ L, k.wait ++ s = L := ⟨_, rfl⟩
            rw [hL] at hown6
            have HEX2 : Hid (∃ x ∈ L, x.1 = na) := by rw [← hL]; exact HEX.out
            have hLn : L.length ≤ 9223372036854775807 := by rw [← hL, List.length_append]; omega
            have hCo := fun (w' : World) h1 h2 => Lib.hid (dueContains D6 d6 L (w.heap.size + 1) na w' hLn h1 h2 HEX2.out)
            rw [hL]
            have r0z := hx1z.get4.1.1
            clear HEX HEX2 hown5 hb5 hS5 hx1v hx1z hgrow6 hL
            go_wp2_with fail
            refine (hCo _ (Row.ownN hown6) r0z).out.mono ?_
            rintro xx v7 ⟨rfl, hb7⟩
            go_wp2
            go_ret
            exact ⟨rfl, below_chain hb6 hb7⟩
theorem clerkDue_walk (m ba ev nw : Int) (A I B : Option Addr) (c d e : Nat) (l : List Ak) (hs : List Hd) (bs : List Bp) (na va : Bytes) (nu tg : Nat) (Q : Option Addr) (cq : Nat) (s : List Ak) (w : World)
    (hq : l.length ≤ maxLen ∧ Row w A (qcells l) ∧ l.length ≤ c ∧ c ≤ maxLen ∧ (∀ x ∈ l, (x.1.length ≤ maxLen ∧ x.2.1.length ≤ maxLen) ∧ x.2.2.1 < 18446744073709551616 ∧ x.2.2.2 < 18446744073709551616))
    (hh : hs.length ≤ maxLen ∧ Row w I (hcells hs) ∧ hs.length ≤ d ∧ d ≤ maxLen ∧ (∀ x ∈ hs, (-9223372036854775808 ≤ x.1 ∧ x.1 ≤ 9223372036854775807) ∧ x.2.1 < 18446744073709551616 ∧ x.2.2.1 < 18446744073709551616 ∧ (-9223372036854775808 ≤ x.2.2.2 ∧ x.2.2.2 ≤ 9223372036854775807)))
    (hk : bs.length ≤ maxLen ∧ Books w B bs ∧ bs.length ≤ e ∧ e ≤ maxLen ∧ ∀ p ∈ bs, (p.2.2.length ≤ maxLen ∧ ∀ x ∈ p.2.2, x.1.length ≤ maxLen ∧ x.2.length ≤ maxLen) ∧ p.2.2.length ≤ p.2.1)
    (hna : na.length ≤ maxLen) (hva : va.length ≤ maxLen)
    (hs1 : s.length * 48 ≤ 140737488351232) (hS : Row w Q (qcells s)) (hsf : ∀ x ∈ s, (x.1.length ≤ maxLen ∧ x.2.1.length ≤ maxLen) ∧ x.2.2.1 < 18446744073709551616 ∧ x.2.2.2 < 18446744073709551616) :
    Calls Try.prog 4 #[.agg #[.int .i64 m, .slice A l.length c, .int .i64 ba, .int .i64 ev, .int .i64 nw, .slice I hs.length d, .slice B bs.length e], .agg #[.string (S na), .string (S va), .int .u64 (nu : Int), .int .u64 (tg : Int)], .slice Q s.length cq] w fun e w' => e = .returned (.bool true) ∧ Below w.heap.size w w' := by
  by_cases h0 : ckfault ⟨m, l, ba, ev, nw, hs, bks bs⟩ = 0
  · have hg := (ckfault_ok _).1 h0
    by_cases h1 : ckAskErr ⟨m, l, ba, ev, nw, hs, bks bs⟩ na va = 0
    · have hAk := fun (w : World) g1 g2 g3 => Lib.hid (clerkAskG_ok ⟨m, l, ba, ev, nw, hs, bks bs⟩ A I B c d e bs rfl na va nu tg w hna hva hg g1 g2 g3 h1 _ rfl _ rfl)
      by_cases hf : 60 < dueOf ⟨m, l, ba, ev, nw, hs, bks bs⟩ - nw
      · exact clerkDue_far ⟨m, l, ba, ev, nw, hs, bks bs⟩ A I B c d e bs na va nu tg Q cq s w _ _ (dueOf_gt hg) (dueOf_le hg) (by have := hg.range; unfold rangeBad at this; omega) hf hq.2.1 hh.2.1 hk.2.1 hAk
      · exact clerkDue_near ⟨m, l, ba, ev, nw, hs, bks bs⟩ A I B c d e bs na va nu tg Q cq s w rfl hg hna h1 _ rfl _ rfl hf hs1 hsf hq.2.1 hh.2.1 hk.2.1 hS hAk
    · exact clerkDue_no ⟨m, l, ba, ev, nw, hs, bks bs⟩ A I B c d e bs na va nu tg Q cq s w _ h1 hq.2.1 hh.2.1 hk.2.1 (fun w g1 g2 g3 => Lib.hid (clerkAskG_no ⟨m, l, ba, ev, nw, hs, bks bs⟩ A I B c d e bs rfl na va nu tg w hna hva hg g1 g2 g3 _ rfl h1))
  · exact clerkDue_no ⟨m, l, ba, ev, nw, hs, bks bs⟩ A I B c d e bs na va nu tg Q cq s w _ h0 hq.2.1 hh.2.1 hk.2.1 (fun w g1 g2 g3 => Lib.hid (clerkAsk_fault m ba ev nw l hs bs A I B c d e na va nu tg w hq.1 (fun x hx => (hq.2.2.2.2 x hx).1) hh.1 hk.1 (fun p hp => (hk.2.2.2.2 p hp).1) g1 g2 g3 _ rfl h0))
set_option maxRecDepth 100000 in
theorem clerkDue_lifted (os : Os) (started : os.Started) (H : Type) (enc : TypeId × Value → H) :
    ReturnsInHanded {} Try.checked os 4 .any (Rows.clerkDueSpec.pre6 enc Try.prog Try.f4 Rows.clerkDueRow.domain false) (Rows.clerkDueSpec.post enc Try.prog Try.f4 false true false false) := by
  refine returnsInHanded_of_change_sized (C := Try.checked) own started (by kernel_rfl) Try.func4
    (ChangeSpec.witness6 (enc := enc) (C := Try.checked) false ⟨#[], #[.agg #[.int .i64 0, .slice none 0 0, .int .i64 0, .int .i64 0, .int .i64 0, .slice none 0 0, .slice none 0 0], .agg #[.string ⟨#[]⟩, .string ⟨#[]⟩, .int .u64 0, .int .u64 0], .slice none 0 0], []⟩ 8 (by kernel_rfl) (by kernel_rfl) (by kernel_rfl) (by kernel_rfl)) ?_
  intro W base args ds gs before hval0 hW hcnd hsz _
  have hval : ∀ (j : Nat) t v, Try.f4.params[j]? = some t → args[j]? = some v → Value.okWide Try.prog W .any base t v := hval0
  have hW' := hW
  obtain ⟨p, q, hA0, hV, rfl, hfz, hnd⟩ := hW
  have hA : DataW.TrodAll enc Try.prog W 0 (fun _ => true) true Try.f4.params.toList args.toList ds p := hA0
  rw [Try.params4] at hA hval
  obtain ⟨v0, vs0, d0, ds0, p0, q0, hargs, rfl, rfl, h0, r0⟩ := trodAll_cons hA
  obtain ⟨v1, vs1, d1, ds1, p1, q1, rfl, rfl, rfl, h1, r1⟩ := trodAll_cons r0
  obtain ⟨v2, vs2, d2, ds2, p2, q2, rfl, rfl, rfl, h2, r2⟩ := trodAll_cons r1
  obtain ⟨rfl, rfl, rfl⟩ := trodAll_nil r2
  obtain rfl : args = #[v0, v1, v2] := by cases args; simp_all
  obtain ⟨rfl, rfl⟩ := trodVars_none hV
  rw [Try.params4] at hsz
  obtain ⟨m0, ba0, ev0, nw0, A0, I0, B0, c0, dd0, e0, s0, g0, bs0, rfl, hi0, hq0, hh0, hk0⟩ := arg_clerk (hval 0 28 v0 rfl rfl) h0
  obtain ⟨n1, w1, x1, t1, rfl, hn1, hw1, hx1, ht1⟩ := arg_ask (hval 1 35 v1 rfl rfl) h1
  obtain ⟨A2, c2, s2, rfl, hm2, hr2, hc2, hs2⟩ := arg_asks_sized (j := 2) hsz rfl rfl (hval 2 22 v2 rfl rfl) h2
  refine (clerkDue_walk m0 ba0 ev0 nw0 A0 I0 B0 c0 dd0 e0 s0 g0 bs0 n1 w1 x1 t1 A2 c2 s2 W hq0 hh0 hk0 hn1 hw1 hm2 hr2 hs2).mono fun e W' ⟨he, hb⟩ => ?_
  subst he
  exact ⟨_, rfl, post_law laidOut (by decide +kernel) rfl Try.underlying4 (by kernel_rfl) hW' rfl hb⟩

/-- The statement. -/
theorem clerkDue_said : Rows.ClerkDueSaid :=
  OpenClaim.holds_of_wide 4 Try.f4 rfl rfl rfl rfl rfl rfl rfl ⟨rfl, rfl, rfl, rfl, rfl⟩ rfl rfl rfl rfl rfl (by kernel_rfl) Try.func4 (by kernel_rfl)
    (of_decide_eq_true (by kernel_rfl)) (by unfold Func.isWrapper; first | (rw [if_pos (by decide +kernel)]; kernel_rfl) | (rw [if_neg (by decide +kernel)]; exact ⟨rfl, rfl⟩))
    (fun os started H enc _ => clerkDue_lifted os started H enc)
#print axioms clerkDue_said
end Go.Proofs.Ytjcockcilkiggaa
