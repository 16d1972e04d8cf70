/- The law ChainForks returns true. -/
import Derived.Test.YthkhafgcpmoalaaChainFold
import Derived.Test.YthkhafgcpmoalaaRefChain
import Derived.Test.YthkhafgcpmoalaaRefHeadOf
import Derived.Test.YthkhafgcpmoalaaHeadAny
import Derived.Test.YthkhafgcpmoalaaHeadsArg
import Derived.Test.YthkhafgcpmoalaaLaw
import Derived.Deep.DeepCutAuto
import Derived.Deep.RegionHeld3
namespace Go.Proofs.Ythkhafgcpmoalaa
set_option maxRecDepth 100000
open Go.RowKit Go.ChangeShapes Go.WideShapes Go.ChangeAt

theorem Bx.eight {w : World} {g h : Nat} {vs : List Value} (k : Bx w g vs) (ne : h ≠ g) (a b c d e f i j : Value) :
    Bx ((((((((w.setCell ⟨h, 0, none⟩ a).setCell ⟨h, 1, none⟩ b).setCell ⟨h, 2, none⟩ c).setCell ⟨h, 3, none⟩ d).setCell ⟨h, 4, none⟩ e).setCell ⟨h, 5, none⟩ f).setCell ⟨h, 6, none⟩ i).setCell ⟨h, 7, none⟩ j) g vs :=
  have n : some g ≠ some h := fun e => ne (Option.some.inj e).symm
  (((((((k.kept (cell_grown _ h 0 a) n).kept (cell_grown _ h 1 b) n).kept (cell_grown _ h 2 c) n).kept (cell_grown _ h 3 d) n).kept (cell_grown _ h 4 e) n).kept (cell_grown _ h 5 f) n).kept (cell_grown _ h 6 i) n).kept (cell_grown _ h 7 j) n
theorem below_eight {B : Nat} {w w' : World} (hb : Below B w w') {g : Nat} (hg : B ≤ g) (a b c d e f i j : Value) :
    Below B w ((((((((w'.setCell ⟨g, 0, none⟩ a).setCell ⟨g, 1, none⟩ b).setCell ⟨g, 2, none⟩ c).setCell ⟨g, 3, none⟩ d).setCell ⟨g, 4, none⟩ e).setCell ⟨g, 5, none⟩ f).setCell ⟨g, 6, none⟩ i).setCell ⟨g, 7, none⟩ j) :=
  (((((((hb.setCell (p := ⟨g, 0, none⟩) hg a).setCell (p := ⟨g, 1, none⟩) hg b).setCell (p := ⟨g, 2, none⟩) hg c).setCell (p := ⟨g, 3, none⟩) hg d).setCell (p := ⟨g, 4, none⟩) hg e).setCell (p := ⟨g, 5, none⟩) hg f).setCell (p := ⟨g, 6, none⟩) hg i).setCell (p := ⟨g, 7, none⟩) hg j
theorem common_hof {a b : List Hd} (k : ComOk a b) (j : Nat) (i1 : j < (comA a b).length) (i2 : j < (comB a b).length) : hof a (comA a b)[j].1 = some (comA a b)[j] ∧ hof b (comA a b)[j].1 = some (comB a b)[j] := by
  obtain ⟨ka, kb⟩ := k.parts
  obtain ⟨hn0, _, h1, h2⟩ := k.len
  obtain ⟨a1, a2, a3, a4⟩ := ka.spot
  obtain ⟨b1, b2, b3, b4⟩ := kb.spot
  have cl : comLen a b = partLen (comFrom a b) (comTo a b) := rfl
  have hS : ∀ i (h : i < (comA a b).length), (comA a b)[i] = a[partAt a (comFrom a b) + i]'(by rw [h1] at h; omega) := fun i h => by simp only [comA, cut, List.getElem_take, List.getElem_drop]
  have hT : ∀ i (h : i < (comB a b).length), (comB a b)[i] = b[partAt b (comFrom a b) + i]'(by rw [h2] at h; omega) := fun i h => by simp only [comB, cut, List.getElem_take, List.getElem_drop]
  rw [hS j i1, hT j i2, k.g.epoch _ (by rw [h1] at i1; omega)]
  constructor
  · have := hof_at k.g (partAt a (comFrom a b) + j) (by rw [h1] at i1; omega)
    rw [← this, firstH_at k.g.pos]
  · have := hof_at k.h (partAt b (comFrom a b) + j) (by rw [h2] at i2; omega)
    rw [← this]
    congr 1
    rw [firstH_at k.g.pos] at a1
    push_cast
    omega
/-- What Fork and Clash answer for two chains. -/
structure Fk (a b : List Hd) (n e : Int) (s t : Bytes) (f : Int) : Prop where
  no : comTo a b < comFrom a b → n = 0 ∧ e = 5 ∧ s = [] ∧ t = [] ∧ f = 5
  yes : ComOk a b → n = forkAt (comA a b) (comB a b) ∧ e = 0
  mark : ComOk a b → hmark (lastH (comA a b)) ≠ hmark (lastH (comB a b)) → s = [] ∧ t = [] ∧ f = 8
  same : ComOk a b → hmark (lastH (comA a b)) = hmark (lastH (comB a b)) → comA a b = comB a b → s = [] ∧ t = [] ∧ f = 6
  diff : ComOk a b → hmark (lastH (comA a b)) = hmark (lastH (comB a b)) → ∀ (j : Nat) (h1 : j < (comA a b).length) (h2 : j < (comB a b).length), (comA a b)[j] ≠ (comB a b)[j] → (∀ (i : Nat) (i1 : i < (comA a b).length) (i2 : i < (comB a b).length), j < i → (comA a b)[i] = (comB a b)[i]) → s = hsaid (comA a b)[j] ∧ t = hsaid (comB a b)[j] ∧ f = 0
theorem chainFork_any (A B : Option Addr) (c d : Nat) (a b : List Hd) (w : World) (ga : CGood a) (gb : CGood b) (hca : a.length ≤ c) (hcm : c ≤ maxLen) (hdb : b.length ≤ d) (hdm : d ≤ maxLen) (hA : Row w A (hcells a)) (hB : Row w B (hcells b)) :
    Calls Try.prog 21 #[.slice A a.length c, .slice B b.length d] w fun e w' => e = .returned (.tuple #[.int .i64 (if comTo a b < comFrom a b then 0 else forkAt (comA a b) (comB a b)), .int .i64 (if comTo a b < comFrom a b then 5 else 0)]) ∧ Below w.heap.size w w' := by
  by_cases h : comTo a b < comFrom a b
  · rw [if_pos h, if_pos h]
    exact chainFork_no A B c d a b w (by omega) (by omega) hA hB 5 (by rw [comErr, if_pos ((cfault_ok a).2 ga), if_pos ((cfault_ok b).2 gb), if_pos h]) (by decide)
  · rw [if_neg h, if_neg h]
    exact chainFork_ok A B c d a b w hca hcm hdb hdm hA hB ⟨ga, gb, by omega⟩ _ rfl
theorem chainClash_any (A B : Option Addr) (c d : Nat) (a b : List Hd) (w : World) (ga : CGood a) (gb : CGood b) (hca : a.length ≤ c) (hcm : c ≤ maxLen) (hdb : b.length ≤ d) (hdm : d ≤ maxLen) (hA : Row w A (hcells a)) (hB : Row w B (hcells b)) :
    Calls Try.prog 22 #[.slice A a.length c, .slice B b.length d] w fun e w' => ∃ s t f, e = .returned (.tuple #[.string (S s), .string (S t), .int .i64 f]) ∧ Fk a b (if comTo a b < comFrom a b then 0 else forkAt (comA a b) (comB a b)) (if comTo a b < comFrom a b then 5 else 0) s t f ∧ Below w.heap.size w w' := by
  by_cases h : comTo a b < comFrom a b
  · rw [if_pos h, if_pos h]
    refine (chainClash_no A B c d a b w (by omega) (by omega) hA hB 5 (by rw [comErr, if_pos ((cfault_ok a).2 ga), if_pos ((cfault_ok b).2 gb), if_pos h]) (by decide)).mono ?_
    rintro e w' ⟨rfl, hb⟩
    exact ⟨[], [], 5, rfl, ⟨fun _ => ⟨rfl, rfl, rfl, rfl, rfl⟩, fun k => absurd k.k (by omega), fun k => absurd k.k (by omega), fun k => absurd k.k (by omega), fun k => absurd k.k (by omega)⟩, hb⟩
  · rw [if_neg h, if_neg h]
    have k : ComOk a b := ⟨ga, gb, by omega⟩
    cases hm : decide (hmark (lastH (comA a b)) = hmark (lastH (comB a b))) with
    | false =>
      refine (chainClash_mark A B c d a b w hca hcm hdb hdm hA hB k hm).mono ?_
      rintro e w' ⟨rfl, hb⟩
      have hm' := of_decide_eq_false hm
      exact ⟨[], [], 8, rfl, ⟨fun x => absurd x h, fun _ => ⟨rfl, rfl⟩, fun _ _ => ⟨rfl, rfl, rfl⟩, fun _ x => absurd x hm', fun _ x => absurd x hm'⟩, hb⟩
    | true =>
      have hm' := of_decide_eq_true hm
      refine (chainClash_yes A B c d a b w hca hcm hdb hdm hA hB k hm).mono ?_
      rintro e w' ⟨⟨hST, rfl⟩ | ⟨j, h1, h2, hne, heq, rfl⟩, hb⟩
      · exact ⟨[], [], 6, rfl, ⟨fun x => absurd x h, fun _ => ⟨rfl, rfl⟩, fun _ x => absurd hm' x, fun _ _ _ => ⟨rfl, rfl, rfl⟩, fun _ _ j h1 h2 hne _ => absurd (by simp only [hST]) hne⟩, hb⟩
      · refine ⟨_, _, 0, rfl, ⟨fun x => absurd x h, fun _ => ⟨rfl, rfl⟩, fun _ x => absurd hm' x, fun _ _ e => absurd (by simp only [e]) hne, fun _ _ j2 h3 h4 hne2 heq2 => ?_⟩, hb⟩
        have : j = j2 := by
          rcases Nat.lt_trichotomy j j2 with x | x | x
          · exact absurd (heq j2 h3 h4 x) hne2
          · exact x
          · exact absurd (heq2 j h1 h2 x) hne
        subst this
        exact ⟨rfl, rfl, rfl⟩

set_option maxHeartbeats 1000000 in
theorem chainForks_a (A B : Option Addr) (c d : Nat) (a b : List Hd) (w : World) (hma : a.length ≤ maxLen) (hmb : b.length ≤ maxLen) (hA : Row w A (hcells a)) (hB : Row w B (hcells b)) (r : Int) (p : Nat) (hr : cfault a = (r, p)) (h0 : r ≠ 0) :
    Calls Try.prog 4 #[.slice A a.length c, .slice B b.length d] w fun e w' => e = .returned (.bool true) ∧ Below w.heap.size w w' := by
  have hc : comErr a b = r := by rw [comErr, hr, if_neg h0]
  have hF := fun (w : World) hA hB => Lib.hid (chainFork_no A B c d a b w hma hmb hA hB r hc h0)
  have hC := fun (w : World) hA hB => Lib.hid (chainClash_no A B c d a b w hma hmb hA hB r hc h0)
  have hR := fun (w : World) hA => Lib.hid (refCFault A c a w hma hA r p hr)
  have c1 : (r == 0) = false := beq_eq_false_iff_ne.2 h0
  clear hr h0 hc
  go_enter Try.func4, Try.ntmps4
  go_wp2_with fail
  refine (hF _ hA hB).out.mono ?_
  rintro e w1 ⟨rfl, hb1⟩
  have hA1 := hA.below hb1
  have hB1 := hB.below hb1
  clear hF hA hB
  go_wp2_with fail
  refine (hC _ hA1 hB1).out.mono ?_
  rintro e w2 ⟨rfl, hb2⟩
  have hb := below_chain hb1 hb2
  have hA2 := hA1.below hb2
  have hB2 := hB1.below hb2
  clear hC hA1 hB1 hb1 hb2
  go_wp2_with fail
  refine (hR _ hA2).out.mono ?_
  rintro e w3 ⟨rfl, hb3⟩
  have hb' := below_chain hb hb3
  have hB3 := hB2.below hb3
  clear hR hA2 hB2 hb hb3
  go_wp2
  go_ret
  exact ⟨rfl, hb'⟩

set_option maxHeartbeats 1000000 in
theorem chainForks_b (A B : Option Addr) (c d : Nat) (a b : List Hd) (w : World) (hma : a.length ≤ maxLen) (hmb : b.length ≤ maxLen) (hA : Row w A (hcells a)) (hB : Row w B (hcells b)) (r : Int) (p : Nat) (ga : CGood a) (hr : cfault b = (r, p)) (h0 : r ≠ 0) :
    Calls Try.prog 4 #[.slice A a.length c, .slice B b.length d] w fun e w' => e = .returned (.bool true) ∧ Below w.heap.size w w' := by
  have hc : comErr a b = r := by rw [comErr, if_pos ((cfault_ok a).2 ga), hr, if_neg h0]
  have hF := fun (w : World) hA hB => Lib.hid (chainFork_no A B c d a b w hma hmb hA hB r hc h0)
  have hC := fun (w : World) hA hB => Lib.hid (chainClash_no A B c d a b w hma hmb hA hB r hc h0)
  have hR := fun (w : World) hA => Lib.hid (refCFault A c a w hma hA 0 0 (cfault_zero a ga))
  have hQ := fun (w : World) hB => Lib.hid (refCFault B d b w hmb hB r p hr)
  have c1 : (r == 0) = false := beq_eq_false_iff_ne.2 h0
  clear hr h0 hc
  go_enter Try.func4, Try.ntmps4
  go_wp2_with fail
  refine (hF _ hA hB).out.mono ?_
  rintro e w1 ⟨rfl, hb1⟩
  have hA1 := hA.below hb1
  have hB1 := hB.below hb1
  clear hF hA hB
  go_wp2_with fail
  refine (hC _ hA1 hB1).out.mono ?_
  rintro e w2 ⟨rfl, hb2⟩
  have hb := below_chain hb1 hb2
  have hA2 := hA1.below hb2
  have hB2 := hB1.below hb2
  clear hC hA1 hB1 hb1 hb2
  go_wp2_with fail
  refine (hR _ hA2).out.mono ?_
  rintro e w3 ⟨rfl, hb3⟩
  have hb' := below_chain hb hb3
  have hB3 := hB2.below hb3
  clear hR hA2 hB2 hb hb3
  go_wp2_with fail
  refine (hQ _ hB3).out.mono ?_
  rintro e w4 ⟨rfl, hb4⟩
  have hb' := below_chain hb' hb4
  go_wp2
  go_ret
  exact ⟨rfl, hb'⟩

set_option maxHeartbeats 8000000 in
theorem chainForks_good (A B : Option Addr) (c d : Nat) (a b : List Hd) (w : World) (ga : CGood a) (gb : CGood b) (hca : a.length ≤ c) (hcm : c ≤ maxLen) (hdb : b.length ≤ d) (hdm : d ≤ maxLen) (hA : Row w A (hcells a)) (hB : Row w B (hcells b)) :
    Calls Try.prog 4 #[.slice A a.length c, .slice B b.length d] w fun e w' => e = .returned (.bool true) ∧ Below w.heap.size w w' := by
  have la := ga.len
  have lb := gb.len
  have hma : a.length ≤ maxLen := by unfold maxLen; omega
  have hmb : b.length ≤ maxLen := by unfold maxLen; omega
  have hF := fun (w : World) hA hB => Lib.hid (chainFork_any A B c d a b w ga gb hca hcm hdb hdm hA hB)
  have hC := fun (w : World) hA hB => Lib.hid (chainClash_any A B c d a b w ga gb hca hcm hdb hdm hA hB)
  have hR := fun (w : World) hA => Lib.hid (refCFault A c a w hma hA 0 0 (cfault_zero a ga))
  have hQ := fun (w : World) hB => Lib.hid (refCFault B d b w hmb hB 0 0 (cfault_zero b gb))
  have hO := fun (w : World) hB q ep rt pv tm b' h1 h2 => Lib.hid (refHeadOf B d b q w hmb hB ep rt pv tm b' h1 h2)
  have hOa := fun (w : World) hA q ep rt pv tm b' h1 h2 => Lib.hid (refHeadOf A c a q w hma hA ep rt pv tm b' h1 h2)
  have GA := Lib.hid ga
  have GB := Lib.hid gb
  obtain ⟨n, hn⟩ : ∃ n, (if comTo a b < comFrom a b then 0 else forkAt (comA a b) (comB a b)) = n := ⟨_, rfl⟩
  obtain ⟨e9, he9⟩ : ∃ e, (if comTo a b < comFrom a b then (5 : Int) else 0) = e := ⟨_, rfl⟩
  rw [hn, he9] at hF hC
  unfold maxLen at hma hmb
  clear ga gb la lb hca hcm hdb hdm hn he9
  go_enter Try.func4, Try.ntmps4
  go_wp2_with fail
  refine (hF _ hA hB).out.mono ?_
  rintro e w1 ⟨rfl, hb1⟩
  have hA1 := hA.below hb1
  have hB1 := hB.below hb1
  clear hF hA hB
  go_wp2_with fail
  refine (hC _ hA1 hB1).out.mono ?_
  rintro e w2 ⟨s, t, f, rfl, hfk, hb2⟩
  have HFK := Lib.hid hfk
  have hb := below_chain hb1 hb2
  have hA2 := hA1.below hb2
  have hB2 := hB1.below hb2
  clear hC hA1 hB1 hb1 hb2 hfk
  go_wp2_with fail
  refine (hR _ hA2).out.mono ?_
  rintro e w3 ⟨rfl, hb3⟩
  have hb' := below_chain hb hb3
  have hA3 := hA2.below hb3
  have hB3 := hB2.below hb3
  clear hR hA2 hB2 hb hb3
  go_wp2_with fail
  refine (hQ _ hB3).out.mono ?_
  rintro e w4 ⟨rfl, hb4⟩
  have hb'' := below_chain hb' hb4
  have hA4 := hA3.below hb4
  have hB4 := hB3.below hb4
  clear hQ hA3 hB3 hb' hb4
  have hx5 := Bx.new w4 _ rfl _ [.int .i64 0, .int .u64 0, .int .u64 0, .int .i64 0, .int .i64 0, .int .u64 0, .int .u64 0, .int .i64 0] 48 rfl
  have hb5 := (Below.refl w4.heap.size w4).alloc (Nat.le_refl _) (.cells #[.int .i64 0, .int .u64 0, .int .u64 0, .int .i64 0, .int .i64 0, .int .u64 0, .int .u64 0, .int .i64 0] 48)
  go_upto_region 11 with fail
  generalize w4.alloc (.cells #[.int .i64 0, .int .u64 0, .int .u64 0, .int .i64 0, .int .i64 0, .int .u64 0, .int .u64 0, .int .i64 0] 48) = v5 at *
  go_wp2
  go_loopw [12, 13, 14, 73] (fun s12 s13 s14 s73 wr => ∃ (k : Nat) (st : Fd), k ≤ a.length ∧ s73 = .int .i64 k ∧ s12 = .bool st.any ∧ s13 = .int .i64 st.least ∧ s14 = .int .i64 st.last ∧ Hid ((a.take k).foldl (fdStep b) fdInit = st) ∧ Bx wr w4.heap.size [.int .i64 st.x.1, .int .u64 (st.x.2.1 : Int), .int .u64 (st.x.2.2.1 : Int), .int .i64 st.x.2.2.2, .int .i64 st.y.1, .int .u64 (st.y.2.1 : Int), .int .u64 (st.y.2.2.1 : Int), .int .i64 st.y.2.2.2] ∧ Below w4.heap.size w4 wr) (fun _ _ _ s73 _ => a.length - (intOf s73).toNat)
  case atStart => exact ⟨0, fdInit, Nat.zero_le _, rfl, rfl, rfl, rfl, rfl, hx5, hb5⟩
  case round =>
    obtain ⟨k, ⟨st1, st2, st3, ⟨p0, p1, p2, p3⟩, ⟨q0, q1, q2, q3⟩⟩, hk, rfl, rfl, rfl, rfl, HS, hxr, hbr⟩ := hrel
    dsimp only at hxr ⊢
    clear hx5 hb5
    by_cases hlt : k < a.length
    · obtain ⟨g, off, rfl, h1, h2, h3, h4⟩ := (hA4.below hbr).head k hlt
      have hi0 : (0 : Int) ≤ (k : Int) := by omega
      have hi1 : (k : Int) < (a.length : Int) := by omega
      obtain ⟨⟨x0, x1, x2, x3⟩, hx⟩ : ∃ x, a[k] = x := ⟨_, rfl⟩
      rw [hx] at h1 h2 h3 h4
      dsimp only at h1 h2 h3 h4
      obtain ⟨bb, y0, y1, y2, y3, hy1, hy2⟩ := hof_any b x0
      have HST : Hid ((a.take (k + 1)).foldl (fdStep b) fdInit = fdStep b ⟨st1, st2, st3, (p0, p1, p2, p3), (q0, q1, q2, q3)⟩ (x0, x1, x2, x3)) := by
        show _ = _
        rw [List.take_succ_eq_append_getElem hlt, List.foldl_append, HS.out, hx]
        rfl
      have HSP : Hid (∀ s : Fd, fdStep b s (x0, x1, x2, x3) = if bb = true then fdHit s (x0, x1, x2, x3) (y0, y1, y2, y3) else s) := by
        show ∀ _, _
        intro s
        unfold fdStep
        dsimp only
        rw [hy1]
        cases bb <;> rfl
      have hO' := fun (w : World) hB => hO w hB x0 y0 y1 y2 y3 bb hy1 hy2
      have hxx := Bx.new wr _ rfl _ [.int .i64 x0, .int .u64 (x1 : Int), .int .u64 (x2 : Int), .int .i64 x3] 25 rfl
      have hbx := hbr.alloc (Nat.le_trans (Nat.le_refl _) hbr.size) (.cells #[.int .i64 x0, .int .u64 (x1 : Int), .int .u64 (x2 : Int), .int .i64 x3] 25)
      have hxr1 := hxr.alloc (.cells #[.int .i64 x0, .int .u64 (x1 : Int), .int .u64 (x2 : Int), .int .i64 x3] 25)
      have hlt0 : w4.heap.size < wr.heap.size := hxr.lt
      clear hO hOa HS hx hy1 hy2 GA GB HFK hxr
      obtain ⟨⟨v0, v1, v2, v3⟩, -⟩ := hxx.get4
      go_wp2_with fail
      clear h1 h2 h3 h4 v0 v1 v2 v3
      refine (hO' _ (hB4.below hbx)).out.mono ?_
      rintro e w6 ⟨rfl, hb6⟩
      have hxy := Bx.new w6 _ rfl _ [.int .i64 y0, .int .u64 (y1 : Int), .int .u64 (y2 : Int), .int .i64 y3] 25 rfl
      have hx7 := (hxx.below hb6).alloc (.cells #[.int .i64 y0, .int .u64 (y1 : Int), .int .u64 (y2 : Int), .int .i64 y3] 25)
      have ht7 := (hxr1.below hb6).alloc (.cells #[.int .i64 y0, .int .u64 (y1 : Int), .int .u64 (y2 : Int), .int .i64 y3] 25)
      have hb7 := (hbx.trans (hb6.mono hbx.size)).alloc (Nat.le_trans hbx.size hb6.size) (.cells #[.int .i64 y0, .int .u64 (y1 : Int), .int .u64 (y2 : Int), .int .i64 y3] 25)
      have hsz6 := hb6.size
      rw [World.size_alloc] at hsz6
      have hne1 : w4.heap.size ≠ wr.heap.size := by omega
      have hne2 : w4.heap.size ≠ w6.heap.size := by omega
      clear hsz6 hlt0
      clear hO' hxx hxr1 hb6 hbx
      cases bb with
      | false =>
        go_wp2
        go_roundw
        case rel => exact ⟨k + 1, ⟨st1, st2, st3, (p0, p1, p2, p3), (q0, q1, q2, q3)⟩, by omega, by go_num, rfl, rfl, rfl, HST.out.trans (HSP.out _), ht7, hb7⟩
        case measure => simp [intOf]; omega
      | true =>
        have HST' : Hid ((a.take (k + 1)).foldl (fdStep b) fdInit = fdHit ⟨st1, st2, st3, (p0, p1, p2, p3), (q0, q1, q2, q3)⟩ (x0, x1, x2, x3) (y0, y1, y2, y3)) := HST.out.trans (HSP.out _)
        clear HST HSP
        go_upto_region 16 with fail
        generalize w6.alloc (.cells #[.int .i64 y0, .int .u64 (y1 : Int), .int .u64 (y2 : Int), .int .i64 y3] 25) = v7 at *
        generalize wr.heap.size = gx at *
        generalize w6.heap.size = gy at *
        go_cut [12] (fun q wx => q = .bool true ∧ Bx wx w4.heap.size [.int .i64 x0, .int .u64 (x1 : Int), .int .u64 (x2 : Int), .int .i64 x3, .int .i64 y0, .int .u64 (y1 : Int), .int .u64 (y2 : Int), .int .i64 y3] ∧ Bx wx gx [.int .i64 x0, .int .u64 (x1 : Int), .int .u64 (x2 : Int), .int .i64 x3] ∧ Bx wx gy [.int .i64 y0, .int .u64 (y1 : Int), .int .u64 (y2 : Int), .int .i64 y3] ∧ Below w4.heap.size w4 wx)
        case first =>
          obtain ⟨⟨v0, v1, v2, v3⟩, -⟩ := hx7.get4
          obtain ⟨⟨u0, u1, u2, u3⟩, -⟩ := hxy.get4
          have tc := ht7.c
          have tf := ht7.f
          have c0 := tc 0 (by simp)
          have c1 := tc 1 (by simp)
          have c2 := tc 2 (by simp)
          have c3 := tc 3 (by simp)
          have c4 := tc 4 (by simp)
          have c5 := tc 5 (by simp)
          have c6 := tc 6 (by simp)
          have c7 := tc 7 (by simp)
          have f0 := tf 0 (by simp)
          have f1 := tf 1 (by simp)
          have f2 := tf 2 (by simp)
          have f3 := tf 3 (by simp)
          have f4 := tf 4 (by simp)
          have f5 := tf 5 (by simp)
          have f6 := tf 6 (by simp)
          have f7 := tf 7 (by simp)
          have ht9 := (((((((ht7.set 0 (.int .i64 x0)).set 1 (.int .u64 (x1 : Int))).set 2 (.int .u64 (x2 : Int))).set 3 (.int .i64 x3)).set 4 (.int .i64 y0)).set 5 (.int .u64 (y1 : Int))).set 6 (.int .u64 (y2 : Int))).set 7 (.int .i64 y3)
          have hx9 := hx7.eight hne1 (.int .i64 x0) (.int .u64 (x1 : Int)) (.int .u64 (x2 : Int)) (.int .i64 x3) (.int .i64 y0) (.int .u64 (y1 : Int)) (.int .u64 (y2 : Int)) (.int .i64 y3)
          have hy9 := hxy.eight hne2 (.int .i64 x0) (.int .u64 (x1 : Int)) (.int .u64 (x2 : Int)) (.int .i64 x3) (.int .i64 y0) (.int .u64 (y1 : Int)) (.int .u64 (y2 : Int)) (.int .i64 y3)
          have hb9 := below_eight hb7 (Nat.le_refl _) (.int .i64 x0) (.int .u64 (x1 : Int)) (.int .u64 (x2 : Int)) (.int .i64 x3) (.int .i64 y0) (.int .u64 (y1 : Int)) (.int .u64 (y2 : Int)) (.int .i64 y3)
          clear tc tf ht7 hx7 hxy hb7 HST' hA4 hB4
          dsimp only [List.getElem_cons_zero, List.getElem_cons_succ] at c0 c1 c2 c3 c4 c5 c6 c7
          go_wp2_with fail
          go_region
          all_goals
            go_wp2_with fail
            go_meet
            case rel => exact ⟨rfl, ht9.drewN 1, hx9.drewN 1, hy9.drewN 1, below_drewN hb9 1⟩
        case rest =>
          obtain ⟨rfl, ht8, hx8, hy8, hb8⟩ := hcut
          clear ht7 hx7 hxy hb7
          generalize wc = v8 at *
          go_upto_region 17 with fail
          go_cut [91] (fun q wx => (∃ bq : Bool, q = .bool bq ∧ Hid (Tells bq (((x0, x1, x2, x3) : Hd) ≠ (y0, y1, y2, y3)))) ∧ wx = v8)
          case first =>
            obtain ⟨⟨v0, v1, v2, v3⟩, -⟩ := hx8.get4
            obtain ⟨⟨u0, u1, u2, u3⟩, -⟩ := hy8.get4
            have fin : ∀ (q1 q2 q3 q4 : Bool), (x0 == y0) = q1 → ((x1 : Int) == (y1 : Int)) = q2 → ((x2 : Int) == (y2 : Int)) = q3 → (x3 == y3) = q4 → (q1 && (q2 && (q3 && q4))) = false → Tells true (((x0, x1, x2, x3) : Hd) ≠ (y0, y1, y2, y3)) := by
              intro q1 q2 q3 q4 e1 e2 e3 e4 h
              refine ⟨fun _ e => ?_, fun _ => rfl⟩
              simp only [Prod.mk.injEq] at e
              obtain ⟨rfl, rfl, rfl, rfl⟩ := e
              simp at e1 e2 e3 e4
              subst e1; subst e2; subst e3; subst e4
              exact absurd h (by decide)
            have fin2 : (x0 == y0) = true → ((x1 : Int) == (y1 : Int)) = true → ((x2 : Int) == (y2 : Int)) = true → (x3 == y3) = true → Tells false (((x0, x1, x2, x3) : Hd) ≠ (y0, y1, y2, y3)) := by
              intro e1 e2 e3 e4
              rw [beq_iff_eq] at e1 e2 e3 e4
              exact ⟨fun h => Bool.noConfusion h, fun h => absurd (by rw [e1, e4, Int.ofNat_inj.1 e2, Int.ofNat_inj.1 e3]) h⟩
            clear HST' hA4 hB4 ht8 hx8 hy8 hb8
            cases q1 : x0 == y0 with
            | false =>
              have HF := Lib.hid (fin _ _ _ _ q1 rfl rfl rfl (by simp))
              clear fin fin2
              go_wp2_with fail
              go_meet
              case rel => exact ⟨⟨_, rfl, HF⟩, rfl⟩
            | true =>
            cases q2 : (x1 : Int) == (y1 : Int) with
            | false =>
              have HF := Lib.hid (fin _ _ _ _ q1 q2 rfl rfl (by simp))
              clear fin fin2
              go_wp2_with fail
              go_meet
              case rel => exact ⟨⟨_, rfl, HF⟩, rfl⟩
            | true =>
            cases q3 : (x2 : Int) == (y2 : Int) with
            | false =>
              have HF := Lib.hid (fin _ _ _ _ q1 q2 q3 rfl (by simp))
              clear fin fin2
              go_wp2_with fail
              go_meet
              case rel => exact ⟨⟨_, rfl, HF⟩, rfl⟩
            | true =>
            cases q4 : x3 == y3 with
            | false =>
              have HF := Lib.hid (fin _ _ _ _ q1 q2 q3 q4 (by simp))
              clear fin fin2
              go_wp2_with fail
              go_meet
              case rel => exact ⟨⟨_, rfl, HF⟩, rfl⟩
            | true =>
            have HF := Lib.hid (fin2 q1 q2 q3 q4)
            clear fin fin2
            go_wp2_with fail
            go_meet
            case rel => exact ⟨⟨_, rfl, HF⟩, rfl⟩
          case rest =>
            obtain ⟨⟨bq, rfl, HT⟩, e10⟩ := hcut
            have e10 := e10.symm
            subst e10
            cases bq with
            | false =>
              have hxy2 : Hid (fdHit ⟨st1, st2, st3, (p0, p1, p2, p3), (q0, q1, q2, q3)⟩ (x0, x1, x2, x3) (y0, y1, y2, y3) = ⟨true, st2, st3, (x0, x1, x2, x3), (y0, y1, y2, y3)⟩) := by
                show _ = _
                unfold fdHit
                rw [if_pos (Classical.byContradiction fun h => by have := HT.out.2 h; cases this)]
              clear HT hx8 hy8
              go_wp2
              go_roundw
              case rel => exact ⟨k + 1, ⟨true, st2, st3, (x0, x1, x2, x3), (y0, y1, y2, y3)⟩, by omega, by go_num, rfl, rfl, rfl, HST'.out.trans hxy2.out, ht8, hb8⟩
              case measure => simp [intOf]; omega
            | true =>
              have hxy2 : Hid (fdHit ⟨st1, st2, st3, (p0, p1, p2, p3), (q0, q1, q2, q3)⟩ (x0, x1, x2, x3) (y0, y1, y2, y3) = ⟨true, if st2 < 0 then x0 else st2, x0, (x0, x1, x2, x3), (y0, y1, y2, y3)⟩) := by
                show _ = _
                unfold fdHit
                rw [if_neg (HT.out.1 rfl)]
              obtain ⟨⟨v0, v1, v2, v3⟩, -⟩ := hx8.get4
              clear HT hx8 hy8
              by_cases hz : st2 < 0
              · have c1 : decide (st2 < 0) = true := decide_eq_true hz
                have hxy3 : Hid (fdHit ⟨st1, st2, st3, (p0, p1, p2, p3), (q0, q1, q2, q3)⟩ (x0, x1, x2, x3) (y0, y1, y2, y3) = ⟨true, x0, x0, (x0, x1, x2, x3), (y0, y1, y2, y3)⟩) := by
                  show _ = _
                  rw [hxy2.out, if_pos hz]
                clear hz hxy2
                go_wp2
                go_roundw
                case rel => exact ⟨k + 1, ⟨true, x0, x0, (x0, x1, x2, x3), (y0, y1, y2, y3)⟩, by omega, by go_num, rfl, rfl, rfl, HST'.out.trans hxy3.out, ht8, hb8⟩
                case measure => simp [intOf]; omega
              · have c1 : decide (st2 < 0) = false := decide_eq_false hz
                have hxy3 : Hid (fdHit ⟨st1, st2, st3, (p0, p1, p2, p3), (q0, q1, q2, q3)⟩ (x0, x1, x2, x3) (y0, y1, y2, y3) = ⟨true, st2, x0, (x0, x1, x2, x3), (y0, y1, y2, y3)⟩) := by
                  show _ = _
                  rw [hxy2.out, if_neg hz]
                clear hz hxy2
                go_wp2
                go_roundw
                case rel => exact ⟨k + 1, ⟨true, st2, x0, (x0, x1, x2, x3), (y0, y1, y2, y3)⟩, by omega, by go_num, rfl, rfl, rfl, HST'.out.trans hxy3.out, ht8, hb8⟩
                case measure => simp [intOf]; omega
    · obtain rfl : k = a.length := by omega
      have HS2 := HS.out
      rw [List.take_length] at HS2
      have hbw := below_chain hb'' hbr
      by_cases hcc : comTo a b < comFrom a b
      · rw [fold_apart GA.out GB.out hcc, fdInit] at HS2
        injection HS2 with u1 u2 u3 u4 u5
        subst u1; subst u2; subst u3
        obtain ⟨rfl, rfl, rfl, rfl, rfl⟩ := HFK.out.no hcc
        clear HFK GA GB hA4 hB4 hO hOa HS hxr hbr hb'' hcc u4 u5
        rw [S_nil]
        go_wp2
        go_ret
        exact ⟨rfl, hbw⟩
      · have K : ComOk a b := ⟨GA.out, GB.out, by omega⟩
        obtain ⟨gS, gT⟩ := K.good
        obtain ⟨-, -, hl1, hl2⟩ := K.len
        rw [fold_common K] at HS2
        injection HS2 with u1 u2 u3 u4 u5
        subst u1
        obtain ⟨hn1, rfl⟩ := HFK.out.yes K
        obtain rfl : n = st2 := hn1.trans u2
        have hgp := lastH_good gS
        have hgq := lastH_good gT
        have hmark := HFK.out.mark K
        have hsame := HFK.out.same K
        have hdiff := HFK.out.diff K
        rw [u4] at hgp hmark hsame hdiff
        rw [u5] at hgq hmark hsame hdiff
        obtain ⟨m1, hm1⟩ : ∃ m, Proofs.Ythkhafgcpmoalaa.hmark (p0, p1, p2, p3) = m := ⟨_, rfl⟩
        obtain ⟨m2, hm2⟩ : ∃ m, Proofs.Ythkhafgcpmoalaa.hmark (q0, q1, q2, q3) = m := ⟨_, rfl⟩
        rw [hm1, hm2] at hmark hsame hdiff
        have hM1 := fun w => Lib.hid (refHMark p0 p1 p2 p3 w hgp m1 hm1)
        have hM2 := fun w => Lib.hid (refHMark q0 q1 q2 q3 w hgq m2 hm2)
        have tc := hxr.c
        have c0 := tc 0 (by simp)
        have c1 := tc 1 (by simp)
        have c2 := tc 2 (by simp)
        have c3 := tc 3 (by simp)
        have c4 := tc 4 (by simp)
        have c5 := tc 5 (by simp)
        have c6 := tc 6 (by simp)
        have c7 := tc 7 (by simp)
        dsimp only [List.getElem_cons_zero, List.getElem_cons_succ] at c0 c1 c2 c3 c4 c5 c6 c7
        have hb9 : Below wr.heap.size wr wr.drew := bdrew (Below.refl _ _)
        have hM1' : ∀ W : World, (W.cell? ⟨w4.heap.size, 0, none⟩ = some (.int .i64 p0) ∧ W.cell? ⟨w4.heap.size, 1, none⟩ = some (.int .u64 (p1 : Int)) ∧ W.cell? ⟨w4.heap.size, 2, none⟩ = some (.int .u64 (p2 : Int)) ∧ W.cell? ⟨w4.heap.size, 3, none⟩ = some (.int .i64 p3) ∧ W.cell? ⟨w4.heap.size, 4, none⟩ = some (.int .i64 q0) ∧ W.cell? ⟨w4.heap.size, 5, none⟩ = some (.int .u64 (q1 : Int)) ∧ W.cell? ⟨w4.heap.size, 6, none⟩ = some (.int .u64 (q2 : Int)) ∧ W.cell? ⟨w4.heap.size, 7, none⟩ = some (.int .i64 q3) ∧ Below wr.heap.size wr W) → Hid (Calls Try.prog 20 #[.agg #[.int .i64 p0, .int .u64 (p1 : Int), .int .u64 (p2 : Int), .int .i64 p3]] W fun e w' => e = .returned (.int .u64 (m1 : Int)) ∧ w'.cell? ⟨w4.heap.size, 0, none⟩ = some (.int .i64 p0) ∧ w'.cell? ⟨w4.heap.size, 1, none⟩ = some (.int .u64 (p1 : Int)) ∧ w'.cell? ⟨w4.heap.size, 2, none⟩ = some (.int .u64 (p2 : Int)) ∧ w'.cell? ⟨w4.heap.size, 3, none⟩ = some (.int .i64 p3) ∧ w'.cell? ⟨w4.heap.size, 4, none⟩ = some (.int .i64 q0) ∧ w'.cell? ⟨w4.heap.size, 5, none⟩ = some (.int .u64 (q1 : Int)) ∧ w'.cell? ⟨w4.heap.size, 6, none⟩ = some (.int .u64 (q2 : Int)) ∧ w'.cell? ⟨w4.heap.size, 7, none⟩ = some (.int .i64 q3) ∧ Below wr.heap.size wr w') := fun W ⟨z0, z1, z2, z3, z4, z5, z6, z7, z8⟩ => by
          show Calls _ _ _ _ _
          refine (hM1 W).out.mono ?_
          rintro e w' ⟨rfl, hb⟩
          exact ⟨rfl, kept z0 hb, kept z1 hb, kept z2 hb, kept z3 hb, kept z4 hb, kept z5 hb, kept z6 hb, kept z7 hb, below_chain z8 hb⟩
        have hM2' : ∀ W : World, (W.cell? ⟨w4.heap.size, 0, none⟩ = some (.int .i64 p0) ∧ W.cell? ⟨w4.heap.size, 1, none⟩ = some (.int .u64 (p1 : Int)) ∧ W.cell? ⟨w4.heap.size, 2, none⟩ = some (.int .u64 (p2 : Int)) ∧ W.cell? ⟨w4.heap.size, 3, none⟩ = some (.int .i64 p3) ∧ W.cell? ⟨w4.heap.size, 4, none⟩ = some (.int .i64 q0) ∧ W.cell? ⟨w4.heap.size, 5, none⟩ = some (.int .u64 (q1 : Int)) ∧ W.cell? ⟨w4.heap.size, 6, none⟩ = some (.int .u64 (q2 : Int)) ∧ W.cell? ⟨w4.heap.size, 7, none⟩ = some (.int .i64 q3) ∧ Below wr.heap.size wr W) → Hid (Calls Try.prog 20 #[.agg #[.int .i64 q0, .int .u64 (q1 : Int), .int .u64 (q2 : Int), .int .i64 q3]] W fun e w' => e = .returned (.int .u64 (m2 : Int)) ∧ w'.cell? ⟨w4.heap.size, 0, none⟩ = some (.int .i64 p0) ∧ w'.cell? ⟨w4.heap.size, 1, none⟩ = some (.int .u64 (p1 : Int)) ∧ w'.cell? ⟨w4.heap.size, 2, none⟩ = some (.int .u64 (p2 : Int)) ∧ w'.cell? ⟨w4.heap.size, 3, none⟩ = some (.int .i64 p3) ∧ w'.cell? ⟨w4.heap.size, 4, none⟩ = some (.int .i64 q0) ∧ w'.cell? ⟨w4.heap.size, 5, none⟩ = some (.int .u64 (q1 : Int)) ∧ w'.cell? ⟨w4.heap.size, 6, none⟩ = some (.int .u64 (q2 : Int)) ∧ w'.cell? ⟨w4.heap.size, 7, none⟩ = some (.int .i64 q3) ∧ Below wr.heap.size wr w') := fun W ⟨z0, z1, z2, z3, z4, z5, z6, z7, z8⟩ => by
          show Calls _ _ _ _ _
          refine (hM2 W).out.mono ?_
          rintro e w' ⟨rfl, hb⟩
          exact ⟨rfl, kept z0 hb, kept z1 hb, kept z2 hb, kept z3 hb, kept z4 hb, kept z5 hb, kept z6 hb, kept z7 hb, below_chain z8 hb⟩
        have HD := Lib.hid (lastd_spec _ _ (hl1.trans hl2.symm) (fun h hh => (gS.good h hh).e0))
        have HCH := Lib.hid (fun j h1 h2 => common_hof K j h1 h2)
        have HG1 := Lib.hid gS.good
        have HG2 := Lib.hid gT.good
        have HMk := Lib.hid hmark
        have HSm := Lib.hid hsame
        have HDf := Lib.hid hdiff
        have HU3 := Lib.hid u3
        clear HFK GA GB HS hxr hb'' hcc u2 u3 u4 u5 hn1 hgp hgq hmark hsame hdiff hm1 hm2 hM1 hM2 tc gS gT hl1 hl2 K
        generalize comA a b = SA at *
        generalize comB a b = SB at *
        go_upto_region 26 with fail
        go_region_held3 (fun w' => w'.cell? ⟨w4.heap.size, 0, none⟩ = some (.int .i64 p0) ∧ w'.cell? ⟨w4.heap.size, 1, none⟩ = some (.int .u64 (p1 : Int)) ∧ w'.cell? ⟨w4.heap.size, 2, none⟩ = some (.int .u64 (p2 : Int)) ∧ w'.cell? ⟨w4.heap.size, 3, none⟩ = some (.int .i64 p3) ∧ w'.cell? ⟨w4.heap.size, 4, none⟩ = some (.int .i64 q0) ∧ w'.cell? ⟨w4.heap.size, 5, none⟩ = some (.int .u64 (q1 : Int)) ∧ w'.cell? ⟨w4.heap.size, 6, none⟩ = some (.int .u64 (q2 : Int)) ∧ w'.cell? ⟨w4.heap.size, 7, none⟩ = some (.int .i64 q3) ∧ Below wr.heap.size wr w') (first | exact ⟨c0, c1, c2, c3, c4, c5, c6, c7, hb9⟩ | exact ⟨by assumption, by assumption, by assumption, by assumption, by assumption, by assumption, by assumption, by assumption, by assumption⟩ | go_keep)
          (first | (go_at_call_of 20 p0; refine (hM1' _ ?_).out.mono ?_; (first | exact ⟨c0, c1, c2, c3, c4, c5, c6, c7, hb9⟩ | exact ⟨by assumption, by assumption, by assumption, by assumption, by assumption, by assumption, by assumption, by assumption, by assumption⟩); rintro e w5 ⟨rfl, k0, k1, k2, k3, k4, k5, k6, k7, k8⟩) | (go_at_call_of 20 q0; refine (hM2' _ ?_).out.mono ?_; (first | exact ⟨c0, c1, c2, c3, c4, c5, c6, c7, hb9⟩ | exact ⟨by assumption, by assumption, by assumption, by assumption, by assumption, by assumption, by assumption, by assumption, by assumption⟩); rintro e w6 ⟨rfl, k0, k1, k2, k3, k4, k5, k6, k7, k8⟩))
        have hbw2 := below_chain hbw k8
        have hbr2 := hbr.trans (k8.mono hbr.size)
        clear hM1' hM2' c0 c1 c2 c3 c4 c5 c6 c7 hb9 k0 k1 k2 k3 k4 k5 k6 k7 hbr hbw k8
        by_cases hmm : m1 = m2
        · have c1 : ((m1 : Int) == (m2 : Int)) = true := beq_iff_eq.2 (by omega)
          by_cases hST : SA = SB
          · obtain ⟨rfl, rfl, rfl⟩ := HSm.out hmm hST
            have e3 : st3 = -1 := by
              rcases HD.out with ⟨_, e⟩ | ⟨j, h1, h2, hne, _⟩
              · rw [← HU3.out, e]
              · exact absurd (by simp only [hST]) hne
            subst e3
            clear HD HCH HG1 HG2 HMk HSm HDf HU3 hmm hST hA4 hB4 hO hOa hbr2
            rw [S_nil]
            go_wp2
            go_ret
            exact ⟨rfl, hbw2⟩
          · obtain ⟨j, h1, h2, hne, heq, hlast⟩ := HD.out.resolve_left (fun x => hST x.1)
            obtain ⟨es, et, rfl⟩ := HDf.out hmm j h1 h2 hne heq
            obtain ⟨hA9, hB9⟩ := HCH.out j h1 h2
            have gx := HG1.out _ (List.getElem_mem h1)
            have gy := HG2.out _ (List.getElem_mem h2)
            have e3 := HU3.out.symm.trans hlast
            obtain ⟨⟨x0, x1, x2, x3⟩, hx⟩ : ∃ x, SA[j] = x := ⟨_, rfl⟩
            obtain ⟨⟨y0, y1, y2, y3⟩, hy⟩ : ∃ x, SB[j] = x := ⟨_, rfl⟩
            rw [hx] at es hA9 hB9 gx e3
            rw [hy] at et hB9 gy
            dsimp only at hA9 hB9 e3
            have c2 : decide (x0 < 0) = false := decide_eq_false (by have := gx.e0; dsimp only at this; omega)
            have hOa' := fun (w : World) hA => hOa w hA x0 x0 x1 x2 x3 true (by rw [hA9]; rfl) (fun e => Bool.noConfusion e)
            have hO' := fun (w : World) hB => hO w hB x0 y0 y1 y2 y3 true (by rw [hB9]; rfl) (fun e => Bool.noConfusion e)
            have hS1 := fun w => Lib.hid (refHSaid_good x0 x1 x2 x3 w gx s es.symm)
            have hS2 := fun w => Lib.hid (refHSaid_good y0 y1 y2 y3 w gy t et.symm)
            have e3 := e3.symm
            subst e3
            clear HD HCH HG1 HG2 HMk HSm HDf HU3 hmm hST hO hOa hne heq hlast es et hA9 hB9 gx gy hx hy h1 h2
            go_wp2_with fail
            refine (hOa' _ (hA4.below hbr2)).out.mono ?_
            rintro e w7 ⟨rfl, hb7⟩
            have hb7' := balloc hb7 (.cells #[.int .i64 x0, .int .u64 (x1 : Int), .int .u64 (x2 : Int), .int .i64 x3] 25)
            have hxx := Bx.new w7 _ rfl _ [.int .i64 x0, .int .u64 (x1 : Int), .int .u64 (x2 : Int), .int .i64 x3] 25 rfl
            have hbr3 := hbr2.trans (hb7'.mono hbr2.size)
            have hbw3 := below_chain hbw2 hb7'
            clear hOa' hA4 hbr2 hbw2 hb7 hb7'
            go_upto_region 31 with fail
            generalize w7.alloc (.cells #[.int .i64 x0, .int .u64 (x1 : Int), .int .u64 (x2 : Int), .int .i64 x3] 25) = v7 at *
            go_wp2_with fail
            refine (hO' _ (hB4.below hbr3)).out.mono ?_
            rintro e w8 ⟨rfl, hb8⟩
            have hb8' := balloc hb8 (.cells #[.int .i64 y0, .int .u64 (y1 : Int), .int .u64 (y2 : Int), .int .i64 y3] 25)
            have hxx2 := hxx.below hb8'
            have hyy := Bx.new w8 _ rfl _ [.int .i64 y0, .int .u64 (y1 : Int), .int .u64 (y2 : Int), .int .i64 y3] 25 rfl
            have hbw4 := below_chain hbw3 hb8'
            clear hO' hB4 hbr3 hbw3 hb8 hb8' hxx
            go_upto_region 32 with fail
            generalize w8.alloc (.cells #[.int .i64 y0, .int .u64 (y1 : Int), .int .u64 (y2 : Int), .int .i64 y3] 25) = v8 at *
            obtain ⟨⟨z0, z1, z2, z3⟩, -⟩ := hxx2.get4
            go_wp2_with fail
            refine (hS1 _).out.mono ?_
            rintro e w9 ⟨rfl, hb9⟩
            have hyy2 := hyy.below hb9
            have hbw5 := below_chain hbw4 hb9
            clear hS1 hxx2 hyy hbw4 hb9 z0 z1 z2 z3
            obtain ⟨⟨z0, z1, z2, z3⟩, -⟩ := hyy2.get4
            go_wp2_with fail
            refine (hS2 _).out.mono ?_
            rintro e w10 ⟨rfl, hb10⟩
            have hbw6 := below_chain hbw5 hb10
            clear hS2 hyy2 hbw5 hb10 z0 z1 z2 z3
            go_wp2
            go_ret
            exact ⟨rfl, hbw6⟩
        · have c1 : ((m1 : Int) == (m2 : Int)) = false := beq_eq_false_iff_ne.2 (by omega)
          obtain ⟨rfl, rfl, rfl⟩ := HMk.out hmm
          clear HD HCH HG1 HG2 HMk HSm HDf HU3 hmm hA4 hB4 hO hOa hbr2
          rw [S_nil]
          go_wp2
          go_ret
          exact ⟨rfl, hbw2⟩

theorem chainForks_walk (A B : Option Addr) (c d : Nat) (a b : List Hd) (w : World) (hma : a.length ≤ maxLen) (hmb : b.length ≤ maxLen) (hca : a.length ≤ c) (hcm : c ≤ maxLen) (hdb : b.length ≤ d) (hdm : d ≤ maxLen) (hA : Row w A (hcells a)) (hB : Row w B (hcells b)) :
    Calls Try.prog 4 #[.slice A a.length c, .slice B b.length d] w fun e w' => e = .returned (.bool true) ∧ Below w.heap.size w w' := by
  by_cases h : (cfault a).1 = 0
  · have ga := (cfault_ok a).1 h
    by_cases h2 : (cfault b).1 = 0
    · exact chainForks_good A B c d a b w ga ((cfault_ok b).1 h2) hca hcm hdb hdm hA hB
    · exact chainForks_b A B c d a b w hma hmb hA hB _ _ ga rfl h2
  · exact chainForks_a A B c d a b w hma hmb hA hB _ _ rfl h

set_option maxRecDepth 100000 in
theorem chainForks_lifted (os : Os) (started : os.Started) (H : Type) (enc : TypeId × Value → H) :
    ReturnsInHanded {} Try.checked os 4 .any (Rows.chainForksSpec.pre6 enc Try.prog Try.f4 Rows.chainForksRow.domain false) (Rows.chainForksSpec.post enc Try.prog Try.f4 false true false false) := by
  refine returnsInHanded_of_change (C := Try.checked) own started (by kernel_rfl) Try.func4
    (ChangeSpec.witness6 (enc := enc) (C := Try.checked) false ⟨#[], #[.slice none 0 0, .slice none 0 0], []⟩ 8 (by kernel_rfl) (by kernel_rfl) (by kernel_rfl) (by kernel_rfl)) ?_
  intro W base args ds gs before hval0 hW hcnd _
  have hval : ∀ (j : Nat) t v, Try.f4.params[j]? = some t → args[j]? = some v → Value.okWide Try.prog W .any base t v := hval0
  have hW' := hW
  obtain ⟨p, q, hA0, hV, rfl, hfz, hnd⟩ := hW
  have hA : DataW.TrodAll enc Try.prog W 0 (fun _ => true) true Try.f4.params.toList args.toList ds p := hA0
  rw [Try.params4] at hA hval
  obtain ⟨v0, vs0, d0, ds0, p0, q0, hargs, rfl, rfl, h0, r0⟩ := trodAll_cons hA
  obtain ⟨v1, vs1, d1, ds1, p1, q1, rfl, rfl, rfl, h1, r1⟩ := trodAll_cons r0
  obtain ⟨rfl, rfl, rfl⟩ := trodAll_nil r1
  obtain rfl : args = #[v0, v1] := by cases args; simp_all
  obtain ⟨rfl, rfl⟩ := trodVars_none hV
  obtain ⟨A0, c0, s0, rfl, hm0, hr0, hc0, hd0, hs0, -⟩ := arg_heads (hval 0 22 v0 rfl rfl) h0
  obtain ⟨A1, c1, s1, rfl, hm1, hr1, hc1, hd1, hs1, -⟩ := arg_heads (hval 1 22 v1 rfl rfl) h1
  refine (chainForks_walk A0 A1 c0 c1 s0 s1 W hm0 hm1 hc0 hd0 hc1 hd1 hr0 hr1).mono fun e W' ⟨he, hb⟩ => ?_
  subst he
  exact ⟨_, rfl, post_law laidOut (by decide +kernel) rfl Try.underlying4 (by kernel_rfl) hW' rfl hb⟩

/-- The statement. -/
theorem chainForks_said : Rows.ChainForksSaid :=
  OpenClaim.holds_of_wide 4 Try.f4 rfl rfl rfl rfl rfl rfl rfl ⟨rfl, rfl, rfl, rfl, rfl⟩ rfl rfl rfl rfl rfl (by kernel_rfl) Try.func4 (by kernel_rfl)
    (of_decide_eq_true (by kernel_rfl)) (by unfold Func.isWrapper; first | (rw [if_pos (by decide +kernel)]; kernel_rfl) | (rw [if_neg (by decide +kernel)]; exact ⟨rfl, rfl⟩))
    (fun os started H enc _ => chainForks_lifted os started H enc)
#print axioms chainForks_said

end Go.Proofs.Ythkhafgcpmoalaa
