/- Package chain: Grow, Part, Follows, each in its cases. They write nothing that was there. -/
import Derived.Test.YthkhafgcpmoalaaChainOps
import Derived.Deep.RegionLaw
namespace Go.Proofs.Ythkhafgcpmoalaa
set_option maxRecDepth 100000
open Go.RowKit

/-- A list of heads of the call's own, and no error. -/
def HeadsErr (T : List Hd) (w : World) (e : Ending) (w' : World) : Prop := ∃ D d, e = .returned (.tuple #[.slice D T.length d, .int .i64 0]) ∧ w'.ownsRow w.heap.size 25 4 (.slice D T.length d) T.length (hcells T) ∧ Below w.heap.size w w'
/-- An error, and no heads. -/
def HeadsNo (r : Int) (w : World) (e : Ending) (w' : World) : Prop := e = .returned (.tuple #[.slice none 0 0, .int .i64 r]) ∧ Below w.heap.size w w'
theorem lastH_good {l : List Hd} (h : CGood l) : HGood (lastH l) := by
  have hp := h.pos
  rw [lastH_eq (by omega)]
  exact h.good _ (List.getElem_mem _)

/-- The error of Grow. -/
def growErr (l : List Hd) (rt : Nat) (tm : Int) : Int := if (cfault l).1 = 0 then (if l.length = 40 then 7 else nextErr (lastH l) rt tm) else (cfault l).1
structure GrowOk (l : List Hd) (rt : Nat) (tm : Int) : Prop where
  g : CGood l
  n : l.length < 40
  k : NextOk (lastH l) rt tm
theorem growErr_ok (l : List Hd) (rt : Nat) (tm : Int) : growErr l rt tm = 0 ↔ GrowOk l rt tm := by
  unfold growErr
  by_cases h0 : (cfault l).1 = 0
  · rw [if_pos h0]
    have hg := (cfault_ok l).1 h0
    by_cases h1 : l.length = 40
    · rw [if_pos h1]
      exact ⟨fun e => absurd e (by decide), fun k => absurd k.n (by omega)⟩
    · rw [if_neg h1, nextErr_ok]
      exact ⟨fun k => ⟨hg, by have := hg.len; omega, k⟩, fun k => k.k⟩
  · rw [if_neg h0]
    exact ⟨fun e => absurd e h0, fun k => absurd ((cfault_ok l).2 k.g) h0⟩

set_option maxHeartbeats 1000000 in
theorem chainGrow_no (A : Option Addr) (c : Nat) (l : List Hd) (rt : Nat) (tm : Int) (w : World) (hm : l.length ≤ maxLen) (hA : Row w A (hcells l)) (r : Int) (hr : growErr l rt tm = r) (h0 : r ≠ 0) :
    Calls Try.prog 9 #[.slice A l.length c, .int .u64 (rt : Int), .int .i64 tm] w (HeadsNo r w) := by
  unfold growErr at hr
  obtain ⟨⟨r1, p⟩, hf⟩ : ∃ x, cfault l = x := ⟨_, rfl⟩
  have hC := fun (w : World) hA => Lib.hid (chainCheck A c l w hm hA r1 p hf)
  rw [hf] at hr
  dsimp only at hr
  by_cases k0 : r1 = 0
  · rw [if_pos k0] at hr
    subst k0
    have hg : CGood l := (cfault_ok l).1 (by rw [hf])
    clear hf
    by_cases k1 : l.length = 40
    · rw [if_pos k1] at hr
      subst hr
      have c1 : ((l.length : Int) == 40) = true := beq_iff_eq.2 (by omega)
      clear k1 hg
      go_enter Try.func9, Try.ntmps9
      go_wp2_with fail
      refine (hC _ hA).out.mono ?_
      rintro e w1 ⟨rfl, hb1⟩
      clear hC
      go_wp2
      go_ret2
      exact ⟨rfl, hb1⟩
    · rw [if_neg k1] at hr
      have c1 : ((l.length : Int) == 40) = false := beq_eq_false_iff_ne.2 (by omega)
      obtain ⟨⟨ep, st, qv, um⟩, hl⟩ : ∃ x, lastH l = x := ⟨_, rfl⟩
      rw [hl] at hr
      have hL := fun (w : World) hA => Lib.hid (chainLast A c l w hg.pos hm hA ep st qv um hl)
      have hN := fun w => Lib.hid (headNext_no ep st qv um rt tm w r hr h0)
      have c2 : (r == 0) = false := beq_eq_false_iff_ne.2 h0
      clear hr hl k1 hg
      go_enter Try.func9, Try.ntmps9
      go_wp2_with fail
      refine (hC _ hA).out.mono ?_
      rintro e w1 ⟨rfl, hb1⟩
      have hA1 := hA.below hb1
      clear hC hA
      go_wp2_with fail
      refine (hL _ hA1).out.mono ?_
      rintro e w2 ⟨rfl, hb2⟩
      have hb := below_chain hb1 hb2
      clear hL hA1 hb1 hb2
      go_wp2_with fail
      refine (hN _).out.mono ?_
      rintro e w3 ⟨rfl, hb3⟩
      have hb' := below_chain hb hb3
      have hb'' := hb'.alloc hb'.size (.cells #[.int .i64 0, .int .u64 0, .int .u64 0, .int .i64 0] 25)
      clear hN hb hb3 hb'
      go_wp2
      go_ret2
      exact ⟨rfl, hb''⟩
  · rw [if_neg k0] at hr
    subst hr
    have c1 : (r1 == 0) = false := beq_eq_false_iff_ne.2 k0
    clear hf k0
    go_enter Try.func9, Try.ntmps9
    go_wp2_with fail
    refine (hC _ hA).out.mono ?_
    rintro e w1 ⟨rfl, hb1⟩
    clear hC
    go_wp2
    go_ret2
    exact ⟨rfl, hb1⟩

set_option maxHeartbeats 4000000 in
theorem chainGrow_ok (A : Option Addr) (c : Nat) (l : List Hd) (rt : Nat) (tm : Int) (w : World) (hA : Row w A (hcells l)) (k : GrowOk l rt tm) :
    Calls Try.prog 9 #[.slice A l.length c, .int .u64 (rt : Int), .int .i64 tm] w (HeadsErr (l ++ [nextOf (lastH l) rt tm]) w) := by
  have hg := k.g
  have hlen := hg.len
  have hm : l.length ≤ maxLen := by unfold maxLen; omega
  have hC := fun (w : World) hA => Lib.hid (chainCheck A c l w hm hA 0 0 (cfault_zero l hg))
  have c1 : ((l.length : Int) == 40) = false := beq_eq_false_iff_ne.2 (by have := k.n; omega)
  obtain ⟨⟨ep, st, qv, um⟩, hl⟩ : ∃ x, lastH l = x := ⟨_, rfl⟩
  have hL := fun (w : World) hA => Lib.hid (chainLast A c l w hg.pos hm hA ep st qv um hl)
  have hk := k.k
  rw [hl] at hk ⊢
  obtain ⟨q, hq⟩ : ∃ q, ep + 1 = q := ⟨_, rfl⟩
  obtain ⟨m, hmm⟩ : ∃ m, hmark (ep, st, qv, um) = m := ⟨_, rfl⟩
  have hN := fun w => Lib.hid (headNext_ok ep st qv um rt tm w hk m hmm q hq)
  have hK := fun (w : World) hA => Lib.hid (cloneHeads A c l w hg.pos (by omega) hA)
  have hx : nextOf (ep, st, qv, um) rt tm = (q, rt, m, tm) := by rw [nextOf, hq, hmm]
  rw [hx]
  have hsm : (l.length + [((q, rt, m, tm) : Hd)].length) * 32 ≤ 140737488355328 := by simp; omega
  have h1l : 0 < [((q, rt, m, tm) : Hd)].length := by simp
  clear hx hk hq hmm hl k hg hm
  go_enter Try.func9, Try.ntmps9
  go_wp2_with fail
  refine (hC _ hA).out.mono ?_
  rintro e w1 ⟨rfl, hb1⟩
  have hA1 := hA.below hb1
  clear hC hA
  go_wp2_with fail
  refine (hL _ hA1).out.mono ?_
  rintro e w2 ⟨rfl, hb2⟩
  have hb := below_chain hb1 hb2
  have hA2 := hA1.below hb2
  clear hL hA1 hb1 hb2
  go_wp2_with fail
  refine (hN _).out.mono ?_
  rintro e w3 ⟨rfl, hb3⟩
  have hA3 := (hA2.below hb3).alloc (.cells #[.int .i64 q, .int .u64 (rt : Int), .int .u64 (m : Int), .int .i64 tm] 25)
  have hb' := below_chain hb hb3
  have hb4 := hb'.alloc hb'.size (.cells #[.int .i64 q, .int .u64 (rt : Int), .int .u64 (m : Int), .int .i64 tm] 25)
  have hz := (Bx.new w3 _ rfl _ [.int .i64 q, .int .u64 (rt : Int), .int .u64 (m : Int), .int .i64 tm] 25 rfl).get4.1
  clear hN hb hb3 hb' hA2
  go_wp2_with fail
  generalize w3.alloc (.cells #[.int .i64 q, .int .u64 (rt : Int), .int .u64 (m : Int), .int .i64 tm] 25) = v3 at *
  generalize w3.heap.size = g3 at *
  obtain ⟨z0, z1, z2, z3⟩ := hz
  have hs3 := hb4.size
  have hs4 := hb4.size
  go_region_law (first
    | (refine step_app_heads rfl (.tmp 35) (.tmp 37) rfl w.heap.size _ l ?_ (hownA.alloc (.cells #[.int .i64 q, .int .u64 (rt : Int), .int .u64 (m : Int), .int .i64 tm] 25)) (some ⟨w4.heap.size, 0, none⟩) 1 [(q, rt, m, tm)] ?_ (head_one w4 (q, rt, m, tm) _) h1l hsm ?_ ?_; (first | rfl | simp [Act.eval, Act.put]); (first | rfl | simp [Act.eval, Act.put]); (simp; omega); intro v5 w5 hown5 hgrow5; have hb6 : Below w.heap.size w w5 := (hbA.alloc hbA.size (.cells #[.int .i64 q, .int .u64 (rt : Int), .int .u64 (m : Int), .int .i64 tm] 25)).grown hgrow5 (by simp; omega) (fun j hj => (hownA.lt j hj).1))
    | (refine step_app_heads rfl (.tmp 35) (.tmp 37) rfl w.heap.size _ l ?_ hownA (some ⟨v3.heap.size, 0, none⟩) 1 [(q, rt, m, tm)] ?_ ((head_one v3.drew (q, rt, m, tm) _).below hb5) h1l hsm ?_ ?_; (first | rfl | simp [Act.eval, Act.put]); (first | rfl | simp [Act.eval, Act.put]); omega; intro v5 w5 hown5 hgrow5; have hb6 : Below w.heap.size w w5 := hbA.grown hgrow5 (by omega) (fun j hj => (hownA.lt j hj).1))
    | (go_simp; go_at_call 17; refine (hK _ ?_).out.mono ?_; (first | exact hA3 | exact hA3.alloc _); rintro e w4 ⟨D, d, rfl, hown, hb5⟩; have hbX : Below v3.heap.size v3 w4 := (by first | exact below_chain (bdrew (Below.refl _ _)) hb5 | exact below_chain (balloc (bdrew (Below.refl _ _)) _) hb5); have y0 := kept z0 hbX; have y1 := kept z1 hbX; have y2 := kept z2 hbX; have y3 := kept z3 hbX; have hownA : w4.ownsRow w.heap.size 25 4 (.slice D l.length d) l.length (hcells l) := own_base hown (by simp; omega); have hbA := below_chain hb4 hbX; have hsA := hbA.size))
  all_goals
    go_wp2_with fail
    obtain ⟨D5, d5, rfl⟩ := own_shape hown5
    go_ret2
    exact ⟨D5, d5, rfl, hown5, hb6⟩
end Go.Proofs.Ythkhafgcpmoalaa
