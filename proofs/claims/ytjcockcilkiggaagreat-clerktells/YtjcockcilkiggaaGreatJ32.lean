/- Package chain: Grow, Part, Follows, each in its cases. They write nothing that was there. -/
import Derived.Test.YtjcockcilkiggaaGreatJ14
import Derived.Deep.RegionLaw
import Derived.Test.YtjcockcilkiggaaGreatJ31
import Derived.Test.YtjcockcilkiggaaGreatJ13
import Derived.Test.YtjcockcilkiggaaGreatJ22
import Derived.Test.YtjcockcilkiggaaGreatJ30
import Derived.Test.YtjcockcilkiggaaGreatJ20
namespace Go.Proofs.YtjcockcilkiggaaGreat
set_option maxRecDepth 100000
open Go.RowKit

/-- A list of heads of the call's own, and no error. -/
def HeadsErr (T : List Hd) (w : World) (e : Ending) (w' : World) : Prop := ∃ D d, e = .returned (.tuple #[.slice D T.length d, .int .i64 0]) ∧ w'.ownsRow w.heap.size 45 4 (.slice D T.length d) T.length (hcells T) ∧ Below w.heap.size w w'
/-- An error, and no heads. -/
def HeadsNo (r : Int) (w : World) (e : Ending) (w' : World) : Prop := e = .returned (.tuple #[.slice none 0 0, .int .i64 r]) ∧ Below w.heap.size w w'
theorem lastH_good {l : List Hd} (h : CGood l) : HGood (lastH l) := by
  have hp := h.pos
  rw [lastH_eq (by omega)]
  exact h.good _ (List.getElem_mem _)

/-- The error of Grow. -/
def growErr (l : List Hd) (rt : Nat) (tm : Int) : Int := if (cfault l).1 = 0 then (if l.length = 40 then 7 else nextErr (lastH l) rt tm) else (cfault l).1
structure GrowOk (l : List Hd) (rt : Nat) (tm : Int) : Prop where
  g : CGood l
  n : l.length < 40
  k : NextOk (lastH l) rt tm
theorem growErr_ok (l : List Hd) (rt : Nat) (tm : Int) : growErr l rt tm = 0 ↔ GrowOk l rt tm := by
  unfold growErr
  by_cases h0 : (cfault l).1 = 0
  · rw [if_pos h0]
    have hg := (cfault_ok l).1 h0
    by_cases h1 : l.length = 40
    · rw [if_pos h1]
      exact ⟨fun e => absurd e (by decide), fun k => absurd k.n (by omega)⟩
    · rw [if_neg h1, nextErr_ok]
      exact ⟨fun k => ⟨hg, by have := hg.len; omega, k⟩, fun k => k.k⟩
  · rw [if_neg h0]
    exact ⟨fun e => absurd e h0, fun k => absurd ((cfault_ok l).2 k.g) h0⟩

set_option maxHeartbeats 1000000 in
theorem chainGrow_no (A : Option Addr) (c : Nat) (l : List Hd) (rt : Nat) (tm : Int) (w : World) (hm : l.length ≤ maxLen) (hA : Row w A (hcells l)) (r : Int) (hr : growErr l rt tm = r) (h0 : r ≠ 0) :
    Calls Tryz.prog 52 #[.slice A l.length c, .int .u64 (rt : Int), .int .i64 tm] w (HeadsNo r w) := by
  unfold growErr at hr
  obtain ⟨⟨r1, p⟩, hf⟩ : ∃ x, cfault l = x := ⟨_, rfl⟩
  have hC := fun (w : World) hA => Lib.hid (chainCheck A c l w hm hA r1 p hf)
  rw [hf] at hr
  dsimp only at hr
  by_cases k0 : r1 = 0
  · rw [if_pos k0] at hr
    subst k0
    have hg : CGood l := (cfault_ok l).1 (by rw [hf])
    clear hf
    by_cases k1 : l.length = 40
    · rw [if_pos k1] at hr
      subst hr
      have c1 : ((l.length : Int) == 40) = true := beq_iff_eq.2 (by omega)
      clear k1 hg
      go_enter Tryz.func52, Tryz.ntmps52
      go_wp2_with fail
      refine (hC _ hA).out.mono ?_
      rintro e w1 ⟨rfl, hb1⟩
      clear hC
      go_wp2
      go_ret2
      exact ⟨rfl, hb1⟩
    · rw [if_neg k1] at hr
      have c1 : ((l.length : Int) == 40) = false := beq_eq_false_iff_ne.2 (by omega)
      obtain ⟨⟨ep, st, qv, um⟩, hl⟩ : ∃ x, lastH l = x := ⟨_, rfl⟩
      rw [hl] at hr
      have hL := fun (w : World) hA => Lib.hid (chainLast A c l w hg.pos hm hA ep st qv um hl)
      have hN := fun w => Lib.hid (headNext_no ep st qv um rt tm w r hr h0)
      have c2 : (r == 0) = false := beq_eq_false_iff_ne.2 h0
      clear hr hl k1 hg
      go_enter Tryz.func52, Tryz.ntmps52
      go_wp2_with fail
      refine (hC _ hA).out.mono ?_
      rintro e w1 ⟨rfl, hb1⟩
      have hA1 := hA.below hb1
      clear hC hA
      go_wp2_with fail
      refine (hL _ hA1).out.mono ?_
      rintro e w2 ⟨rfl, hb2⟩
      have hb := below_chain hb1 hb2
      clear hL hA1 hb1 hb2
      go_wp2_with fail
      refine (hN _).out.mono ?_
      rintro e w3 ⟨rfl, hb3⟩
      have hb' := below_chain hb hb3
      have hb'' := hb'.alloc hb'.size (.cells #[.int .i64 0, .int .u64 0, .int .u64 0, .int .i64 0] 45)
      clear hN hb hb3 hb'
      go_wp2
      go_ret2
      exact ⟨rfl, hb''⟩
  · rw [if_neg k0] at hr
    subst hr
    have c1 : (r1 == 0) = false := beq_eq_false_iff_ne.2 k0
    clear hf k0
    go_enter Tryz.func52, Tryz.ntmps52
    go_wp2_with fail
    refine (hC _ hA).out.mono ?_
    rintro e w1 ⟨rfl, hb1⟩
    clear hC
    go_wp2
    go_ret2
    exact ⟨rfl, hb1⟩

set_option maxHeartbeats 4000000 in
theorem chainGrow_ok (A : Option Addr) (c : Nat) (l : List Hd) (rt : Nat) (tm : Int) (w : World) (hA : Row w A (hcells l)) (k : GrowOk l rt tm) :
    Calls Tryz.prog 52 #[.slice A l.length c, .int .u64 (rt : Int), .int .i64 tm] w (HeadsErr (l ++ [nextOf (lastH l) rt tm]) w) := by
  have hg := k.g
  have hlen := hg.len
  have hm : l.length ≤ maxLen := by unfold maxLen; omega
  have hC := fun (w : World) hA => Lib.hid (chainCheck A c l w hm hA 0 0 (cfault_zero l hg))
  have c1 : ((l.length : Int) == 40) = false := beq_eq_false_iff_ne.2 (by have := k.n; omega)
  obtain ⟨⟨ep, st, qv, um⟩, hl⟩ : ∃ x, lastH l = x := ⟨_, rfl⟩
  have hL := fun (w : World) hA => Lib.hid (chainLast A c l w hg.pos hm hA ep st qv um hl)
  have hk := k.k
  rw [hl] at hk ⊢
  obtain ⟨q, hq⟩ : ∃ q, ep + 1 = q := ⟨_, rfl⟩
  obtain ⟨m, hmm⟩ : ∃ m, hmark (ep, st, qv, um) = m := ⟨_, rfl⟩
  have hN := fun w => Lib.hid (headNext_ok ep st qv um rt tm w hk m hmm q hq)
  have hK := fun (w : World) hA => Lib.hid (cloneHeads A c l w hg.pos (by omega) hA)
  have hx : nextOf (ep, st, qv, um) rt tm = (q, rt, m, tm) := by rw [nextOf, hq, hmm]
  rw [hx]
  have hsm : (l.length + [((q, rt, m, tm) : Hd)].length) * 32 ≤ 140737488355328 := by simp; omega
  have h1l : 0 < [((q, rt, m, tm) : Hd)].length := by simp
  clear hx hk hq hmm hl k hg hm
  go_enter Tryz.func52, Tryz.ntmps52
  go_wp2_with fail
  refine (hC _ hA).out.mono ?_
  rintro e w1 ⟨rfl, hb1⟩
  have hA1 := hA.below hb1
  clear hC hA
  go_wp2_with fail
  refine (hL _ hA1).out.mono ?_
  rintro e w2 ⟨rfl, hb2⟩
  have hb := below_chain hb1 hb2
  have hA2 := hA1.below hb2
  clear hL hA1 hb1 hb2
  go_wp2_with fail
  refine (hN _).out.mono ?_
  rintro e w3 ⟨rfl, hb3⟩
  have hA3 := (hA2.below hb3).alloc (.cells #[.int .i64 q, .int .u64 (rt : Int), .int .u64 (m : Int), .int .i64 tm] 45)
  have hb' := below_chain hb hb3
  have hb4 := hb'.alloc hb'.size (.cells #[.int .i64 q, .int .u64 (rt : Int), .int .u64 (m : Int), .int .i64 tm] 45)
  have hz := (Bx.new w3 _ rfl _ [.int .i64 q, .int .u64 (rt : Int), .int .u64 (m : Int), .int .i64 tm] 45 rfl).get4.1
  clear hN hb hb3 hb' hA2
  go_wp2_with fail
  generalize w3.alloc (.cells #[.int .i64 q, .int .u64 (rt : Int), .int .u64 (m : Int), .int .i64 tm] 45) = v3 at *
  generalize w3.heap.size = g3 at *
  obtain ⟨z0, z1, z2, z3⟩ := hz
  have hs3 := hb4.size
  have hs4 := hb4.size
  go_region_law (first
    | (refine step_app_heads rfl (.tmp 35) (.tmp 37) rfl w.heap.size _ l ?_ (hownA.alloc (.cells #[.int .i64 q, .int .u64 (rt : Int), .int .u64 (m : Int), .int .i64 tm] 45)) (some ⟨w4.heap.size, 0, none⟩) 1 [(q, rt, m, tm)] ?_ (head_one w4 (q, rt, m, tm) _) h1l hsm ?_ ?_; (first | rfl | simp [Act.eval, Act.put]); (first | rfl | simp [Act.eval, Act.put]); (simp; omega); intro v5 w5 hown5 hgrow5; have hb6 : Below w.heap.size w w5 := (hbA.alloc hbA.size (.cells #[.int .i64 q, .int .u64 (rt : Int), .int .u64 (m : Int), .int .i64 tm] 45)).grown hgrow5 (by simp; omega) (fun j hj => (hownA.lt j hj).1))
    | (refine step_app_heads rfl (.tmp 35) (.tmp 37) rfl w.heap.size _ l ?_ hownA (some ⟨v3.heap.size, 0, none⟩) 1 [(q, rt, m, tm)] ?_ ((head_one v3.drew (q, rt, m, tm) _).below hb5) h1l hsm ?_ ?_; (first | rfl | simp [Act.eval, Act.put]); (first | rfl | simp [Act.eval, Act.put]); omega; intro v5 w5 hown5 hgrow5; have hb6 : Below w.heap.size w w5 := hbA.grown hgrow5 (by omega) (fun j hj => (hownA.lt j hj).1))
    | (go_simp; go_at_call 48; refine (hK _ ?_).out.mono ?_; (first | exact hA3 | exact hA3.alloc _); rintro e w4 ⟨D, d, rfl, hown, hb5⟩; have hbX : Below v3.heap.size v3 w4 := (by first | exact below_chain (bdrew (Below.refl _ _)) hb5 | exact below_chain (balloc (bdrew (Below.refl _ _)) _) hb5); have y0 := kept z0 hbX; have y1 := kept z1 hbX; have y2 := kept z2 hbX; have y3 := kept z3 hbX; have hownA : w4.ownsRow w.heap.size 45 4 (.slice D l.length d) l.length (hcells l) := own_base hown (by simp; omega); have hbA := below_chain hb4 hbX; have hsA := hbA.size))
  all_goals
    go_wp2_with fail
    obtain ⟨D5, d5, rfl⟩ := own_shape hown5
    go_ret2
    exact ⟨D5, d5, rfl, hown5, hb6⟩
end Go.Proofs.YtjcockcilkiggaaGreat
/- Package chain: Part and Follows, each in its cases. They write nothing that was there. -/
namespace Go.Proofs.YtjcockcilkiggaaGreat
set_option maxRecDepth 100000
open Go.RowKit

/-- The error of Part. -/
def partErr (l : List Hd) (fr to : Int) : Int := if (cfault l).1 = 0 then (if to < fr ∨ fr < (firstH l).1 ∨ (lastH l).1 < to then 4 else 0) else (cfault l).1
structure PartOk (l : List Hd) (fr to : Int) : Prop where
  g : CGood l
  a : fr ≤ to
  b : (firstH l).1 ≤ fr
  c : to ≤ (lastH l).1
theorem partErr_ok (l : List Hd) (fr to : Int) : partErr l fr to = 0 ↔ PartOk l fr to := by
  unfold partErr
  by_cases h0 : (cfault l).1 = 0
  · rw [if_pos h0]
    have hg := (cfault_ok l).1 h0
    by_cases h1 : to < fr ∨ fr < (firstH l).1 ∨ (lastH l).1 < to
    · rw [if_pos h1]
      exact ⟨fun e => absurd e (by decide), fun k => by have := k.a; have := k.b; have := k.c; omega⟩
    · rw [if_neg h1]
      exact ⟨fun _ => ⟨hg, by omega, by omega, by omega⟩, fun _ => rfl⟩
  · rw [if_neg h0]
    exact ⟨fun e => absurd e h0, fun k => absurd ((cfault_ok l).2 k.g) h0⟩
/-- The place of the first head, and how many. -/
def partAt (l : List Hd) (fr : Int) : Nat := (fr - (firstH l).1).toNat
def partLen (fr to : Int) : Nat := (to - fr + 1).toNat
theorem CGood.first0 {l : List Hd} (h : CGood l) : 0 ≤ (firstH l).1 ∧ (firstH l).1 ≤ 1000000 := by
  rw [firstH_at h.pos]
  have := h.good _ (List.getElem_mem h.pos)
  exact ⟨this.e0, this.e1⟩
theorem CGood.lastE {l : List Hd} (h : CGood l) : (lastH l).1 = (firstH l).1 + l.length - 1 := by
  have hp := h.pos
  rw [lastH_eq (by omega), firstH_at hp, h.epoch _ (by omega)]
  omega
theorem PartOk.spot {l : List Hd} {fr to : Int} (k : PartOk l fr to) : fr = (firstH l).1 + partAt l fr ∧ to = (firstH l).1 + partAt l fr + partLen fr to - 1 ∧ 0 < partLen fr to ∧ partAt l fr + partLen fr to ≤ l.length := by
  have h1 := k.g.lastE
  have h2 := k.a
  have h3 := k.b
  have h4 := k.c
  unfold partAt partLen
  omega

/-- What Follows answers. -/
def followAns (h : Hd) (l : List Hd) : Bool × Int := if (cfault l).1 = 0 then (if hfault h = 0 then (links h (firstH l), 0) else (false, hfault h)) else (false, (cfault l).1)
end Go.Proofs.YtjcockcilkiggaaGreat
/- Clerks: what a tick makes of one; a clerk that is right stays right. -/
namespace Go.Proofs.YtjcockcilkiggaaGreat
open Go.RowKit

/-- The book that a tick publishes. -/
def tickBk (k : Ck) : List Ent := setAll (lastBk k) (k.wait.take k.batch.toNat)
/-- What a tick makes of a clerk, and whether a book was added. -/
def ckTick (k : Ck) : Ck × Bool :=
  if (decide (k.heads.length = 40) || decide (k.now = 1000000000)) = true then (k, false)
  else if (k.now + 1) % k.every = 0 then
    ({ k with now := k.now + 1, wait := k.wait.drop k.batch.toNat, heads := k.heads ++ [nextOf (lastH k.heads) (prefMark (tickBk k) []) (k.now + 1)], books := k.books ++ [tickBk k] }, true)
  else ({ k with now := k.now + 1 }, false)
theorem nextOf_root (h : Hd) (r : Nat) (t : Int) : (nextOf h r t).2.1 = r := rfl
theorem lastH_snoc (l : List Hd) (x : Hd) : lastH (l ++ [x]) = x := by
  rw [lastH_at (n := l.length) (by simp)]
  simp
theorem firstH_snoc {l : List Hd} (h : 0 < l.length) (x : Hd) : firstH (l ++ [x]) = firstH l := by
  rw [firstH_at h, firstH_at (by simp)]
  exact List.getElem_append_left h
theorem lastBk_good {k : Ck} (h : CkGood k) : Good (lastBk k) := by
  have hf := h.form
  unfold formBad at hf
  have hp := h.chain.pos
  obtain ⟨m, hm⟩ : ∃ m, k.books.length = m + 1 := ⟨k.books.length - 1, by omega⟩
  rw [lastBk_at hm]
  exact (h.each m (by omega) (by omega)).1
theorem tickBk_good {k : Ck} (h : CkGood k) : Good (tickBk k) := by
  refine setAll_good (lastBk_good h) (fun x hx => h.queue.each x (List.mem_of_mem_take hx)) (Nat.le_trans (srt_sub fun x hx => ?_) h.names)
  unfold namesOf
  rw [if_pos rfl, List.append_nil]
  rcases List.mem_append.1 hx with hx | hx
  · exact List.mem_append_left _ hx
  · obtain ⟨y, hy, rfl⟩ := List.mem_map.1 hx
    exact List.mem_append_right _ (List.mem_map_of_mem (List.mem_of_mem_take hy))
theorem tick_next {k : Ck} (h : CkGood k) (h2 : k.now ≠ 1000000000) : NextOk (lastH k.heads) (prefMark (tickBk k) []) (k.now + 1) := by
  have hr := h.range
  unfold rangeBad at hr
  have hf := h.form
  unfold formBad at hf
  have hl := h.chain.lastE
  have hp := h.chain.pos
  have h40 := h.chain.len
  exact ⟨lastH_good h.chain, by omega, pm_lt _ _ _, by omega, by omega⟩
theorem ckTick_good {k : Ck} (h : CkGood k) : CkGood (ckTick k).1 := by
  unfold ckTick
  split
  · exact h
  · rename_i hc
    have hc' : k.heads.length ≠ 40 ∧ k.now ≠ 1000000000 := by simpa using hc
    have hr := h.range
    unfold rangeBad at hr
    have hf := h.form
    unfold formBad at hf
    have hp := h.chain.pos
    have h40 := h.chain.len
    split
    · have hn := tick_next h hc'.2
      have hcg : CGood (k.heads ++ [nextOf (lastH k.heads) (prefMark (tickBk k) []) (k.now + 1)]) := h.chain.snoc _ (by omega) (by rw [← lastH_eq (by omega)]; exact links_nextOf hn)
      refine ⟨qgood_drop _ h.queue, ?_, hcg, ?_, fun i hi hi' => ?_, ?_⟩
      · unfold rangeBad
        dsimp only
        omega
      · unfold formBad
        dsimp only
        rw [firstH_snoc hp, lastH_snoc, List.length_append, List.length_append, List.length_singleton, List.length_singleton]
        show ¬ (_ ∨ _ ∨ k.now + 1 < k.now + 1)
        omega
      · dsimp only at hi hi' ⊢
        by_cases e : i < k.books.length
        · rw [List.getElem_append_left e, List.getElem_append_left (by omega)]
          exact h.each i e (by omega)
        · have e1 : i = k.books.length := by simp at hi; omega
          rw [List.getElem_append_right (by omega), List.getElem_append_right (by omega)]
          simp only [List.getElem_singleton]
          exact ⟨tickBk_good h, (nextOf_root _ _ _).symm⟩
      · have e : lastBk { k with now := k.now + 1, wait := k.wait.drop k.batch.toNat, heads := k.heads ++ [nextOf (lastH k.heads) (prefMark (tickBk k) []) (k.now + 1)], books := k.books ++ [tickBk k] } = tickBk k := by
          rw [lastBk_at (m := k.books.length) (by simp)]
          simp
        unfold namesN
        rw [e]
        refine Nat.le_trans (setAll_counted (lastBk k) (k.wait.take k.batch.toNat) (k.wait.drop k.batch.toNat) (lastBk_good h).order []) ?_
        rw [List.take_append_drop]
        exact h.names
    · refine ⟨h.queue, ?_, h.chain, ?_, h.each, h.names⟩
      · unfold rangeBad
        dsimp only
        omega
      · unfold formBad
        dsimp only
        omega
end Go.Proofs.YtjcockcilkiggaaGreat
/- The reference: Closed, and ClerkAsk at a clerk that is right: the clerk with the request behind all others and the time when it is had, or the error. They write nothing that was there. -/
namespace Go.Proofs.YtjcockcilkiggaaGreat
set_option maxRecDepth 100000
open Go.RowKit

set_option maxHeartbeats 1000000 in
theorem refClosed (most ba ev nw : Int) (A H B : Option Addr) (na c nh d nb e : Nat) (w : World) (r : Bool) (hr : (decide (nh = 40) || decide (nw = 1000000000)) = r) :
    Calls Tryz.prog 39 #[.agg #[.int .i64 most, .slice A na c, .int .i64 ba, .int .i64 ev, .int .i64 nw, .slice H nh d, .slice B nb e]] w fun x w' => x = .returned (.bool r) ∧ Below w.heap.size w w' := by
  have x0 := Bx.new w _ rfl _ [.int .i64 most, .slice A na c, .int .i64 ba, .int .i64 ev, .int .i64 nw, .slice H nh d, .slice B nb e] 28 rfl
  have hb0 := (Below.refl w.heap.size w).alloc (Nat.le_refl _) (.cells #[.int .i64 most, .slice A na c, .int .i64 ba, .int .i64 ev, .int .i64 nw, .slice H nh d, .slice B nb e] 28)
  obtain ⟨a0, a1, a2, a3, a4, a5, a6⟩ := x0.get7
  by_cases h1 : nh = 40
  · rw [decide_eq_true h1, Bool.true_or] at hr
    subst hr
    have c1 : ((nh : Int) == 40) = true := beq_iff_eq.2 (by omega)
    clear h1 x0
    go_enter Tryz.func39, Tryz.ntmps39
    go_wp2
    go_ret
    exact ⟨rfl, hb0⟩
  · rw [decide_eq_false h1, Bool.false_or] at hr
    have c1 : ((nh : Int) == 40) = false := beq_eq_false_iff_ne.2 (by omega)
    by_cases h2 : nw = 1000000000
    · rw [decide_eq_true h2] at hr
      subst hr
      have c2 : (nw == 1000000000) = true := beq_iff_eq.2 h2
      clear h1 h2 x0
      go_enter Tryz.func39, Tryz.ntmps39
      go_wp2
      go_ret
      exact ⟨rfl, hb0⟩
    · rw [decide_eq_false h2] at hr
      subst hr
      have c2 : (nw == 1000000000) = false := beq_eq_false_iff_ne.2 h2
      clear h1 h2 x0
      go_enter Tryz.func39, Tryz.ntmps39
      go_wp2
      go_ret
      exact ⟨rfl, hb0⟩
/-- Is a clerk closed? -/
def closedB (k : Ck) : Bool := decide (k.heads.length = 40) || decide (k.now = 1000000000)
/-- The error of a request. -/
def ckAskErr (k : Ck) (n v : Bytes) : Int :=
  if askFault n v = 0 then (if closedB k = true then 9 else if (k.wait.length : Int) = k.most ∨ 24 < namesN k n then 7 else 0) else askFault n v
/-- When a request is had. -/
def dueOf (k : Ck) : Int := k.now - k.now % k.every + ((k.wait.length : Int) / k.batch + 1) * k.every
/-- No clerk, and an error. -/
def ClerkNo (r : Int) (w : World) (x : Ending) (w' : World) : Prop := x = .returned (.tuple #[.agg #[.int .i64 0, .slice none 0 0, .int .i64 0, .int .i64 0, .int .i64 0, .slice none 0 0, .slice none 0 0], .int .i64 0, .int .i64 r]) ∧ Below w.heap.size w w'
end Go.Proofs.YtjcockcilkiggaaGreat
/- Clerks: a clerk that is right stays right when a request is put. -/
namespace Go.Proofs.YtjcockcilkiggaaGreat
open Go.RowKit

/-- A clerk with a request behind all others. -/
def ckAsked (k : Ck) (a : Ak) : Ck := { k with wait := k.wait ++ [a] }
theorem ckAskErr_ok {k : Ck} {n v : Bytes} (h : ckAskErr k n v = 0) : askFault n v = 0 ∧ closedB k = false ∧ (k.wait.length : Int) ≠ k.most ∧ namesN k n ≤ 24 := by
  unfold ckAskErr at h
  split at h
  · rename_i h0
    split at h
    · exact absurd h (by decide)
    · rename_i h1
      split at h
      · exact absurd h (by decide)
      · rename_i h2
        exact ⟨h0, by simpa using h1, fun e => h2 (.inl e), by omega⟩
  · rename_i h0
    exact absurd h h0
theorem namesN_asked (k : Ck) (a : Ak) (ha : a.1 ≠ []) : namesN (ckAsked k a) [] = namesN k a.1 := by
  unfold namesN ckAsked namesOf
  rw [if_pos rfl, if_neg ha, List.append_nil]
  simp [lastBk]
theorem ckAsked_good {k : Ck} {a : Ak} (h : CkGood k) (he : ckAskErr k a.1 a.2.1 = 0) : CkGood (ckAsked k a) := by
  obtain ⟨h0, h1, h2, h3⟩ := ckAskErr_ok he
  have hn := Bin.name_len ((askFault_ok _ _).1 h0).1
  have hl := h.queue.len
  have hlt : (k.wait.length : Int) < k.most := by omega
  refine ⟨qgood_put h.queue h0 hlt, h.range, h.chain, h.form, h.each, ?_⟩
  rw [namesN_asked k a (by intro e; rw [e] at hn; simp at hn)]
  exact h3
end Go.Proofs.YtjcockcilkiggaaGreat
