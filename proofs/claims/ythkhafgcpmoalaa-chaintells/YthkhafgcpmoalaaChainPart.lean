/- Package chain: Part and Follows, each in its cases. They write nothing that was there. -/
import Derived.Test.YthkhafgcpmoalaaChainMore
namespace Go.Proofs.Ythkhafgcpmoalaa
set_option maxRecDepth 100000
open Go.RowKit

/-- The error of Part. -/
def partErr (l : List Hd) (fr to : Int) : Int := if (cfault l).1 = 0 then (if to < fr ∨ fr < (firstH l).1 ∨ (lastH l).1 < to then 4 else 0) else (cfault l).1
structure PartOk (l : List Hd) (fr to : Int) : Prop where
  g : CGood l
  a : fr ≤ to
  b : (firstH l).1 ≤ fr
  c : to ≤ (lastH l).1
theorem partErr_ok (l : List Hd) (fr to : Int) : partErr l fr to = 0 ↔ PartOk l fr to := by
  unfold partErr
  by_cases h0 : (cfault l).1 = 0
  · rw [if_pos h0]
    have hg := (cfault_ok l).1 h0
    by_cases h1 : to < fr ∨ fr < (firstH l).1 ∨ (lastH l).1 < to
    · rw [if_pos h1]
      exact ⟨fun e => absurd e (by decide), fun k => by have := k.a; have := k.b; have := k.c; omega⟩
    · rw [if_neg h1]
      exact ⟨fun _ => ⟨hg, by omega, by omega, by omega⟩, fun _ => rfl⟩
  · rw [if_neg h0]
    exact ⟨fun e => absurd e h0, fun k => absurd ((cfault_ok l).2 k.g) h0⟩
/-- The place of the first head, and how many. -/
def partAt (l : List Hd) (fr : Int) : Nat := (fr - (firstH l).1).toNat
def partLen (fr to : Int) : Nat := (to - fr + 1).toNat
theorem CGood.first0 {l : List Hd} (h : CGood l) : 0 ≤ (firstH l).1 ∧ (firstH l).1 ≤ 1000000 := by
  rw [firstH_at h.pos]
  have := h.good _ (List.getElem_mem h.pos)
  exact ⟨this.e0, this.e1⟩
theorem CGood.lastE {l : List Hd} (h : CGood l) : (lastH l).1 = (firstH l).1 + l.length - 1 := by
  have hp := h.pos
  rw [lastH_eq (by omega), firstH_at hp, h.epoch _ (by omega)]
  omega
theorem PartOk.spot {l : List Hd} {fr to : Int} (k : PartOk l fr to) : fr = (firstH l).1 + partAt l fr ∧ to = (firstH l).1 + partAt l fr + partLen fr to - 1 ∧ 0 < partLen fr to ∧ partAt l fr + partLen fr to ≤ l.length := by
  have h1 := k.g.lastE
  have h2 := k.a
  have h3 := k.b
  have h4 := k.c
  unfold partAt partLen
  omega

set_option maxHeartbeats 1000000 in
theorem chainPart_no (A : Option Addr) (c : Nat) (l : List Hd) (fr to : Int) (w : World) (hm : l.length ≤ maxLen) (hA : Row w A (hcells l)) (r : Int) (hr : partErr l fr to = r) (h0 : r ≠ 0) :
    Calls Try.prog 10 #[.slice A l.length c, .int .i64 fr, .int .i64 to] w (HeadsNo r w) := by
  unfold partErr at hr
  obtain ⟨⟨r1, p⟩, hf⟩ : ∃ x, cfault l = x := ⟨_, rfl⟩
  have hC := fun (w : World) hA => Lib.hid (chainCheck A c l w hm hA r1 p hf)
  rw [hf] at hr
  dsimp only at hr
  by_cases k0 : r1 = 0
  · rw [if_pos k0] at hr
    subst k0
    have hg : CGood l := (cfault_ok l).1 (by rw [hf])
    have hpos := hg.pos
    obtain ⟨⟨ep, st, qv, um⟩, hl⟩ : ∃ x, lastH l = x := ⟨_, rfl⟩
    obtain ⟨⟨f0, f1, f2, f3⟩, hfi⟩ : ∃ x, firstH l = x := ⟨_, rfl⟩
    have hL := fun (w : World) hA => Lib.hid (chainLast A c l w hg.pos hm hA ep st qv um hl)
    have hfd : ∀ w : World, (Instr.field 25 (.agg #[.int .i64 ep, .int .u64 (st : Int), .int .u64 (qv : Int), .int .i64 um]) 0).run Try.prog w = .ok (.int .i64 ep) w := fun _ => by kernel_rfl
    rw [hl, hfi] at hr
    dsimp only at hr
    rw [firstH_at hpos] at hfi
    have k1 : to < fr ∨ fr < f0 ∨ ep < to := by
      by_cases k : to < fr ∨ fr < f0 ∨ ep < to
      · exact k
      · rw [if_neg k] at hr; exact absurd hr.symm h0
    rw [if_pos k1] at hr
    subst hr
    clear hf hg hl h0
    by_cases k2 : to < fr
    · have c1 : decide (to < fr) = true := decide_eq_true k2
      clear k1 k2
      go_enter Try.func10, Try.ntmps10
      go_wp2_with fail
      refine (hC _ hA).out.mono ?_
      rintro e w1 ⟨rfl, hb1⟩
      clear hC hL hA hfi
      go_wp2
      go_ret2
      exact ⟨rfl, hb1⟩
    · have c1 : decide (to < fr) = false := decide_eq_false k2
      by_cases k3 : fr < f0
      · have c2 : decide (fr < f0) = true := decide_eq_true k3
        clear k1 k2 k3
        go_enter Try.func10, Try.ntmps10
        go_wp2_with fail
        refine (hC _ hA).out.mono ?_
        rintro e w1 ⟨rfl, hb1⟩
        obtain ⟨g, off, rfl, z0, -, -, -⟩ := (hA.below hb1).head 0 hpos
        rw [hfi, Nat.zero_mul, Nat.add_zero] at z0
        have i1 : (0 : Int) < (l.length : Int) := by omega
        clear hC hL hA hfi
        go_wp2
        go_ret2
        exact ⟨rfl, hb1⟩
      · have c2 : decide (fr < f0) = false := decide_eq_false k3
        have k4 : ep < to := by omega
        have c3 : decide (ep < to) = true := decide_eq_true k4
        clear k1 k2 k3 k4
        go_enter Try.func10, Try.ntmps10
        go_wp2_with fail
        refine (hC _ hA).out.mono ?_
        rintro e w1 ⟨rfl, hb1⟩
        have hA1 := hA.below hb1
        obtain ⟨g, off, rfl, z0, -, -, -⟩ := (hA.below hb1).head 0 hpos
        rw [hfi, Nat.zero_mul, Nat.add_zero] at z0
        have i1 : (0 : Int) < (l.length : Int) := by omega
        clear hC hA hfi
        go_wp2_with fail
        refine (hL _ hA1).out.mono ?_
        rintro e w2 ⟨rfl, hb2⟩
        have hb := below_chain hb1 hb2
        clear hL hA1
        go_wp2
        go_ret2
        exact ⟨rfl, hb⟩
  · rw [if_neg k0] at hr
    subst hr
    have c1 : (r1 == 0) = false := beq_eq_false_iff_ne.2 k0
    clear hf k0
    go_enter Try.func10, Try.ntmps10
    go_wp2_with fail
    refine (hC _ hA).out.mono ?_
    rintro e w1 ⟨rfl, hb1⟩
    clear hC
    go_wp2
    go_ret2
    exact ⟨rfl, hb1⟩

set_option maxHeartbeats 1000000 in
theorem chainPart_ok (A : Option Addr) (c : Nat) (l : List Hd) (fr to : Int) (w : World) (hc : l.length ≤ c) (hcm : c ≤ maxLen) (hA : Row w A (hcells l)) (k : PartOk l fr to) :
    Calls Try.prog 10 #[.slice A l.length c, .int .i64 fr, .int .i64 to] w (HeadsErr (cut l (partAt l fr) (partLen fr to)) w) := by
  obtain ⟨e1, e2, e3, e4⟩ := k.spot
  obtain ⟨hg, ka, kb, kc⟩ := k
  have hlen := hg.len
  have hpos := hg.pos
  have hm : l.length ≤ maxLen := by unfold maxLen; omega
  have hC := fun (w : World) hA => Lib.hid (chainCheck A c l w hm hA 0 0 (cfault_zero l hg))
  obtain ⟨⟨ep, st, qv, um⟩, hl⟩ : ∃ x, lastH l = x := ⟨_, rfl⟩
  obtain ⟨⟨f0, f1, f2, f3⟩, hfi⟩ : ∃ x, firstH l = x := ⟨_, rfl⟩
  have hL := fun (w : World) hA => Lib.hid (chainLast A c l w hg.pos hm hA ep st qv um hl)
  have hfd : ∀ w : World, (Instr.field 25 (.agg #[.int .i64 ep, .int .u64 (st : Int), .int .u64 (qv : Int), .int .i64 um]) 0).run Try.prog w = .ok (.int .i64 ep) w := fun _ => by kernel_rfl
  rw [hfi] at e1 e2 kb
  rw [hl] at kc
  dsimp only at e1 e2 kb kc
  generalize partAt l fr = p at *
  generalize partLen fr to = n at *
  have hB := fun (w : World) hA => Lib.hid (chainBetween A c l w hA hc hcm p n e3 e4 f0 fr to (by rw [hfi]) e1 e2 hlen)
  have hcl := cut_length l p n e4
  have hK := fun (B : Option Addr) (d : Nat) (w : World) hB => Lib.hid (cloneHeads B d (cut l p n) w (by omega) (by omega) hB)
  rw [firstH_at hpos] at hfi
  have c1 : decide (to < fr) = false := decide_eq_false (by omega)
  have c2 : decide (fr < f0) = false := decide_eq_false (by omega)
  have c3 : decide (ep < to) = false := decide_eq_false (by omega)
  clear hg hl ka kb kc e1 e2 e3 e4 hc hcm hm hlen hcl
  generalize cut l p n = T at *
  go_enter Try.func10, Try.ntmps10
  go_wp2_with fail
  refine (hC _ hA).out.mono ?_
  rintro e w1 ⟨rfl, hb1⟩
  have hA1 := hA.below hb1
  obtain ⟨g, off, rfl, z0, -, -, -⟩ := (hA.below hb1).head 0 hpos
  rw [hfi, Nat.zero_mul, Nat.add_zero] at z0
  have i1 : (0 : Int) < (l.length : Int) := by omega
  clear hC hA hfi
  go_wp2_with fail
  refine (hL _ hA1).out.mono ?_
  rintro e w2 ⟨rfl, hb2⟩
  have hb := below_chain hb1 hb2
  have hA2 := hA1.below hb2
  clear hL hA1 hb1 hb2 z0
  go_wp2_with fail
  refine (hB _ hA2).out.mono ?_
  rintro e w3 ⟨B, d, rfl, hrow, hd, rfl⟩
  clear hB hA2
  go_wp2_with fail
  refine (hK _ _ _ hrow).out.mono ?_
  rintro e w4 ⟨D, d4, rfl, hown, hb4⟩
  have hbb := below_chain hb hb4
  have hown' := own_base hown hb.size
  clear hK hrow hb hb4 hown
  go_wp2
  go_ret2
  exact ⟨D, d4, rfl, hown', hbb⟩

/-- What Follows answers. -/
def followAns (h : Hd) (l : List Hd) : Bool × Int := if (cfault l).1 = 0 then (if hfault h = 0 then (links h (firstH l), 0) else (false, hfault h)) else (false, (cfault l).1)
set_option maxHeartbeats 1000000 in
theorem chainFollows (A : Option Addr) (c : Nat) (l : List Hd) (ep : Int) (rt pv : Nat) (tm : Int) (w : World) (hm : l.length ≤ maxLen) (hA : Row w A (hcells l)) (b : Bool) (r : Int) (hr : followAns (ep, rt, pv, tm) l = (b, r)) :
    Calls Try.prog 11 #[.agg #[.int .i64 ep, .int .u64 (rt : Int), .int .u64 (pv : Int), .int .i64 tm], .slice A l.length c] w fun e w' => e = .returned (.tuple #[.bool b, .int .i64 r]) ∧ Below w.heap.size w w' := by
  unfold followAns at hr
  obtain ⟨⟨r1, p⟩, hf⟩ : ∃ x, cfault l = x := ⟨_, rfl⟩
  have hC := fun (w : World) hA => Lib.hid (chainCheck A c l w hm hA r1 p hf)
  have hz := Bx.new w _ rfl _ [.int .i64 ep, .int .u64 (rt : Int), .int .u64 (pv : Int), .int .i64 tm] 25 rfl
  have hb0 : Below w.heap.size w (w.alloc (.cells #[.int .i64 ep, .int .u64 (rt : Int), .int .u64 (pv : Int), .int .i64 tm] 25)) := (Below.refl _ _).alloc (Nat.le_refl _) _
  have hA0 := hA.below hb0
  rw [hf] at hr
  dsimp only at hr
  by_cases k0 : r1 = 0
  · rw [if_pos k0] at hr
    subst k0
    have hg : CGood l := (cfault_ok l).1 (by rw [hf])
    have hpos := hg.pos
    obtain ⟨r2, hr2⟩ : ∃ r2, hfault (ep, rt, pv, tm) = r2 := ⟨_, rfl⟩
    have hH := fun w => Lib.hid (headCheck ep rt pv tm w r2 hr2)
    rw [hr2] at hr
    by_cases k1 : r2 = 0
    · rw [if_pos k1] at hr
      injection hr with e1 e2
      subst k1; subst e2
      obtain ⟨⟨f0, f1, f2, f3⟩, hfi⟩ : ∃ x, firstH l = x := ⟨_, rfl⟩
      rw [hfi] at e1
      have hS := fun w => Lib.hid (chainSucceeds ep rt pv tm f0 f1 f2 f3 w b e1)
      rw [firstH_at hpos] at hfi
      clear hf hg hr2 e1
      go_enter Try.func11, Try.ntmps11
      go_wp2_with fail
      refine (hC _ hA0).out.mono ?_
      rintro e w1 ⟨rfl, hb1⟩
      have hz1 := hz.below hb1
      have hA1 := hA0.below hb1
      have hb := below_chain hb0 hb1
      clear hC hA hA0 hz hb0 hb1
      obtain ⟨⟨z0, z1, z2, z3⟩, -⟩ := hz1.get4
      go_wp2_with fail
      refine (hH _).out.mono ?_
      rintro e w2 ⟨rfl, hb2⟩
      obtain ⟨⟨y0, y1, y2, y3⟩, -⟩ := (hz1.below hb2).get4
      obtain ⟨g, off, rfl, j0, j1, j2, j3⟩ := (hA1.below hb2).head 0 hpos
      have hb' := below_chain hb hb2
      rw [hfi, Nat.zero_mul, Nat.add_zero] at j0 j1 j2 j3
      dsimp only at j0 j1 j2 j3
      have i1 : (0 : Int) < (l.length : Int) := by omega
      have hS' : ∀ W : World, (W.cell? ⟨w.heap.size, 0, none⟩ = some (.int .i64 ep) ∧ W.cell? ⟨w.heap.size, 1, none⟩ = some (.int .u64 (rt : Int)) ∧ W.cell? ⟨w.heap.size, 2, none⟩ = some (.int .u64 (pv : Int)) ∧ W.cell? ⟨w.heap.size, 3, none⟩ = some (.int .i64 tm) ∧ W.cell? ⟨g, off, none⟩ = some (.int .i64 f0) ∧ W.cell? ⟨g, off + 1, none⟩ = some (.int .u64 (f1 : Int)) ∧ W.cell? ⟨g, off + 2, none⟩ = some (.int .u64 (f2 : Int)) ∧ W.cell? ⟨g, off + 3, none⟩ = some (.int .i64 f3) ∧ Below w.heap.size w W) → Hid (Calls Try.prog 29 #[.agg #[.int .i64 ep, .int .u64 (rt : Int), .int .u64 (pv : Int), .int .i64 tm], .agg #[.int .i64 f0, .int .u64 (f1 : Int), .int .u64 (f2 : Int), .int .i64 f3]] W fun e w' => e = .returned (.bool b) ∧ w'.cell? ⟨w.heap.size, 0, none⟩ = some (.int .i64 ep) ∧ w'.cell? ⟨w.heap.size, 1, none⟩ = some (.int .u64 (rt : Int)) ∧ w'.cell? ⟨w.heap.size, 2, none⟩ = some (.int .u64 (pv : Int)) ∧ w'.cell? ⟨w.heap.size, 3, none⟩ = some (.int .i64 tm) ∧ w'.cell? ⟨g, off, none⟩ = some (.int .i64 f0) ∧ w'.cell? ⟨g, off + 1, none⟩ = some (.int .u64 (f1 : Int)) ∧ w'.cell? ⟨g, off + 2, none⟩ = some (.int .u64 (f2 : Int)) ∧ w'.cell? ⟨g, off + 3, none⟩ = some (.int .i64 f3) ∧ Below w.heap.size w w') := fun W ⟨q1, q2, q3, q4, q5, q6, q7, q8, q9⟩ => by
        show Calls _ _ _ _ _
        refine (hS W).out.mono ?_
        rintro e w' ⟨rfl, hb⟩
        exact ⟨rfl, kept q1 hb, kept q2 hb, kept q3 hb, kept q4 hb, kept q5 hb, kept q6 hb, kept q7 hb, kept q8 hb, below_chain q9 hb⟩
      have hb9 : Below w.heap.size w w2.drew := bdrew hb'
      clear hH hz1 hA1 hb hb2 hfi z0 z1 z2 z3 hS hb'
      go_wp2
      go_region_held3 (fun w' => w'.cell? ⟨w.heap.size, 0, none⟩ = some (.int .i64 ep) ∧ w'.cell? ⟨w.heap.size, 1, none⟩ = some (.int .u64 (rt : Int)) ∧ w'.cell? ⟨w.heap.size, 2, none⟩ = some (.int .u64 (pv : Int)) ∧ w'.cell? ⟨w.heap.size, 3, none⟩ = some (.int .i64 tm) ∧ w'.cell? ⟨g, off, none⟩ = some (.int .i64 f0) ∧ w'.cell? ⟨g, off + 1, none⟩ = some (.int .u64 (f1 : Int)) ∧ w'.cell? ⟨g, off + 2, none⟩ = some (.int .u64 (f2 : Int)) ∧ w'.cell? ⟨g, off + 3, none⟩ = some (.int .i64 f3) ∧ Below w.heap.size w w') (first | exact ⟨y0, y1, y2, y3, j0, j1, j2, j3, hb9⟩ | exact ⟨by assumption, by assumption, by assumption, by assumption, by assumption, by assumption, by assumption, by assumption, by assumption⟩ | go_keep)
        (first | (go_at_call 29; refine (hS' _ ?_).out.mono ?_; (first | exact ⟨by assumption, by assumption, by assumption, by assumption, by assumption, by assumption, by assumption, by assumption, by assumption⟩); rintro e w3 ⟨rfl, k1, k2, k3, k4, k5, k6, k7, k8, k9⟩))
      go_wp2
      go_ret2
      exact ⟨rfl, k9⟩
    · rw [if_neg k1] at hr
      injection hr with e1 e2
      subst e1; subst e2
      have c1 : (r2 == 0) = false := beq_eq_false_iff_ne.2 k1
      clear hf hg hr2 k1
      go_enter Try.func11, Try.ntmps11
      go_wp2_with fail
      refine (hC _ hA0).out.mono ?_
      rintro e w1 ⟨rfl, hb1⟩
      have hz1 := hz.below hb1
      have hb := below_chain hb0 hb1
      clear hC hA hA0 hz hb0 hb1
      obtain ⟨⟨z0, z1, z2, z3⟩, -⟩ := hz1.get4
      go_wp2_with fail
      refine (hH _).out.mono ?_
      rintro e w2 ⟨rfl, hb2⟩
      have hb' := below_chain hb hb2
      clear hH hz1 hb hb2 z0 z1 z2 z3
      go_wp2
      go_ret2
      exact ⟨rfl, hb'⟩
  · rw [if_neg k0] at hr
    injection hr with e1 e2
    subst e1; subst e2
    have c1 : (r1 == 0) = false := beq_eq_false_iff_ne.2 k0
    clear hf k0
    go_enter Try.func11, Try.ntmps11
    go_wp2_with fail
    refine (hC _ hA0).out.mono ?_
    rintro e w1 ⟨rfl, hb1⟩
    have hb := below_chain hb0 hb1
    clear hC hz hb0 hb1
    go_wp2
    go_ret2
    exact ⟨rfl, hb⟩
end Go.Proofs.Ythkhafgcpmoalaa
