/- Package chain: common, the heads of two chains at the epochs of both. It writes nothing that was there. -/
import Derived.Test.YthkhafgcpmoalaaChainPart
import Derived.Deep.RegionHeld3
namespace Go.Proofs.Ythkhafgcpmoalaa
set_option maxRecDepth 100000
open Go.RowKit

def comFrom (a b : List Hd) : Int := if (firstH a).1 < (firstH b).1 then (firstH b).1 else (firstH a).1
def comTo (a b : List Hd) : Int := if (lastH b).1 < (lastH a).1 then (lastH b).1 else (lastH a).1
/-- The error of common. -/
def comErr (a b : List Hd) : Int := if (cfault a).1 = 0 then (if (cfault b).1 = 0 then (if comTo a b < comFrom a b then 5 else 0) else (cfault b).1) else (cfault a).1
structure ComOk (a b : List Hd) : Prop where
  g : CGood a
  h : CGood b
  k : comFrom a b ≤ comTo a b
theorem comErr_ok (a b : List Hd) : comErr a b = 0 ↔ ComOk a b := by
  unfold comErr
  by_cases h0 : (cfault a).1 = 0
  · rw [if_pos h0]
    by_cases h1 : (cfault b).1 = 0
    · rw [if_pos h1]
      by_cases h2 : comTo a b < comFrom a b
      · rw [if_pos h2]
        exact ⟨fun e => absurd e (by decide), fun k => absurd k.k (by omega)⟩
      · rw [if_neg h2]
        exact ⟨fun _ => ⟨(cfault_ok a).1 h0, (cfault_ok b).1 h1, by omega⟩, fun _ => rfl⟩
    · rw [if_neg h1]
      exact ⟨fun e => absurd e h1, fun k => absurd ((cfault_ok b).2 k.h) h1⟩
  · rw [if_neg h0]
    exact ⟨fun e => absurd e h0, fun k => absurd ((cfault_ok a).2 k.g) h0⟩
/-- The common heads of both. -/
def comLen (a b : List Hd) : Nat := partLen (comFrom a b) (comTo a b)
def comA (a b : List Hd) : List Hd := cut a (partAt a (comFrom a b)) (comLen a b)
def comB (a b : List Hd) : List Hd := cut b (partAt b (comFrom a b)) (comLen a b)
theorem ComOk.parts {a b : List Hd} (k : ComOk a b) : PartOk a (comFrom a b) (comTo a b) ∧ PartOk b (comFrom a b) (comTo a b) := by
  have hk := k.k
  refine ⟨⟨k.g, hk, ?_, ?_⟩, ⟨k.h, hk, ?_, ?_⟩⟩ <;> unfold comFrom comTo at * <;> split <;> omega
theorem ComOk.len {a b : List Hd} (k : ComOk a b) : 0 < comLen a b ∧ comLen a b ≤ 40 ∧ (comA a b).length = comLen a b ∧ (comB a b).length = comLen a b := by
  obtain ⟨h1, h2⟩ := k.parts
  obtain ⟨_, _, e3, e4⟩ := h1.spot
  obtain ⟨_, _, _, f4⟩ := h2.spot
  have := k.g.len
  exact ⟨e3, by unfold comLen; omega, cut_length _ _ _ e4, cut_length _ _ _ f4⟩

def ComNo (r : Int) (w : World) (e : Ending) (w' : World) : Prop := e = .returned (.tuple #[.slice none 0 0, .slice none 0 0, .int .i64 r]) ∧ Below w.heap.size w w'
set_option maxHeartbeats 1000000 in
theorem chainCommon_no (A B : Option Addr) (c d : Nat) (a b : List Hd) (w : World) (hma : a.length ≤ maxLen) (hmb : b.length ≤ maxLen) (hA : Row w A (hcells a)) (hB : Row w B (hcells b)) (r : Int) (hr : comErr a b = r) (h0 : r ≠ 0) :
    Calls Try.prog 35 #[.slice A a.length c, .slice B b.length d] w (ComNo r w) := by
  unfold comErr at hr
  obtain ⟨⟨r1, p⟩, hf⟩ : ∃ x, cfault a = x := ⟨_, rfl⟩
  obtain ⟨⟨r2, q⟩, hg⟩ : ∃ x, cfault b = x := ⟨_, rfl⟩
  have hC := fun (w : World) hA => Lib.hid (chainCheck A c a w hma hA r1 p hf)
  have hD := fun (w : World) hB => Lib.hid (chainCheck B d b w hmb hB r2 q hg)
  rw [hf, hg] at hr
  dsimp only at hr
  by_cases k0 : r1 = 0
  · rw [if_pos k0] at hr
    subst k0
    have ga : CGood a := (cfault_ok a).1 (by rw [hf])
    by_cases k1 : r2 = 0
    · rw [if_pos k1] at hr
      subst k1
      have gb : CGood b := (cfault_ok b).1 (by rw [hg])
      by_cases k2 : comTo a b < comFrom a b
      · rw [if_pos k2] at hr
        subst hr
        unfold comTo comFrom at k2
        have pa := ga.pos
        have pb := gb.pos
        obtain ⟨⟨f0, f1, f2, f3⟩, hfa⟩ : ∃ x, firstH a = x := ⟨_, rfl⟩
        obtain ⟨⟨x0, x1, x2, x3⟩, hfb⟩ : ∃ x, firstH b = x := ⟨_, rfl⟩
        obtain ⟨⟨e0, e1, e2, e3⟩, hla⟩ : ∃ x, lastH a = x := ⟨_, rfl⟩
        obtain ⟨⟨y0, y1, y2, y3⟩, hlb⟩ : ∃ x, lastH b = x := ⟨_, rfl⟩
        have hL := fun (w : World) hA => Lib.hid (chainLast A c a w pa hma hA e0 e1 e2 e3 hla)
        have hM := fun (w : World) hB => Lib.hid (chainLast B d b w pb hmb hB y0 y1 y2 y3 hlb)
        have hfd : ∀ w : World, (Instr.field 25 (.agg #[.int .i64 e0, .int .u64 (e1 : Int), .int .u64 (e2 : Int), .int .i64 e3]) 0).run Try.prog w = .ok (.int .i64 e0) w := fun _ => by kernel_rfl
        have hfe : ∀ w : World, (Instr.field 25 (.agg #[.int .i64 y0, .int .u64 (y1 : Int), .int .u64 (y2 : Int), .int .i64 y3]) 0).run Try.prog w = .ok (.int .i64 y0) w := fun _ => by kernel_rfl
        rw [hfa, hfb, hla, hlb] at k2
        dsimp only at k2
        rw [firstH_at pa] at hfa
        rw [firstH_at pb] at hfb
        obtain ⟨fr, hfr⟩ : ∃ fr, (if f0 < x0 then x0 else f0) = fr := ⟨_, rfl⟩
        obtain ⟨to, hto⟩ : ∃ to, (if y0 < e0 then y0 else e0) = to := ⟨_, rfl⟩
        rw [hfr, hto] at k2
        have c1 : decide (to < fr) = true := decide_eq_true k2
        have i0 : (0 : Int) < (a.length : Int) := by omega
        have i1 : (0 : Int) < (b.length : Int) := by omega
        clear hf hg ga gb k2 hla hlb h0
        go_enter Try.func35, Try.ntmps35
        go_wp2_with fail
        refine (hC _ hA).out.mono ?_
        rintro e w1 ⟨rfl, hb1⟩
        have hA1 := hA.below hb1
        have hB1 := hB.below hb1
        clear hC hA hB
        go_wp2_with fail
        refine (hD _ hB1).out.mono ?_
        rintro e w2 ⟨rfl, hb2⟩
        have hA2 := hA1.below hb2
        have hB2 := hB1.below hb2
        have hb := below_chain hb1 hb2
        clear hD hA1 hB1 hb1 hb2
        obtain ⟨g, off, rfl, z0, -, -, -⟩ := hA2.head 0 pa
        obtain ⟨g', off', rfl, v0, -, -, -⟩ := hB2.head 0 pb
        rw [hfa, Nat.zero_mul, Nat.add_zero] at z0
        rw [hfb, Nat.zero_mul, Nat.add_zero] at v0
        dsimp only at z0 v0
        clear hfa hfb
        go_wp2_with fail
        go_region
        have hA3 : Row w2.drew (some ⟨g, off, none⟩) (hcells a) := hA2
        have hB3 : Row w2.drew (some ⟨g', off', none⟩) (hcells b) := hB2
        have hb3 := bdrew hb
        clear hA2 hB2 hb z0 v0
        generalize w2.drew = w3 at *
        go_wp2_with fail
        refine (hL _ hA3).out.mono ?_
        rintro e w4 ⟨rfl, hb4⟩
        have hA4 := hA3.below hb4
        have hB4 := hB3.below hb4
        have hb' := below_chain hb3 hb4
        clear hL hA3 hB3 hb3 hb4
        go_wp2_with fail
        refine (hM _ hB4).out.mono ?_
        rintro e w5 ⟨rfl, hb5⟩
        have hA5 := hA4.below hb5
        have hB5 := hB4.below hb5
        have hb'' := below_chain hb' hb5
        clear hM hA4 hB4 hb' hb5
        go_wp2
        go_ret3
        exact ⟨rfl, hb''⟩
      · rw [if_neg k2] at hr
        exact absurd hr.symm h0
    · rw [if_neg k1] at hr
      subst hr
      have c1 : (r2 == 0) = false := beq_eq_false_iff_ne.2 k1
      clear hf hg k1
      go_enter Try.func35, Try.ntmps35
      go_wp2_with fail
      refine (hC _ hA).out.mono ?_
      rintro e w1 ⟨rfl, hb1⟩
      have hB1 := hB.below hb1
      clear hC hA hB
      go_wp2_with fail
      refine (hD _ hB1).out.mono ?_
      rintro e w2 ⟨rfl, hb2⟩
      have hb := below_chain hb1 hb2
      clear hD hB1
      go_wp2
      go_ret3
      exact ⟨rfl, hb⟩
  · rw [if_neg k0] at hr
    subst hr
    have c1 : (r1 == 0) = false := beq_eq_false_iff_ne.2 k0
    clear hf hg k0
    go_enter Try.func35, Try.ntmps35
    go_wp2_with fail
    refine (hC _ hA).out.mono ?_
    rintro e w1 ⟨rfl, hb1⟩
    clear hC hD hA hB
    go_wp2
    go_ret3
    exact ⟨rfl, hb1⟩

/-- The heads of both at the epochs of both, each in its list's own memory. -/
def ComGives (S T : List Hd) (n : Nat) (w : World) (e : Ending) (w' : World) : Prop := ∃ A B c d, e = .returned (.tuple #[.slice A n c, .slice B n d, .int .i64 0]) ∧ Row w' A (hcells S) ∧ Row w' B (hcells T) ∧ S.length = n ∧ T.length = n ∧ n ≤ c ∧ n ≤ d ∧ Below w.heap.size w w'
set_option maxHeartbeats 1000000 in
theorem chainCommon_ok (A B : Option Addr) (c d : Nat) (a b : List Hd) (w : World) (hca : a.length ≤ c) (hcm : c ≤ maxLen) (hdb : b.length ≤ d) (hdm : d ≤ maxLen) (hA : Row w A (hcells a)) (hB : Row w B (hcells b)) (k : ComOk a b) :
    Calls Try.prog 35 #[.slice A a.length c, .slice B b.length d] w (ComGives (comA a b) (comB a b) (comLen a b) w) := by
  have ga := k.g
  have gb := k.h
  have hk := k.k
  obtain ⟨ka, kb⟩ := k.parts
  obtain ⟨-, -, hl1, hl2⟩ := k.len
  have la := ga.len
  have lb := gb.len
  have hma : a.length ≤ maxLen := by unfold maxLen; omega
  have hmb : b.length ≤ maxLen := by unfold maxLen; omega
  have hC := fun (w : World) hA => Lib.hid (chainCheck A c a w hma hA 0 0 (cfault_zero a ga))
  have hD := fun (w : World) hB => Lib.hid (chainCheck B d b w hmb hB 0 0 (cfault_zero b gb))
  have pa := ga.pos
  have pb := gb.pos
  obtain ⟨a1, a2, a3, a4⟩ := ka.spot
  obtain ⟨b1, b2, b3, b4⟩ := kb.spot
  obtain ⟨⟨f0, f1, f2, f3⟩, hfa⟩ : ∃ x, firstH a = x := ⟨_, rfl⟩
  obtain ⟨⟨x0, x1, x2, x3⟩, hfb⟩ : ∃ x, firstH b = x := ⟨_, rfl⟩
  obtain ⟨⟨e0, e1, e2, e3⟩, hla⟩ : ∃ x, lastH a = x := ⟨_, rfl⟩
  obtain ⟨⟨y0, y1, y2, y3⟩, hlb⟩ : ∃ x, lastH b = x := ⟨_, rfl⟩
  have hX := fun (w : World) hA => Lib.hid (chainBetween A c a w hA hca hcm _ _ a3 a4 _ _ _ rfl a1 a2 la)
  have hY := fun (w : World) hB => Lib.hid (chainBetween B d b w hB hdb hdm _ _ b3 b4 _ _ _ rfl b1 b2 lb)
  have hL := fun (w : World) hA => Lib.hid (chainLast A c a w pa hma hA e0 e1 e2 e3 hla)
  have hM := fun (w : World) hB => Lib.hid (chainLast B d b w pb hmb hB y0 y1 y2 y3 hlb)
  have hfd : ∀ w : World, (Instr.field 25 (.agg #[.int .i64 e0, .int .u64 (e1 : Int), .int .u64 (e2 : Int), .int .i64 e3]) 0).run Try.prog w = .ok (.int .i64 e0) w := fun _ => by kernel_rfl
  have hfe : ∀ w : World, (Instr.field 25 (.agg #[.int .i64 y0, .int .u64 (y1 : Int), .int .u64 (y2 : Int), .int .i64 y3]) 0).run Try.prog w = .ok (.int .i64 y0) w := fun _ => by kernel_rfl
  have hfr : comFrom a b = if f0 < x0 then x0 else f0 := by rw [comFrom, hfa, hfb]
  have hto : comTo a b = if y0 < e0 then y0 else e0 := by rw [comTo, hla, hlb]
  rw [show cut a (partAt a (comFrom a b)) (partLen (comFrom a b) (comTo a b)) = comA a b from rfl] at hX
  rw [show cut b (partAt b (comFrom a b)) (partLen (comFrom a b) (comTo a b)) = comB a b from rfl] at hY
  generalize comA a b = S at *
  generalize comB a b = T at *
  generalize comLen a b = n at *
  generalize comFrom a b = fr at *
  generalize comTo a b = to at *
  have hfr2 := hfr.symm
  have hto2 := hto.symm
  clear hfr hto
  rw [firstH_at pa] at hfa
  rw [firstH_at pb] at hfb
  have c1 : decide (to < fr) = false := decide_eq_false (by omega)
  have i0 : (0 : Int) < (a.length : Int) := by omega
  have i1 : (0 : Int) < (b.length : Int) := by omega
  clear k ka kb ga gb hk la lb hma hmb a1 a2 a3 a4 b1 b2 b3 b4 hla hlb hca hcm hdb hdm
  go_enter Try.func35, Try.ntmps35
  go_wp2_with fail
  refine (hC _ hA).out.mono ?_
  rintro e w1 ⟨rfl, hb1⟩
  have hA1 := hA.below hb1
  have hB1 := hB.below hb1
  clear hC hA hB
  go_wp2_with fail
  refine (hD _ hB1).out.mono ?_
  rintro e w2 ⟨rfl, hb2⟩
  have hA2 := hA1.below hb2
  have hB2 := hB1.below hb2
  have hb := below_chain hb1 hb2
  clear hD hA1 hB1 hb1 hb2
  obtain ⟨g, off, rfl, z0, -, -, -⟩ := hA2.head 0 pa
  obtain ⟨g', off', rfl, v0, -, -, -⟩ := hB2.head 0 pb
  rw [hfa, Nat.zero_mul, Nat.add_zero] at z0
  rw [hfb, Nat.zero_mul, Nat.add_zero] at v0
  dsimp only at z0 v0
  clear hfa hfb
  go_wp2_with fail
  go_region
  have hA3 : Row w2.drew (some ⟨g, off, none⟩) (hcells a) := hA2
  have hB3 : Row w2.drew (some ⟨g', off', none⟩) (hcells b) := hB2
  have hb3 := bdrew hb
  clear hA2 hB2 hb z0 v0
  generalize w2.drew = w3 at *
  go_wp2_with fail
  refine (hL _ hA3).out.mono ?_
  rintro e w4 ⟨rfl, hb4⟩
  have hA4 := hA3.below hb4
  have hB4 := hB3.below hb4
  have hb' := below_chain hb3 hb4
  clear hL hA3 hB3 hb3 hb4
  go_wp2_with fail
  refine (hM _ hB4).out.mono ?_
  rintro e w5 ⟨rfl, hb5⟩
  have hA5 := hA4.below hb5
  have hB5 := hB4.below hb5
  have hb'' := below_chain hb' hb5
  clear hM hA4 hB4 hb' hb5
  go_wp2_with fail
  refine (hX _ hA5).out.mono ?_
  rintro e w6 ⟨C, h, rfl, hC6, hh, rfl⟩
  clear hX hA5
  go_wp2_with fail
  refine (hY _ hB5).out.mono ?_
  rintro e w7 ⟨D, m, rfl, hD6, hm, rfl⟩
  clear hY hB5
  go_wp2
  go_ret3
  exact ⟨C, D, h, m, rfl, hC6, hD6, hl1, hl2, by omega, by omega, hb''⟩
end Go.Proofs.Ythkhafgcpmoalaa
