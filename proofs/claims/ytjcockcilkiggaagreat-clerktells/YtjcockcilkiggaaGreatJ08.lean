/- The reference: AskFault returns the first error of a request, Tag and AskTag the tag of a string and of a request. They write nothing that was there. -/
import Derived.Test.YtjcockcilkiggaaGreatJ05
import Derived.Test.YtjcockcilkiggaaGreatJ07
import Derived.Test.YtjcockcilkiggaaGreatJ02
import Derived.Test.YtjcockcilkiggaaGreatJ04
import Derived.Deep.RegionHeld3
namespace Go.Proofs.YtjcockcilkiggaaGreat
open Go.RowKit

def askFault (n v : Bytes) : Int := if Bin.name n = true then (if 20 < v.length then 2 else 0) else 3
theorem askFault_ok (n v : Bytes) : askFault n v = 0 ↔ Bin.name n = true ∧ v.length ≤ 20 := by
  unfold askFault
  by_cases h : Bin.name n = true
  · rw [if_pos h]
    by_cases h2 : 20 < v.length
    · rw [if_pos h2]
      exact ⟨fun h => by simp at h, fun h => by have := h.2; omega⟩
    · rw [if_neg h2]
      exact ⟨fun _ => ⟨h, by omega⟩, fun _ => rfl⟩
  · rw [if_neg h]
    exact ⟨fun h => by simp at h, fun k => absurd k.1 h⟩
def tagOf (key : Nat) (s : Bytes) : Nat := Hash.of (be8 key ++ s ++ be8 key)
def askTag (key : Nat) (n v : Bytes) (num : Nat) : Nat := tagOf key (be8 num ++ Wire.enc [n, v])

set_option maxHeartbeats 400000 in
theorem refAskFault (n v : Bytes) (w : World) (hn : n.length ≤ maxLen) (hv : v.length ≤ maxLen) (r : Int) (hr : askFault n v = r) :
    Calls Tryz.prog 38 #[.string (S n), .string (S v)] w fun e w' => e = .returned (.int .i64 r) ∧ w = w' := by
  have hG := fun w => Lib.hid (goodName n w hn _ rfl)
  unfold maxLen at hv
  unfold askFault at hr
  cases hnm : Bin.name n with
  | false =>
    rw [hnm] at hG hr
    rw [if_neg (by simp)] at hr
    subst hr
    clear hnm
    go_enter Tryz.func38, Tryz.ntmps38
    go_wp2_with fail
    refine (hG _).out.mono ?_
    rintro e w1 ⟨rfl, rfl⟩
    go_wp2
    go_ret
    exact ⟨rfl, rfl⟩
  | true =>
    rw [hnm] at hG hr
    rw [if_pos rfl] at hr
    by_cases h : 20 < v.length
    · rw [if_pos h] at hr
      have c1 : decide ((20 : Int) < (v.length : Int)) = true := decide_eq_true (by omega)
      subst hr
      clear hnm h
      go_enter Tryz.func38, Tryz.ntmps38
      go_wp2_with fail
      refine (hG _).out.mono ?_
      rintro e w1 ⟨rfl, rfl⟩
      go_wp2
      go_ret
      exact ⟨rfl, rfl⟩
    · rw [if_neg h] at hr
      have c1 : decide ((20 : Int) < (v.length : Int)) = false := decide_eq_false (by omega)
      subst hr
      clear hnm h
      go_enter Tryz.func38, Tryz.ntmps38
      go_wp2_with fail
      refine (hG _).out.mono ?_
      rintro e w1 ⟨rfl, rfl⟩
      go_wp2
      go_ret
      exact ⟨rfl, rfl⟩


end Go.Proofs.YtjcockcilkiggaaGreat
/- Queues: the error of one; the reference's QueueFault and SameQueue. They write nothing that was there. -/
namespace Go.Proofs.YtjcockcilkiggaaGreat
set_option maxRecDepth 100000
open Go.RowKit

/-- The first error of requests. -/
def asksFault : List Ak → Int
  | [] => 0
  | x :: l => if askFault x.1 x.2.1 = 0 then asksFault l else askFault x.1 x.2.1
/-- The error of a queue. -/
def qfault (most : Int) (l : List Ak) : Int := if most < 1 ∨ 30 < most then 4 else if most < (l.length : Int) then 7 else asksFault l
theorem asksFault_ok (l : List Ak) : asksFault l = 0 ↔ ∀ x ∈ l, askFault x.1 x.2.1 = 0 := by
  induction l with
  | nil => simp [asksFault]
  | cons x l ih =>
    rw [asksFault]
    by_cases h : askFault x.1 x.2.1 = 0
    · rw [if_pos h, ih]
      simp [h]
    · rw [if_neg h]
      exact ⟨fun e => absurd e h, fun e => e x (by simp)⟩
/-- A queue. -/
structure QGood (most : Int) (l : List Ak) : Prop where
  m1 : 1 ≤ most
  m30 : most ≤ 30
  len : (l.length : Int) ≤ most
  each : ∀ x ∈ l, askFault x.1 x.2.1 = 0
theorem qfault_ok (most : Int) (l : List Ak) : qfault most l = 0 ↔ QGood most l := by
  unfold qfault
  constructor
  · intro h
    split at h
    · cases h
    · split at h
      · cases h
      · exact ⟨by omega, by omega, by omega, (asksFault_ok l).1 h⟩
  · rintro ⟨h1, h2, h3, h4⟩
    rw [if_neg (by omega), if_neg (by omega)]
    exact (asksFault_ok l).2 h4
/-- A request's strings fit. -/
def AkFits (x : Ak) : Prop := x.1.length ≤ maxLen ∧ x.2.1.length ≤ maxLen

set_option maxHeartbeats 2000000 in
theorem refQueueFault (most : Int) (A : Option Addr) (c : Nat) (l : List Ak) (w : World) (hm : l.length ≤ maxLen) (hl : ∀ x ∈ l, AkFits x) (hA : Row w A (qcells l)) (r : Int) (hr : qfault most l = r) :
    Calls Tryz.prog 27 #[.agg #[.int .i64 most, .slice A l.length c]] w fun e w' => e = .returned (.int .i64 r) ∧ Below w.heap.size w w' := by
  unfold maxLen at hm
  unfold qfault at hr
  have hb0 := (Below.refl w.heap.size w).alloc (Nat.le_refl _) (.cells #[.int .i64 most, .slice A l.length c] 24)
  obtain ⟨f0, -⟩ := (Bx.new w _ rfl _ [.int .i64 most, .slice A l.length c] 24 rfl)
  have x0 := f0 0 (by simp)
  have x1 := f0 1 (by simp)
  simp only [List.getElem_cons_zero, List.getElem_cons_succ] at x0 x1
  by_cases h1 : most < 1
  · rw [if_pos (.inl h1)] at hr
    subst hr
    clear hl hA f0
    go_enter Tryz.func27, Tryz.ntmps27
    go_wp2
    go_ret
    exact ⟨rfl, hb0⟩
  have c1 : decide (most < 1) = false := decide_eq_false h1
  by_cases h2 : 30 < most
  · rw [if_pos (.inr h2)] at hr
    subst hr
    clear hl hA f0 h1
    go_enter Tryz.func27, Tryz.ntmps27
    go_wp2
    go_ret
    exact ⟨rfl, hb0⟩
  have c2 : decide (30 < most) = false := decide_eq_false h2
  rw [if_neg (by omega)] at hr
  by_cases h3 : most < (l.length : Int)
  · rw [if_pos h3] at hr
    subst hr
    clear hl hA f0 h1 h2
    go_enter Tryz.func27, Tryz.ntmps27
    go_wp2
    go_ret
    exact ⟨rfl, hb0⟩
  have c3 : decide (most < (l.length : Int)) = false := decide_eq_false h3
  rw [if_neg h3] at hr
  have HR : Hid (r = asksFault (l.drop 0)) := hr.symm
  have HL := Lib.hid hl
  have hl30 : l.length ≤ 30 := by omega
  have hA0 := hA.alloc (.cells #[.int .i64 most, .slice A l.length c] 24)
  clear hr hl f0 h1 h2 h3 hA
  go_enter Tryz.func27, Tryz.ntmps27
  go_wp2
  generalize w.alloc (.cells #[.int .i64 most, .slice A l.length c] 24) = w0 at *
  go_loopw [23] (fun i wr => ∃ k : Nat, k ≤ l.length ∧ i = .int .i64 k ∧ Hid (r = asksFault (l.drop k)) ∧ Below w0.heap.size w0 wr) (fun i _ => l.length - (intOf i).toNat)
  case atStart => exact ⟨0, Nat.zero_le _, rfl, HR, Below.refl _ _⟩
  case round =>
    obtain ⟨k, hk, rfl, HS, hbl⟩ := hrel
    have hsz := hbl.size
    clear c1 c2 c3 x0 x1
    by_cases hlt : k < l.length
    · obtain ⟨g, off, rfl, j0, j1, j2, j3⟩ := (hA0.below hbl).ask k hlt
      have hx := HL.out _ (List.getElem_mem hlt)
      have hF := fun w => Lib.hid (refAskFault l[k].1 l[k].2.1 w hx.1 hx.2 _ rfl)
      have HS' : Hid (r = if askFault l[k].1 l[k].2.1 = 0 then asksFault (l.drop (k + 1)) else askFault l[k].1 l[k].2.1) := by
        show r = _
        rw [HS.out, List.drop_eq_getElem_cons hlt]
        rfl
      generalize askFault l[k].1 l[k].2.1 = q at *
      generalize l[k].1 = a1 at *
      generalize l[k].2.1 = a2 at *
      generalize l[k].2.2.1 = a3 at *
      generalize l[k].2.2.2 = a4 at *
      have i0 : (0 : Int) ≤ (k : Int) := by omega
      have i1 : (k : Int) < (l.length : Int) := by omega
      have hbl2 := hbl.alloc hsz (.cells #[.string (S a1), .string (S a2), .int .u64 (a3 : Int), .int .u64 (a4 : Int)] 31)
      clear HS hx
      by_cases hq : q = 0
      · have HS2 : Hid (r = asksFault (l.drop (k + 1))) := by show r = _; rw [HS'.out, if_pos hq]
        subst hq
        clear HS'
        go_wp2_with fail
        refine (hF _).out.mono ?_
        rintro e w1 ⟨rfl, hw⟩
        subst hw
        clear hF
        go_wp2
        go_roundw
        case rel => exact ⟨k + 1, by omega, by go_num, HS2, hbl2⟩
        case measure => simp [intOf]; omega
      · have HS2 : Hid (r = q) := by show r = _; rw [HS'.out, if_neg hq]
        have c4 : (q != 0) = true := bne_iff_ne.2 hq
        clear HS' hq
        go_wp2_with fail
        refine (hF _).out.mono ?_
        rintro e w1 ⟨rfl, hw⟩
        subst hw
        clear hF
        go_wp2
        go_ret
        exact ⟨by rw [HS2.out]; rfl, below_chain hb0 hbl2⟩
    · have HS2 : Hid (r = 0) := by show r = 0; rw [HS.out, List.drop_eq_nil_of_le (by omega)]; rfl
      clear hA0
      go_wp2
      go_ret
      exact ⟨by rw [HS2.out]; rfl, below_chain hb0 hbl⟩

set_option maxHeartbeats 2000000 in
theorem refSameQueue (m n : Int) (A B : Option Addr) (c d : Nat) (l k : List Ak) (w : World) (hl : l.length ≤ maxLen) (hA : Row w A (qcells l)) (hB : Row w B (qcells k)) (r : Bool) (hr : (m == n && decide (l = k)) = r) :
    Calls Tryz.prog 23 #[.agg #[.int .i64 m, .slice A l.length c], .agg #[.int .i64 n, .slice B k.length d]] w fun e w' => e = .returned (.bool r) ∧ Below w.heap.size w w' := by
  have hS := fun (w : World) hA hB => Lib.hid (refSameAsks A B c d l k w hl _ rfl hA hB)
  have hb1 := (Below.refl w.heap.size w).alloc (Nat.le_refl _) (.cells #[.int .i64 m, .slice A l.length c] 24)
  have hb2 := hb1.alloc hb1.size (.cells #[.int .i64 n, .slice B k.length d] 24)
  have y := Bx.new w _ rfl _ [.int .i64 m, .slice A l.length c] 24 rfl
  have y2 := y.alloc (.cells #[.int .i64 n, .slice B k.length d] 24)
  have z := Bx.new (w.alloc (.cells #[.int .i64 m, .slice A l.length c] 24)) _ rfl _ [.int .i64 n, .slice B k.length d] 24 rfl
  have y0 := y2.c 0 (by simp)
  have y1 := y2.c 1 (by simp)
  have z0 := z.c 0 (by simp)
  have z1 := z.c 1 (by simp)
  have hA2 := (hA.alloc (.cells #[.int .i64 m, .slice A l.length c] 24)).alloc (.cells #[.int .i64 n, .slice B k.length d] 24)
  have hB2 := (hB.alloc (.cells #[.int .i64 m, .slice A l.length c] 24)).alloc (.cells #[.int .i64 n, .slice B k.length d] 24)
  simp only [List.getElem_cons_zero, List.getElem_cons_succ] at y0 y1 z0 z1
  have HR := Lib.hid hr
  generalize decide (l = k) = q at *
  clear hr y y2 z hA hB
  cases c1 : m == n with
  | false =>
    have HF : Hid (r = false) := by show r = false; rw [← HR.out, c1]; rfl
    clear HR hS hA2 hB2
    go_enter Tryz.func23, Tryz.ntmps23
    go_wp2
    go_ret
    exact ⟨by rw [HF.out]; rfl, hb2⟩
  | true =>
    have HF : Hid (r = q) := by show r = q; rw [← HR.out, c1]; rfl
    clear HR
    go_enter Tryz.func23, Tryz.ntmps23
    go_wp2_with fail
    refine (hS _ hA2 hB2).out.mono ?_
    rintro e w1 ⟨rfl, s, rfl⟩
    go_wp2
    go_ret
    exact ⟨by rw [HF.out]; rfl, below_drewN hb2 s⟩
end Go.Proofs.YtjcockcilkiggaaGreat
/- Heads: a number, a root, the hash of the one before, a time. The reference's HeadFault, HeadSaid, HeadMark and Links. They write nothing that was there. -/
namespace Go.Proofs.YtjcockcilkiggaaGreat
set_option maxRecDepth 100000
open Go.RowKit

/-- A head: its epoch, root, previous hash and time. -/
abbrev Hd := Int × Nat × Nat × Int
def hval (h : Hd) : Value := .agg #[.int .i64 h.1, .int .u64 (h.2.1 : Int), .int .u64 (h.2.2.1 : Int), .int .i64 h.2.2.2]
def hfault (h : Hd) : Int :=
  if h.1 < 0 then 4 else if 1000000 < h.1 then 4 else if 2305843009213693951 ≤ h.2.1 then 4 else if 2305843009213693951 ≤ h.2.2.1 then 4 else if h.2.2.2 < 0 then 4 else if 1000000000 < h.2.2.2 then 4 else
    if h.1 = 0 then (if h.2.2.1 = 0 then 0 else 3) else 0
structure HGood (h : Hd) : Prop where
  e0 : 0 ≤ h.1
  e1 : h.1 ≤ 1000000
  r : h.2.1 < 2305843009213693951
  p : h.2.2.1 < 2305843009213693951
  t0 : 0 ≤ h.2.2.2
  t1 : h.2.2.2 ≤ 1000000000
  z : h.1 = 0 → h.2.2.1 = 0
theorem hfault_ok (h : Hd) : hfault h = 0 ↔ HGood h := by
  unfold hfault
  constructor
  · intro e
    by_cases h1 : h.1 < 0
    · rw [if_pos h1] at e; exact absurd e (by decide)
    rw [if_neg h1] at e
    by_cases h2 : 1000000 < h.1
    · rw [if_pos h2] at e; exact absurd e (by decide)
    rw [if_neg h2] at e
    by_cases h3 : 2305843009213693951 ≤ h.2.1
    · rw [if_pos h3] at e; exact absurd e (by decide)
    rw [if_neg h3] at e
    by_cases h4 : 2305843009213693951 ≤ h.2.2.1
    · rw [if_pos h4] at e; exact absurd e (by decide)
    rw [if_neg h4] at e
    by_cases h5 : h.2.2.2 < 0
    · rw [if_pos h5] at e; exact absurd e (by decide)
    rw [if_neg h5] at e
    by_cases h6 : 1000000000 < h.2.2.2
    · rw [if_pos h6] at e; exact absurd e (by decide)
    rw [if_neg h6] at e
    refine ⟨by omega, by omega, by omega, by omega, by omega, by omega, fun hz => ?_⟩
    rw [if_pos hz] at e
    by_cases h7 : h.2.2.1 = 0
    · exact h7
    · rw [if_neg h7] at e; exact absurd e (by decide)
  · rintro ⟨e0, e1, r, p, t0, t1, z⟩
    rw [if_neg (by omega), if_neg (by omega), if_neg (by omega), if_neg (by omega), if_neg (by omega), if_neg (by omega)]
    by_cases hz : h.1 = 0
    · rw [if_pos hz, if_pos (z hz)]
    · rw [if_neg hz]
def hsaid (h : Hd) : Bytes := 3 :: (be8 h.1.toNat ++ be8 h.2.1 ++ be8 h.2.2.1 ++ be8 h.2.2.2.toNat)
def hmark (h : Hd) : Nat := Hash.of (hsaid h)
theorem hsaid_length (h : Hd) : (hsaid h).length = 33 := by
  unfold hsaid
  rw [List.length_cons, List.length_append, List.length_append, List.length_append, be8_length, be8_length, be8_length, be8_length]
theorem hsaid_le (h : Hd) : (hsaid h).length ≤ maxLen := by rw [hsaid_length]; unfold maxLen; omega
def links (h g : Hd) : Bool := decide (hfault h = 0) && decide (hfault g = 0) && decide (g.1 = h.1 + 1) && decide (g.2.2.1 = hmark h) && decide (h.2.2.2 ≤ g.2.2.2)

set_option maxHeartbeats 2000000 in
theorem refHFault (ep : Int) (rt pv : Nat) (tm : Int) (w : World) (r : Int) (hr : hfault (ep, rt, pv, tm) = r) :
    Calls Tryz.prog 55 #[.agg #[.int .i64 ep, .int .u64 (rt : Int), .int .u64 (pv : Int), .int .i64 tm]] w fun e w' => e = .returned (.int .i64 r) ∧ Below w.heap.size w w' := by
  unfold hfault at hr
  by_cases h0 : ep < 0
  · rw [if_pos h0] at hr
    have c0 : decide (ep < (0 : Int)) = true := decide_eq_true (by omega)
    clear h0
    subst hr
    go_enter Tryz.func55, Tryz.ntmps55
    go_wp2
    go_ret
    exact ⟨rfl, (Below.refl _ _).alloc (Nat.le_refl _) _⟩
  rw [if_neg h0] at hr
  have c0 : decide (ep < (0 : Int)) = false := decide_eq_false (by omega)
  clear h0
  by_cases h1 : 1000000 < ep
  · rw [if_pos h1] at hr
    have c1 : decide ((1000000 : Int) < ep) = true := decide_eq_true (by omega)
    clear h1
    subst hr
    go_enter Tryz.func55, Tryz.ntmps55
    go_wp2
    go_ret
    exact ⟨rfl, (Below.refl _ _).alloc (Nat.le_refl _) _⟩
  rw [if_neg h1] at hr
  have c1 : decide ((1000000 : Int) < ep) = false := decide_eq_false (by omega)
  clear h1
  by_cases h2 : 2305843009213693951 ≤ rt
  · rw [if_pos h2] at hr
    have c2 : decide ((2305843009213693951 : Int) ≤ (rt : Int)) = true := decide_eq_true (by omega)
    clear h2
    subst hr
    go_enter Tryz.func55, Tryz.ntmps55
    go_wp2
    go_ret
    exact ⟨rfl, (Below.refl _ _).alloc (Nat.le_refl _) _⟩
  rw [if_neg h2] at hr
  have c2 : decide ((2305843009213693951 : Int) ≤ (rt : Int)) = false := decide_eq_false (by omega)
  clear h2
  by_cases h3 : 2305843009213693951 ≤ pv
  · rw [if_pos h3] at hr
    have c3 : decide ((2305843009213693951 : Int) ≤ (pv : Int)) = true := decide_eq_true (by omega)
    clear h3
    subst hr
    go_enter Tryz.func55, Tryz.ntmps55
    go_wp2
    go_ret
    exact ⟨rfl, (Below.refl _ _).alloc (Nat.le_refl _) _⟩
  rw [if_neg h3] at hr
  have c3 : decide ((2305843009213693951 : Int) ≤ (pv : Int)) = false := decide_eq_false (by omega)
  clear h3
  by_cases h4 : tm < 0
  · rw [if_pos h4] at hr
    have c4 : decide (tm < (0 : Int)) = true := decide_eq_true (by omega)
    clear h4
    subst hr
    go_enter Tryz.func55, Tryz.ntmps55
    go_wp2
    go_ret
    exact ⟨rfl, (Below.refl _ _).alloc (Nat.le_refl _) _⟩
  rw [if_neg h4] at hr
  have c4 : decide (tm < (0 : Int)) = false := decide_eq_false (by omega)
  clear h4
  by_cases h5 : 1000000000 < tm
  · rw [if_pos h5] at hr
    have c5 : decide ((1000000000 : Int) < tm) = true := decide_eq_true (by omega)
    clear h5
    subst hr
    go_enter Tryz.func55, Tryz.ntmps55
    go_wp2
    go_ret
    exact ⟨rfl, (Below.refl _ _).alloc (Nat.le_refl _) _⟩
  rw [if_neg h5] at hr
  have c5 : decide ((1000000000 : Int) < tm) = false := decide_eq_false (by omega)
  clear h5
  by_cases h6 : ep = 0
  · rw [if_pos h6] at hr
    have c6 : (ep == (0 : Int)) = true := beq_iff_eq.2 h6
    by_cases h7 : pv = 0
    · rw [if_pos h7] at hr
      have c7 : ((pv : Int) == (0 : Int)) = true := beq_iff_eq.2 (by omega)
      clear h6 h7
      subst hr
      go_enter Tryz.func55, Tryz.ntmps55
      go_wp2
      go_ret
      exact ⟨rfl, (Below.refl _ _).alloc (Nat.le_refl _) _⟩
    · rw [if_neg h7] at hr
      have c7 : ((pv : Int) == (0 : Int)) = false := beq_eq_false_iff_ne.2 (by omega)
      clear h6 h7
      subst hr
      go_enter Tryz.func55, Tryz.ntmps55
      go_wp2
      go_ret
      exact ⟨rfl, (Below.refl _ _).alloc (Nat.le_refl _) _⟩
  · rw [if_neg h6] at hr
    have c6 : (ep == (0 : Int)) = false := beq_eq_false_iff_ne.2 h6
    clear h6
    subst hr
    go_enter Tryz.func55, Tryz.ntmps55
    go_wp2
    go_ret
    exact ⟨rfl, (Below.refl _ _).alloc (Nat.le_refl _) _⟩

/-- A head in its box. -/
structure HBox (w : World) (g : Nat) (ep : Int) (rt pv : Nat) (tm : Int) : Prop where
  h0 : w.cell? ⟨g, 0, none⟩ = some (.int .i64 ep)
  h1 : w.cell? ⟨g, 1, none⟩ = some (.int .u64 (rt : Int))
  h2 : w.cell? ⟨g, 2, none⟩ = some (.int .u64 (pv : Int))
  h3 : w.cell? ⟨g, 3, none⟩ = some (.int .i64 tm)
theorem HBox.below {w w' : World} {g : Nat} {ep : Int} {rt pv : Nat} {tm : Int} (h : HBox w g ep rt pv tm) (hb : Below w.heap.size w w') : HBox w' g ep rt pv tm := ⟨kept h.h0 hb, kept h.h1 hb, kept h.h2 hb, kept h.h3 hb⟩
theorem HBox.alloc {w : World} {g : Nat} {ep : Int} {rt pv : Nat} {tm : Int} (h : HBox w g ep rt pv tm) (o : Obj) : HBox (w.alloc o) g ep rt pv tm := h.below ((Below.refl _ _).alloc (Nat.le_refl _) o)
theorem HBox.new (w : World) (ep : Int) (rt pv : Nat) (tm : Int) (t : TypeId) : HBox (w.alloc (.cells #[.int .i64 ep, .int .u64 (rt : Int), .int .u64 (pv : Int), .int .i64 tm] t)) w.heap.size ep rt pv tm :=
  ⟨by rw [World.cell?_alloc_new]; rfl, by rw [World.cell?_alloc_new]; rfl, by rw [World.cell?_alloc_new]; rfl, by rw [World.cell?_alloc_new]; rfl⟩

set_option maxHeartbeats 4000000 in
theorem refHSaid (ep rt pv tm : Nat) (w : World) (he : ep < 9223372036854775808) (hrt : rt < 18446744073709551616) (hpv : pv < 18446744073709551616) (htm : tm < 9223372036854775808) (s : Bytes) (hs : hsaid ((ep : Int), rt, pv, (tm : Int)) = s) :
    Calls Tryz.prog 64 #[.agg #[.int .i64 (ep : Int), .int .u64 (rt : Int), .int .u64 (pv : Int), .int .i64 (tm : Int)]] w fun e w' => e = .returned (.string (S s)) ∧ Below w.heap.size w w' := by
  have hN : ∀ x : Nat, x < 18446744073709551616 → ∀ W : World, (W.cell? ⟨w.heap.size, 0, none⟩ = some (.int .i64 (ep : Int)) ∧ W.cell? ⟨w.heap.size, 1, none⟩ = some (.int .u64 (rt : Int)) ∧ W.cell? ⟨w.heap.size, 2, none⟩ = some (.int .u64 (pv : Int)) ∧ W.cell? ⟨w.heap.size, 3, none⟩ = some (.int .i64 (tm : Int)) ∧ Below w.heap.size w W) → Hid (Calls Tryz.prog 78 #[.int .u64 (x : Int)] W fun e w' => e = .returned (.string (S (be8 x))) ∧ w'.cell? ⟨w.heap.size, 0, none⟩ = some (.int .i64 (ep : Int)) ∧ w'.cell? ⟨w.heap.size, 1, none⟩ = some (.int .u64 (rt : Int)) ∧ w'.cell? ⟨w.heap.size, 2, none⟩ = some (.int .u64 (pv : Int)) ∧ w'.cell? ⟨w.heap.size, 3, none⟩ = some (.int .i64 (tm : Int)) ∧ Below w.heap.size w w') := fun x hx W h => by
    show Calls _ _ _ _ _
    refine (refNum_any x W hx).mono ?_
    rintro e w' ⟨rfl, hb⟩
    exact ⟨rfl, kept h.1 hb, kept h.2.1 hb, kept h.2.2.1 hb, kept h.2.2.2.1 hb, below_chain h.2.2.2.2 hb⟩
  have hN1 := hN ep (by omega)
  have hN2 := hN rt hrt
  have hN3 := hN pv hpv
  have hN4 := hN tm (by omega)
  have u1 : IntKind.u64.wrap (ep : Int) = (ep : Int) := by rw [IntKind.wrap_u64]; omega
  have u4 : IntKind.u64.wrap (tm : Int) = (tm : Int) := by rw [IntKind.wrap_u64]; omega
  have l1 := be8_length ep
  have l2 := be8_length rt
  have l3 := be8_length pv
  have l4 := be8_length tm
  have HS : Hid (s = 3 :: (be8 ep ++ be8 rt ++ be8 pv ++ be8 tm)) := hs.symm
  generalize be8 ep = b1 at *
  generalize be8 rt = b2 at *
  generalize be8 pv = b3 at *
  generalize be8 tm = b4 at *
  have hx := HBox.new w (ep : Int) rt pv (tm : Int) 45
  obtain ⟨q0, q1, q2, q3⟩ := hx.below (bdrew (Below.refl _ _))
  have q4 : Below w.heap.size w (w.alloc (.cells #[.int .i64 (ep : Int), .int .u64 (rt : Int), .int .u64 (pv : Int), .int .i64 (tm : Int)] 45)).drew := bdrew ((Below.refl _ _).alloc (Nat.le_refl _) _)
  clear he hrt hpv htm hs hN hx
  go_enter Tryz.func64, Tryz.ntmps64
  go_wp2
  generalize w.alloc (.cells #[.int .i64 (ep : Int), .int .u64 (rt : Int), .int .u64 (pv : Int), .int .i64 (tm : Int)] 45) = w0 at *
  go_region_held3 (fun w' => w'.cell? ⟨w.heap.size, 0, none⟩ = some (.int .i64 (ep : Int)) ∧ w'.cell? ⟨w.heap.size, 1, none⟩ = some (.int .u64 (rt : Int)) ∧ w'.cell? ⟨w.heap.size, 2, none⟩ = some (.int .u64 (pv : Int)) ∧ w'.cell? ⟨w.heap.size, 3, none⟩ = some (.int .i64 (tm : Int)) ∧ Below w.heap.size w w') (first | exact ⟨q0, q1, q2, q3, q4⟩ | exact ⟨by assumption, by assumption, by assumption, by assumption, by assumption⟩ | go_keep)
    (first
      | (go_at_call_of 78 ep; refine (hN1 _ ?_).out.mono ?_; (first | exact ⟨by assumption, by assumption, by assumption, by assumption, by assumption⟩); rintro e w' ⟨rfl, k0, k1, k2, k3, k4⟩)
      | (go_at_call_of 78 rt; refine (hN2 _ ?_).out.mono ?_; (first | exact ⟨by assumption, by assumption, by assumption, by assumption, by assumption⟩); rintro e w' ⟨rfl, k0, k1, k2, k3, k4⟩)
      | (go_at_call_of 78 pv; refine (hN3 _ ?_).out.mono ?_; (first | exact ⟨by assumption, by assumption, by assumption, by assumption, by assumption⟩); rintro e w' ⟨rfl, k0, k1, k2, k3, k4⟩)
      | (go_at_call_of 78 tm; refine (hN4 _ ?_).out.mono ?_; (first | exact ⟨by assumption, by assumption, by assumption, by assumption, by assumption⟩); rintro e w' ⟨rfl, k0, k1, k2, k3, k4⟩))
  all_goals
    go_wp2
    go_ret
    exact ⟨by rw [HS.out]; rfl, k4⟩
end Go.Proofs.YtjcockcilkiggaaGreat
