/- package tree: Leaf returns the preimage of a book of one path. It writes nothing that was there. -/
import Derived.Test.YtmmmolbejfdamaaTreeLeaf
import Derived.Deep.RegionHeld3
namespace Go.Proofs.Ytmmmolbejfdamaa
open Go.RowKit

/-- The first error of Leaf. -/
def leafErr (es : List Ent) : Int := if fault es = 0 then (if onePath es = true then 0 else 3) else fault es

set_option maxHeartbeats 400000 in
theorem treeLeaf_fault (A : Option Addr) (c : Nat) (es : List Ent) (w : World) (hm : es.length ≤ maxLen) (hes : ∀ x ∈ es, x.1.length ≤ maxLen ∧ x.2.length ≤ maxLen) (hA : Row w A (encells es)) (r : Int) (hr : fault es = r) (h0 : r ≠ 0) :
    Calls Try.prog 72 #[.slice A es.length c] w fun e w' => e = .returned (.tuple #[.string (S []), .int .i64 r]) ∧ Below w.heap.size w w' := by
  have hC := fun (w : World) hA => Lib.hid (treeCheck A c es w hm hes hA _ hr)
  have c1 : (r == 0) = false := beq_eq_false_iff_ne.2 h0
  clear h0 hm hes hr
  go_enter Try.func72, Try.ntmps72
  go_wp2_with fail
  refine (hC _ hA).out.mono ?_
  rintro e w1 ⟨rfl, hb1⟩
  go_wp2
  go_ret2
  exact ⟨rfl, hb1⟩

theorem good_596 {es : List Ent} (hg : Good es) : ∀ x ∈ es, x.1.length + x.2.length ≤ 596 := fun x hx => by
  have h1 := (Bin.name_len (hg.name x hx)).2
  have h2 := hg.value x hx
  omega

theorem treeLeaf_nil (A : Option Addr) (c : Nat) (w : World) :
    Calls Try.prog 72 #[.slice A 0 c] w fun e w' => e = .returned (.tuple #[.string (S [0]), .int .i64 0]) ∧ Below w.heap.size w w' := by
  have hC := fun (w : World) => Lib.hid (treeCheck A c [] w (by simp) (fun x hx => by simp at hx) (Row.nil_ _ _) 0 rfl)
  have hS := fun (w : World) => Lib.hid (treeSaid A c [] w (by simp) (fun x hx => by simp at hx) (Row.nil_ _ _))
  rw [List.length_nil] at hC hS
  go_enter Try.func72, Try.ntmps72
  go_wp2_with fail
  refine (hC _).out.mono ?_
  rintro e w1 ⟨rfl, hb1⟩
  go_wp2
  go_quiet (fail)
  go_wp2_with fail
  refine (hS _).out.mono ?_
  rintro e w2 ⟨rfl, hb2⟩
  go_wp2
  go_ret2
  exact ⟨rfl, below_chain (below_drewN hb1 _) hb2⟩

theorem onePath_at (es : List Ent) (n : Nat) (hn : es.length = n + 1) (ho : (es.map (·.1)).Pairwise Bin.R) : onePath es = (Bin.of (es[0]'(by omega)).1 == Bin.of (es[n]'(by omega)).1) := by
  cases es with
  | nil => simp at hn
  | cons x es => exact onePath_last x es n hn ho

set_option maxRecDepth 100000 in
set_option maxHeartbeats 2000000 in
theorem treeLeaf_good (A : Option Addr) (c : Nat) (es : List Ent) (w : World) (hg : Good es) (hA : Row w A (encells es)) (b : Bool) (hb : onePath es = b) (s : Bytes) (r : Int) (hs : s = if b = true then leafOf es else []) (hr : r = if b = true then 0 else 3) :
    Calls Try.prog 72 #[.slice A es.length c] w fun e w' => e = .returned (.tuple #[.string (S s), .int .i64 r]) ∧ Below w.heap.size w w' := by
  obtain ⟨hm, hes⟩ := small_of_good hg
  rcases Nat.eq_zero_or_pos es.length with h0 | h0
  · obtain rfl : es = [] := List.eq_nil_of_length_eq_zero h0
    obtain rfl : b = true := hb.symm
    rw [if_pos rfl] at hs hr
    subst hs; subst hr
    exact treeLeaf_nil A c w
  · obtain ⟨n, hn⟩ : ∃ n, es.length = n + 1 := ⟨es.length - 1, by omega⟩
    have hO' := onePath_at es n hn hg.order
    rw [hb] at hO'
    have hC := fun (w : World) hA => Lib.hid (treeCheck A c es w hm hes hA _ ((fault_ok es).2 hg))
    have hS := fun (w : World) hA => Lib.hid (treeSaid A c es w (by have := hg.len; omega) (good_596 hg) hA)
    have hp0 := fun w => Lib.hid (treePath es[0].1 w (hg.name _ (List.getElem_mem _)))
    have hpn := fun w => Lib.hid (treePath es[n].1 w (hg.name _ (List.getElem_mem _)))
    have hRow := fun w (h : Row w A (encells es)) => Lib.hid (And.intro (h.ent 0 (by omega)) (h.ent n (by omega)))
    have hl := hg.len
    rw [hn] at hC hS hl ⊢
    generalize es[0].1 = a at *
    generalize es[n].1 = z at *
    generalize Bin.of a = pa at *
    generalize Bin.of z = pz at *
    have HS := Lib.hid hs
    have HR := Lib.hid hr
    have hi0 : (0 : Int) < (n : Int) + 1 := by omega
    have hi1 : decide ((0 : Int) < (n : Int) + 1) = true := decide_eq_true hi0
    have hi2 : (0 : Int) ≤ (n : Int) := by omega
    have hi3 : (n : Int) < (n : Int) + 1 := by omega
    have hwr : IntKind.i64.wrap ((n : Int) + 1 - 1) = (n : Int) := by rw [IntKind.wrap_i64]; omega
    have hwr2 : IntKind.i64.wrap (n : Int) = (n : Int) := by rw [IntKind.wrap_i64]; omega
    clear hg hm hes hs hr hb
    go_enter Try.func72, Try.ntmps72
    go_wp2_with fail
    refine (hC _ hA).out.mono ?_
    rintro e w1 ⟨rfl, hb1⟩
    have hA1 := hA.below hb1
    obtain ⟨⟨g, off, hAe, h1, -⟩, ⟨g', off', hAe', h2, -⟩⟩ := (hRow _ hA1).out
    rw [hAe] at hAe'
    injection hAe' with e1
    injection e1 with e1 e2
    subst e1; subst e2
    rw [Nat.zero_mul, Nat.add_zero] at h1
    clear hC hRow
    subst hAe
    have hp0' : ∀ W : World, (W.cell? ⟨g, off, none⟩ = some (.string (S a)) ∧ W.cell? ⟨g, off + n * 2, none⟩ = some (.string (S z)) ∧ Below w1.heap.size w1 W) → Hid (Calls Try.prog 76 #[.string (S a)] W fun e w' => e = .returned (.string (S pa)) ∧ w'.cell? ⟨g, off, none⟩ = some (.string (S a)) ∧ w'.cell? ⟨g, off + n * 2, none⟩ = some (.string (S z)) ∧ Below w1.heap.size w1 w') := fun W h => by
      show Calls _ _ _ _ _
      exact (hp0 W).out.mono fun e w' k => ⟨k.1, kept h.1 k.2, kept h.2.1 k.2, below_chain h.2.2 k.2⟩
    have hpn' : ∀ W : World, (W.cell? ⟨g, off, none⟩ = some (.string (S a)) ∧ W.cell? ⟨g, off + n * 2, none⟩ = some (.string (S z)) ∧ Below w1.heap.size w1 W) → Hid (Calls Try.prog 76 #[.string (S z)] W fun e w' => e = .returned (.string (S pz)) ∧ w'.cell? ⟨g, off, none⟩ = some (.string (S a)) ∧ w'.cell? ⟨g, off + n * 2, none⟩ = some (.string (S z)) ∧ Below w1.heap.size w1 w') := fun W h => by
      show Calls _ _ _ _ _
      exact (hpn W).out.mono fun e w' k => ⟨k.1, kept h.1 k.2, kept h.2.1 k.2, below_chain h.2.2 k.2⟩
    clear hp0 hpn
    have hboth : (pa == pz) = true ∨ (pa == pz) = false := by cases (pa == pz) <;> simp
    rcases hboth with hq | hq <;> rw [hq] at hO' <;> subst hO'
    · go_wp2
      go_region_held3 (fun w' => w'.cell? ⟨g, off, none⟩ = some (.string (S a)) ∧ w'.cell? ⟨g, off + n * 2, none⟩ = some (.string (S z)) ∧ Below w1.heap.size w1 w') (first | exact ⟨h1, h2, bdrew (Below.refl _ _)⟩ | exact ⟨k1, k2, k3⟩ | exact ⟨by assumption, by assumption, by assumption⟩ | go_keep)
        (first
          | (go_at_call_of 76 a; refine (hp0' _ ?_).out.mono ?_; (first | exact ⟨h1, h2, bdrew (Below.refl _ _)⟩ | exact ⟨by assumption, by assumption, by assumption⟩); rintro e w' ⟨rfl, k1, k2, k3⟩)
          | (go_at_call_of 76 z; refine (hpn' _ ?_).out.mono ?_; (first | exact ⟨h1, h2, bdrew (Below.refl _ _)⟩ | exact ⟨by assumption, by assumption, by assumption⟩); rintro e w' ⟨rfl, k1, k2, k3⟩))
      go_wp2_with fail
      refine (hS _ (hA1.below k3)).out.mono ?_
      rintro e w5 ⟨rfl, hb5⟩
      have hs : s = leafOf es := by simpa using HS.out
      have hr : r = 0 := by simpa using HR.out
      subst hr
      go_wp2
      go_ret2
      exact ⟨by rw [hs]; rfl, below_chain (below_chain hb1 k3) hb5⟩
    · go_wp2
      go_region_held3 (fun w' => w'.cell? ⟨g, off, none⟩ = some (.string (S a)) ∧ w'.cell? ⟨g, off + n * 2, none⟩ = some (.string (S z)) ∧ Below w1.heap.size w1 w') (first | exact ⟨h1, h2, bdrew (Below.refl _ _)⟩ | exact ⟨k1, k2, k3⟩ | exact ⟨by assumption, by assumption, by assumption⟩ | go_keep)
        (first
          | (go_at_call_of 76 a; refine (hp0' _ ?_).out.mono ?_; (first | exact ⟨h1, h2, bdrew (Below.refl _ _)⟩ | exact ⟨by assumption, by assumption, by assumption⟩); rintro e w' ⟨rfl, k1, k2, k3⟩)
          | (go_at_call_of 76 z; refine (hpn' _ ?_).out.mono ?_; (first | exact ⟨h1, h2, bdrew (Below.refl _ _)⟩ | exact ⟨by assumption, by assumption, by assumption⟩); rintro e w' ⟨rfl, k1, k2, k3⟩))
      have hs : s = [] := by simpa using HS.out
      have hr : r = 3 := by simpa using HR.out
      subst hr
      go_wp2
      go_ret2
      exact ⟨by rw [hs]; rfl, below_chain hb1 k3⟩
end Go.Proofs.Ytmmmolbejfdamaa
