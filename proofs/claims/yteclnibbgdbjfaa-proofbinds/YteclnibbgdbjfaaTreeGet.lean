/- package tree: Get returns the value of a name in a book, and whether it is there. It writes nothing that was there. -/
import Derived.Test.YteclnibbgdbjfaaTreeFind
namespace Go.Proofs.Yteclnibbgdbjfaa
open Go.RowKit

/-- The first error of a book and a name. -/
def askErr (es : List Ent) (n : Bytes) : Int := if fault es = 0 then (if Bin.name n = true then 0 else 3) else fault es
theorem askErr_ok (es : List Ent) (n : Bytes) : askErr es n = 0 ↔ Good es ∧ Bin.name n = true := by
  unfold askErr
  rw [← fault_ok]
  by_cases h : fault es = 0
  · rw [if_pos h]
    by_cases h2 : Bin.name n = true <;> simp [h, h2]
  · rw [if_neg h]
    simp [h]

set_option maxRecDepth 100000 in
set_option maxHeartbeats 800000 in
theorem treeGet_no (A : Option Addr) (c : Nat) (es : List Ent) (n : Bytes) (w : World) (hm : es.length ≤ maxLen) (hes : ∀ x ∈ es, x.1.length ≤ maxLen ∧ x.2.length ≤ maxLen) (hn : n.length ≤ maxLen) (hA : Row w A (encells es)) (r : Int) (hr : askErr es n = r) (h0 : r ≠ 0) :
    Calls Try.prog 33 #[.slice A es.length c, .string (S n)] w fun e w' => e = .returned (.tuple #[.string (S []), .bool false, .int .i64 r]) ∧ Below w.heap.size w w' := by
  have hC := fun (w : World) hA => Lib.hid (treeCheck A c es w hm hes hA _ rfl)
  have hN := fun w => Lib.hid (pathName n w hn _ rfl)
  by_cases hf : fault es = 0
  · rw [askErr, if_pos hf] at hr
    cases hnm : Bin.name n with
    | true => rw [hnm, if_pos rfl] at hr; exact absurd hr.symm h0
    | false =>
      rw [hnm, if_neg (by simp)] at hr
      rw [hf] at hC
      rw [hnm] at hN
      subst hr
      clear hf hnm h0 hm hes hn
      go_enter Try.func33, Try.ntmps33
      go_wp2_with fail
      refine (hC _ hA).out.mono ?_
      rintro e w1 ⟨rfl, hb1⟩
      go_wp2_with fail
      refine (hN _).out.mono ?_
      rintro e w2 ⟨rfl, rfl⟩
      go_wp2
      go_ret3
      exact ⟨rfl, hb1⟩
  · rw [askErr, if_neg hf] at hr
    rw [hr] at hC
    have c1 : (r == 0) = false := beq_eq_false_iff_ne.2 h0
    clear hf h0 hm hes hn hN hr
    go_enter Try.func33, Try.ntmps33
    go_wp2_with fail
    refine (hC _ hA).out.mono ?_
    rintro e w1 ⟨rfl, hb1⟩
    go_wp2
    go_ret3
    exact ⟨rfl, hb1⟩

theorem small_of_good {es : List Ent} (h : Good es) : es.length ≤ maxLen ∧ ∀ x ∈ es, x.1.length ≤ maxLen ∧ x.2.length ≤ maxLen := by
  refine ⟨?_, fun x hx => ⟨?_, ?_⟩⟩
  · have := h.len; unfold maxLen; omega
  · have := Bin.name_len (h.name x hx); unfold maxLen; omega
  · have := h.value x hx; unfold maxLen; omega
theorem small_of_name {n : Bytes} (h : Bin.name n = true) : n.length ≤ maxLen := by
  have := Bin.name_len h; unfold maxLen; omega

set_option maxRecDepth 100000 in
set_option maxHeartbeats 800000 in
theorem treeGet_yes (A : Option Addr) (c : Nat) (es : List Ent) (n : Bytes) (w : World) (hg : Good es) (hn : Bin.name n = true) (hA : Row w A (encells es)) (o : Option Bytes) (ho : stands es n = o) :
    Calls Try.prog 33 #[.slice A es.length c, .string (S n)] w fun e w' => e = .returned (.tuple #[.string (S (o.getD [])), .bool o.isSome, .int .i64 0]) ∧ Below w.heap.size w w' := by
  obtain ⟨hm, hes⟩ := small_of_good hg
  have hC := fun (w : World) hA => Lib.hid (treeCheck A c es w hm hes hA _ ((fault_ok es).2 hg))
  have hN := fun w => Lib.hid (pathName n w (small_of_name hn) _ hn)
  have hF := fun (w : World) hA => Lib.hid (treeFind A c es n w (by have := hg.len; omega) hg.name hn hA _ _ rfl rfl)
  have hts := there_stands n es hg.order
  cases hth : there n es with
  | true =>
    obtain ⟨hp, -, hst⟩ := there_get n es hg.order hth
    rw [hth] at hF
    rw [hst] at ho
    have HV : Hid (o.getD [] = es[place n es].2 ∧ o.isSome = true) := by rw [← ho]; exact ⟨rfl, rfl⟩
    have hRow := fun w (h : Row w A (encells es)) => h.ent _ hp
    generalize place n es = p at *
    have hi0 : (0 : Int) ≤ (p : Int) := by omega
    have hi1 : (p : Int) < (es.length : Int) := by omega
    have hl := hg.len
    clear hg hn hm hes hts hth hst ho
    go_enter Try.func33, Try.ntmps33
    go_wp2_with fail
    refine (hC _ hA).out.mono ?_
    rintro e w1 ⟨rfl, hb1⟩
    go_wp2_with fail
    refine (hN _).out.mono ?_
    rintro e w2 ⟨rfl, rfl⟩
    go_wp2_with fail
    refine (hF _ (hA.below hb1)).out.mono ?_
    rintro e w3 ⟨rfl, hb3⟩
    have hb := below_chain hb1 hb3
    obtain ⟨g, off, rfl, h1, h2⟩ := hRow _ (hA.below hb)
    clear hC hN hF hRow hA
    generalize es[p].1 = a at *
    generalize es[p].2 = b at *
    go_wp2
    go_ret3
    exact ⟨by rw [HV.out.1, HV.out.2]; rfl, hb⟩
  | false =>
    rw [hth] at hF
    rw [hth, ho] at hts
    have HV : Hid (o = none) := by
      show o = none
      cases o with
      | none => rfl
      | some v => cases hts
    generalize place n es = p at *
    clear hg hn hm hes hts hth ho
    go_enter Try.func33, Try.ntmps33
    go_wp2_with fail
    refine (hC _ hA).out.mono ?_
    rintro e w1 ⟨rfl, hb1⟩
    go_wp2_with fail
    refine (hN _).out.mono ?_
    rintro e w2 ⟨rfl, rfl⟩
    go_wp2_with fail
    refine (hF _ (hA.below hb1)).out.mono ?_
    rintro e w3 ⟨rfl, hb3⟩
    have hb := below_chain hb1 hb3
    clear hC hN hF hA
    go_wp2
    go_ret3
    exact ⟨by rw [HV.out]; rfl, hb⟩
end Go.Proofs.Yteclnibbgdbjfaa
