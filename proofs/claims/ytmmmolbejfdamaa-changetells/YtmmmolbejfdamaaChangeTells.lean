/- The law ChangeTells returns true: Diff, Look and Apply answer what the reference says, whatever they are given; nothing that was there is written. Condition: the form's reach. -/
import Derived.Test.YtmmmolbejfdamaaChangeLook
import Derived.Test.YtmmmolbejfdamaaChangeApply
import Derived.Test.YtmmmolbejfdamaaRefLook
import Derived.Test.YtmmmolbejfdamaaRefFault
import Derived.Test.YtmmmolbejfdamaaRefBook
import Derived.Test.YtmmmolbejfdamaaRefAsk
import Derived.Test.YtmmmolbejfdamaaEqs
import Derived.Test.YtmmmolbejfdamaaArgs
import Derived.Test.YtmmmolbejfdamaaLaw
namespace Go.Proofs.Ytmmmolbejfdamaa
set_option maxRecDepth 100000
open Go.ChangeShapes Go.WideShapes Go.ChangeAt Go.RowKit

/-- Where the law's own loop stands. -/
def ApSt (a c : List Ent) (k : Nat) (L : List Ent) (q : Int) : Prop :=
  (q = 0 ∧ Good L ∧ applyRes a c = applyTo L (c.drop k)) ∨ (q ≠ 0 ∧ (applyRes a c).2 = q)
theorem ApSt.start {a c : List Ent} (h : fault a = 0) : ApSt a c 0 a 0 := .inl ⟨rfl, (fault_ok a).1 h, by rw [applyRes, if_pos h, List.drop_zero]⟩
theorem ApSt.fails {a c : List Ent} {k : Nat} {L : List Ent} (h : ApSt a c k L 0) (hk : k < c.length) (e : Int) (he : setErr L c[k].1 c[k].2 = e) (h0 : e ≠ 0) : ApSt a c (k + 1) L e := by
  rcases h with ⟨_, hg, ha⟩ | ⟨h, _⟩
  · refine .inr ⟨h0, ?_⟩
    rw [ha, List.drop_eq_getElem_cons hk, applyTo, he, if_neg h0]
  · exact absurd rfl h
theorem ApSt.sets {a c : List Ent} {k : Nat} {L : List Ent} (h : ApSt a c k L 0) (hk : k < c.length) (he : setErr L c[k].1 c[k].2 = 0) : ApSt a c (k + 1) (setTo c[k].1 c[k].2 L) 0 := by
  rcases h with ⟨_, hg, ha⟩ | ⟨h, _⟩
  · refine .inl ⟨rfl, setT_good he, ?_⟩
    rw [ha, List.drop_eq_getElem_cons hk, applyTo, if_pos he]
  · exact absurd rfl h
theorem ApSt.good {a c : List Ent} {k : Nat} {L : List Ent} (h : ApSt a c k L 0) : Good L := by
  rcases h with ⟨_, hg, _⟩ | ⟨h, _⟩
  · exact hg
  · exact absurd rfl h
theorem ApSt.bad {a c : List Ent} {k : Nat} {L : List Ent} {q : Int} (h : ApSt a c k L q) (hq : q ≠ 0) : (applyRes a c).2 = q := by
  rcases h with ⟨h, _⟩ | ⟨_, h⟩
  · exact absurd h hq
  · exact h
theorem ApSt.ends {a c : List Ent} {L : List Ent} (h : ApSt a c c.length L 0) : applyRes a c = (L, 0) := by
  rcases h with ⟨_, _, h⟩ | ⟨h, _⟩
  · rw [h, List.drop_length, applyTo]
  · exact absurd rfl h
/-- What the reference's own steps say of setErr. -/
theorem setErr_ask {L : List Ent} (hg : Good L) (n v : Bytes) : setErr L n v = if askFault n v = 0 then (if (stands L n).isSome = false ∧ L.length = 24 then 7 else 0) else askFault n v := by
  have hf := (fault_ok L).2 hg
  rw [setErr, askErr, if_pos hf, there_stands n L hg.order]
  unfold askFault
  by_cases hn : Bin.name n = true
  · rw [if_pos hn, if_pos rfl, if_pos hn]
    by_cases hv : 20 < v.length
    · rw [if_pos hv, if_pos hv, if_neg (by decide)]
    · rw [if_neg hv, if_neg hv, if_pos rfl]
  · rw [if_neg hn, if_neg (by decide), if_neg hn, if_neg (by decide)]

set_option maxHeartbeats 4000000 in
theorem ct_a (A B C : Option Addr) (ca cb cc : Nat) (a b c : List Ent) (w : World) (hma : a.length ≤ maxLen) (hea : ∀ x ∈ a, x.1.length ≤ maxLen ∧ x.2.length ≤ maxLen) (hmb : b.length ≤ maxLen) (heb : ∀ x ∈ b, x.1.length ≤ maxLen ∧ x.2.length ≤ maxLen) (hmc : c.length ≤ maxLen) (hec : ∀ x ∈ c, x.1.length ≤ maxLen ∧ x.2.length ≤ maxLen)
    (hsz : a.length * 32 ≤ 140737488351232) (hA : Row w A (encells a)) (hB : Row w B (encells b)) (hC : Row w C (encells c)) (hf : fault a ≠ 0) :
    Calls Try.prog 3 #[.slice A a.length ca, .slice B b.length cb, .slice C c.length cc] w fun e w' => e = .returned (.bool true) ∧ Below w.heap.size w w' := by
  have hFa := fun (w : World) hA => Lib.hid (refFault A ca a w hma hea hA (fault a) rfl)
  have hFb := fun (w : World) hB => Lib.hid (refFault B cb b w hmb heb hB (fault b) rfl)
  have hCl := fun (w : World) hA => Lib.hid (cloneEnts A ca a w hsz hA)
  have hD := fun (w : World) hA hB => Lib.hid (changeDiff A B ca cb a b w hma hea hmb heb hA hB (diffRes a b) rfl (diffErr a b) rfl)
  have hK := fun (w : World) hA hB => Lib.hid (changeLook A B ca cb a b w hma hea hmb heb hA hB (lookRes a b) rfl (lookNum a b) rfl (diffErr a b) rfl)
  have hP := fun (w : World) hA hC => Lib.hid (changeApply A C ca cc a c w hma hea hmc hec hA hC (applyRes a c).1 (applyRes a c).2 rfl)
  have c1 : (fault a == 0) = false := beq_eq_false_iff_ne.2 hf
  have c1b : (fault a != 0) = true := by rw [bne, c1]; rfl
  have hde : diffErr a b = fault a := by rw [diffErr, if_neg hf]
  have hde0 : ¬ diffErr a b = 0 := by rw [hde]; exact hf
  have hap : applyRes a c = ([], fault a) := by rw [applyRes, if_neg hf]
  rw [diffRes, if_neg hde0, hde] at hD
  rw [lookRes, lookNum, if_neg hde0, if_neg hde0, hde] at hK
  rw [hap] at hP
  clear hde hde0 hap hf hma hea hmb heb hec hsz hFb
  generalize fault a = f at *
  unfold maxLen at hmc
  go_enter Try.func3, Try.ntmps3
  go_wp2_with fail
  refine (hD _ hA hB).out.mono ?_
  rintro e w1 ⟨D1, d1, rfl, hr1, hb1⟩
  go_wp2_with fail
  refine (hK _ (hA.below hb1) (hB.below hb1)).out.mono ?_
  rintro e w2 ⟨D2, d2, rfl, hr2, hb2⟩
  have hb02 := below_chain hb1 hb2
  have hr12 := hr1.below hb2
  clear hD hK hb1 hb2 hr1
  go_wp2_with fail
  refine (hP _ (hA.below hb02) (hC.below hb02)).out.mono ?_
  rintro e w3 ⟨D3, d3, rfl, hown3, hb3⟩
  have hb03 := below_chain hb02 hb3
  have hr13 := hr12.below hb3
  have hr23 := hr2.below hb3
  have hX3 := Row.ownE hown3.row
  clear hP hb02 hb3 hr12 hr2 hown3
  go_wp2_with fail
  refine (hFa _ (hA.below hb03)).out.mono ?_
  rintro e w4 ⟨rfl, hb4⟩
  have hb04 := below_chain hb03 hb4
  go_wp2_with fail
  refine (hCl _ (hA.below hb04)).out.mono ?_
  rintro e w5 ⟨D5, d5, rfl, hr5, hb5⟩
  have hb05 := below_chain hb04 hb5
  have hb35 := below_chain hb4 hb5
  have hr15 := hr13.below hb35
  have hr25 := hr23.below hb35
  have hX5 := hX3.below hb35
  clear hFa hCl hb03 hb04 hb4 hb5 hb35 hr13 hr23 hX3
  go_wp2_with fail
  go_loopw [15, 16, 49] (fun vn vq i wr => vn = .slice D5 a.length d5 ∧ vq = .int .i64 f ∧ i = .int .i64 0 ∧ Below w5.heap.size w5 wr) (fun _ _ _ _ => 0)
  case atStart => exact ⟨rfl, rfl, rfl, Below.refl _ _⟩
  case round =>
    obtain ⟨rfl, rfl, rfl, hbl⟩ := hrel
    have hb0r := below_chain hb05 hbl
    by_cases hlt : 0 < c.length
    · obtain ⟨g, off, rfl, h1, h2⟩ := (hC.below hb0r).ent 0 hlt
      have hi1 : (0 : Int) < (c.length : Int) := by omega
      simp only [Nat.zero_mul, Nat.add_zero] at h1 h2
      have hb0a := balloc hb0r (.cells #[.string (S c[0].1), .string (S c[0].2)] 34)
      clear hC hr5
      generalize c[0].1 = n at *
      generalize c[0].2 = v at *
      go_wp2
      all_goals
        go_ret
        exact ⟨rfl, hb0a⟩
    · have hc0 : c.length = 0 := by omega
      rw [hc0]
      go_wp2
      all_goals
        go_ret
        exact ⟨rfl, hb0r⟩

set_option maxHeartbeats 4000000 in
theorem ct_ab (A B C : Option Addr) (ca cb cc : Nat) (a b c : List Ent) (w : World) (hma : a.length ≤ maxLen) (hea : ∀ x ∈ a, x.1.length ≤ maxLen ∧ x.2.length ≤ maxLen) (hmb : b.length ≤ maxLen) (heb : ∀ x ∈ b, x.1.length ≤ maxLen ∧ x.2.length ≤ maxLen) (hmc : c.length ≤ maxLen) (hec : ∀ x ∈ c, x.1.length ≤ maxLen ∧ x.2.length ≤ maxLen)
    (hsz : a.length * 32 ≤ 140737488351232) (hA : Row w A (encells a)) (hB : Row w B (encells b)) (hC : Row w C (encells c)) (hf : fault a = 0) (hr : (applyRes a c).2 ≠ 0) (hfb : fault b ≠ 0) :
    Calls Try.prog 3 #[.slice A a.length ca, .slice B b.length cb, .slice C c.length cc] w fun e w' => e = .returned (.bool true) ∧ Below w.heap.size w w' := by
  have hFa := fun (w : World) hA => Lib.hid (refFault A ca a w hma hea hA (fault a) rfl)
  have hFb := fun (w : World) hB => Lib.hid (refFault B cb b w hmb heb hB (fault b) rfl)
  have hCl := fun (w : World) hA => Lib.hid (cloneEnts A ca a w hsz hA)
  have hD := fun (w : World) hA hB => Lib.hid (changeDiff A B ca cb a b w hma hea hmb heb hA hB (diffRes a b) rfl (diffErr a b) rfl)
  have hK := fun (w : World) hA hB => Lib.hid (changeLook A B ca cb a b w hma hea hmb heb hA hB (lookRes a b) rfl (lookNum a b) rfl (diffErr a b) rfl)
  have hP := fun (w : World) hA hC => Lib.hid (changeApply A C ca cc a c w hma hea hmc hec hA hC (applyRes a c).1 (applyRes a c).2 rfl)
  have c2 : (fault b == 0) = false := beq_eq_false_iff_ne.2 hfb
  have c2b : (fault b != 0) = true := by rw [bne, c2]; rfl
  have hde : diffErr a b = fault b := by rw [diffErr, if_pos hf]
  have hde0 : ¬ diffErr a b = 0 := by rw [hde]; exact hfb
  rw [diffRes, if_neg hde0, hde] at hD
  rw [lookRes, lookNum, if_neg hde0, if_neg hde0, hde] at hK
  clear hde hde0
  generalize fault b = fb at *
  have HS0 := Lib.hid (ApSt.start (c := c) hf)
  rw [applyRes_bad a c hr] at hP
  rw [hf] at hFa
  obtain ⟨r, HR⟩ : ∃ r, Hid ((applyRes a c).2 = r) := ⟨_, rfl⟩
  rw [HR.out] at hP hr
  have c1 : (r == 0) = false := beq_eq_false_iff_ne.2 hr
  have c1b : (r != 0) = true := by rw [bne, c1]; rfl
  have hr0 := hr
  clear hf hma hea hmb heb hsz hfb hr
  unfold maxLen at hmc
  go_enter Try.func3, Try.ntmps3
  go_wp2_with fail
  refine (hD _ hA hB).out.mono ?_
  rintro e w1 ⟨D1, d1, rfl, hr1, hb1⟩
  go_wp2_with fail
  refine (hK _ (hA.below hb1) (hB.below hb1)).out.mono ?_
  rintro e w2 ⟨D2, d2, rfl, hr2, hb2⟩
  have hb02 := below_chain hb1 hb2
  have hr12 := hr1.below hb2
  clear hD hK hb1 hb2 hr1
  go_wp2_with fail
  refine (hP _ (hA.below hb02) (hC.below hb02)).out.mono ?_
  rintro e w3 ⟨D3, d3, rfl, hown3, hb3⟩
  have hb03 := below_chain hb02 hb3
  have hr13 := hr12.below hb3
  have hr23 := hr2.below hb3
  have hX3 := Row.ownE hown3.row
  clear hP hb02 hb3 hr12 hr2 hown3
  go_wp2_with fail
  refine (hFa _ (hA.below hb03)).out.mono ?_
  rintro e w4 ⟨rfl, hb4⟩
  have hb04 := below_chain hb03 hb4
  go_wp2_with fail
  refine (hCl _ (hA.below hb04)).out.mono ?_
  rintro e w5 ⟨D5, d5, rfl, hr5, hb5⟩
  have hb05 := below_chain hb04 hb5
  have hb35 := below_chain hb4 hb5
  have hr15 := hr13.below hb35
  have hr25 := hr23.below hb35
  have hX5 := hX3.below hb35
  clear hFa hCl hb03 hb04 hb4 hb5 hb35 hr13 hr23 hX3
  go_wp2_with fail
  go_loopw [15, 16, 49] (fun vn vq i wr => ∃ (k : Nat) (L : List Ent) (q : Int) (D : Option Addr) (d : Nat), k ≤ c.length ∧ i = .int .i64 k ∧ vn = .slice D L.length d ∧ vq = .int .i64 q ∧ Row wr D (encells L) ∧ Hid (ApSt a c k L q) ∧ Below w5.heap.size w5 wr) (fun _ _ i _ => c.length - (intOf i).toNat)
  case atStart => exact ⟨0, a, 0, D5, d5, Nat.zero_le _, rfl, rfl, rfl, hr5, HS0, Below.refl _ _⟩
  case round =>
    obtain ⟨k, L, q, D, d, hk, rfl, rfl, rfl, hrow, HS, hbl⟩ := hrel
    have hb0r := below_chain hb05 hbl
    have hszr := hbl.size
    clear hr5
    by_cases hlt : k < c.length
    · obtain ⟨g, off, rfl, h1, h2⟩ := (hC.below hb0r).ent k hlt
      have hi0 : (0 : Int) ≤ (k : Int) := by omega
      have hi1 : (k : Int) < (c.length : Int) := by omega
      have hx := hec _ (List.getElem_mem hlt)
      have hbw : Below w5.heap.size w5 (wr.alloc (.cells #[.string (S c[k].1), .string (S c[k].2)] 34)) := hbl.alloc hszr _
      by_cases hq : q = 0
      · subst hq
        have hGL := HS.out.good
        have hset := setErr_ask hGL c[k].1 c[k].2
        have hfail := fun e he h0 => Lib.hid (HS.out.fails hlt e he h0)
        have hsets := fun he => Lib.hid (HS.out.sets hlt he)
        have hlL := hGL.len
        have hst := fun (w : World) hA => Lib.hid (refStands D d L c[k].1 w (by unfold maxLen; omega) hA (stands L c[k].1) rfl)
        have hak := fun w => Lib.hid (refAskFault c[k].1 c[k].2 w hx.1 hx.2 (askFault c[k].1 c[k].2) rfl)
        have hse := fun (w : World) hA => Lib.hid (refSet D d L c[k].1 c[k].2 w (by omega) hx.1 (fun x hx' => small_of_name (hGL.name x hx')) hA)
        have k4 : (wr.alloc (.cells #[.string (S c[k].1), .string (S c[k].2)] 34)).cell? ⟨wr.heap.size, 0, none⟩ = some (.string (S c[k].1)) := by rw [World.cell?_alloc_new]; rfl
        have k5 : (wr.alloc (.cells #[.string (S c[k].1), .string (S c[k].2)] 34)).cell? ⟨wr.heap.size, 1, none⟩ = some (.string (S c[k].2)) := by rw [World.cell?_alloc_new]; rfl
        have hrow1 := hrow.alloc (.cells #[.string (S c[k].1), .string (S c[k].2)] 34)
        clear HS hrow hGL hx hFb hX5 hr15 hr25 hA hB hC
        generalize setErr L c[k].1 c[k].2 = se at *
        generalize setTo c[k].1 c[k].2 L = L' at *
        generalize c[k].1 = n at *
        generalize c[k].2 = v at *
        generalize stands L n = o at *
        generalize askFault n v = ak at *
        by_cases h0 : ak = 0
        · subst h0
          rw [if_pos rfl] at hset
          by_cases h7 : o.isSome = false ∧ L.length = 24
          · rw [if_pos h7] at hset
            have HF := hfail 7 hset (by decide)
            obtain ⟨c7, e24⟩ := h7
            rw [c7] at hst
            have c24 : ((L.length : Int) == 24) = true := beq_iff_eq.2 (by omega)
            clear hfail hsets hse hset c7 e24
            go_wp2_with fail
            refine (hst _ hrow1).out.mono ?_
            rintro e w6 ⟨rfl, hb6⟩
            have k46 := kept k4 hb6
            have k56 := kept k5 hb6
            have hb06 := below_chain hbw hb6
            have hrow6 := hrow1.below hb6
            clear hst k4 k5 hb6 hbw hrow1 h1 h2
            go_wp2_with fail
            refine (hak _).out.mono ?_
            rintro e w7 ⟨rfl, rfl⟩
            clear hak
            go_wp2
            go_roundw
            case rel => exact ⟨k + 1, L, 7, D, d, by omega, by go_num, rfl, rfl, hrow6, HF, hb06⟩
            case measure => simp [intOf]; omega
          · rw [if_neg h7] at hset
            have HF := hsets hset
            have hcs : o.isSome = true ∨ o.isSome = false ∧ ((L.length : Int) == 24) = false := by
              cases ho : o.isSome with
              | true => exact .inl rfl
              | false => exact .inr ⟨rfl, beq_eq_false_iff_ne.2 fun e => h7 ⟨ho, by omega⟩⟩
            clear hfail hsets hset h7
            generalize o.isSome = si at *
            rcases hcs with rfl | ⟨rfl, c24⟩
            all_goals
              go_wp2_with fail
              refine (hst _ hrow1).out.mono ?_
              rintro e w6 ⟨rfl, hb6⟩
              have k46 := kept k4 hb6
              have k56 := kept k5 hb6
              have hb06 := below_chain hbw hb6
              have hrow6 := hrow1.below hb6
              clear hst k4 k5 hb6 hbw hrow1 h1 h2
              go_wp2_with fail
              refine (hak _).out.mono ?_
              rintro e w7 ⟨rfl, rfl⟩
              clear hak
              go_wp2_with fail
              refine (hse _ hrow6).out.mono ?_
              rintro e w8 ⟨D8, d8, rfl, hr8, hb8⟩
              have hb08 := below_chain hb06 hb8
              clear hse hrow6 hb06 hb8
              go_wp2
              go_roundw
              case rel => exact ⟨k + 1, L', 0, D8, d8, by omega, by go_num, rfl, rfl, hr8, HF, hb08⟩
              case measure => simp [intOf]; omega
        · rw [if_neg h0] at hset
          have HF := hfail ak hset h0
          have c0 : (ak == 0) = false := beq_eq_false_iff_ne.2 h0
          clear hfail hsets hse hset h0
          generalize o.isSome = si at *
          go_wp2_with fail
          refine (hst _ hrow1).out.mono ?_
          rintro e w6 ⟨rfl, hb6⟩
          have k46 := kept k4 hb6
          have k56 := kept k5 hb6
          have hb06 := below_chain hbw hb6
          have hrow6 := hrow1.below hb6
          clear hst k4 k5 hb6 hbw hrow1 h1 h2
          go_wp2_with fail
          refine (hak _).out.mono ?_
          rintro e w7 ⟨rfl, rfl⟩
          clear hak
          go_wp2
          go_roundw
          case rel => exact ⟨k + 1, L, ak, D, d, by omega, by go_num, rfl, rfl, hrow6, HF, hb06⟩
          case measure => simp [intOf]; omega
      · obtain rfl : q = r := (HS.out.bad hq).symm.trans HR.out
        have hb0a := below_chain hb05 hbw
        clear HS hq hrow hx hC hb0r hbl
        generalize c[k].1 = n at *
        generalize c[k].2 = v at *
        go_wp2_with fail
        refine (hFb _ (hB.below hb0a)).out.mono ?_
        rintro e w20 ⟨rfl, hb20⟩
        have hb020 := below_chain hb0a hb20
        have hr120 := (hr15.below hbw).below hb20
        have hr220 := (hr25.below hbw).below hb20
        clear hFb hb20
        go_wp2
        go_ret
        exact ⟨rfl, hb020⟩
    · obtain rfl : k = c.length := by omega
      have hq : q ≠ 0 := fun e => by
        subst e
        have h1 := HS.out.ends
        have h2 := HR.out
        rw [h1] at h2
        exact hr0 h2.symm
      obtain rfl : q = r := (HS.out.bad hq).symm.trans HR.out
      clear HS hq hrow hlt
      go_wp2_with fail
      refine (hFb _ (hB.below hb0r)).out.mono ?_
      rintro e w20 ⟨rfl, hb20⟩
      have hb020 := below_chain hb0r hb20
      have hr120 := (hr15.below hbl).below hb20
      have hr220 := (hr25.below hbl).below hb20
      clear hFb hb20
      go_wp2
      go_ret
      exact ⟨rfl, hb020⟩

set_option maxHeartbeats 4000000 in
theorem ct_ac (A B C : Option Addr) (ca cb cc : Nat) (a b c : List Ent) (w : World) (hma : a.length ≤ maxLen) (hea : ∀ x ∈ a, x.1.length ≤ maxLen ∧ x.2.length ≤ maxLen) (hmb : b.length ≤ maxLen) (heb : ∀ x ∈ b, x.1.length ≤ maxLen ∧ x.2.length ≤ maxLen) (hmc : c.length ≤ maxLen) (hec : ∀ x ∈ c, x.1.length ≤ maxLen ∧ x.2.length ≤ maxLen)
    (hsz : a.length * 32 ≤ 140737488351232) (hA : Row w A (encells a)) (hB : Row w B (encells b)) (hC : Row w C (encells c)) (hf : fault a = 0) (hr : (applyRes a c).2 ≠ 0) (hfb : fault b = 0) :
    Calls Try.prog 3 #[.slice A a.length ca, .slice B b.length cb, .slice C c.length cc] w fun e w' => e = .returned (.bool true) ∧ Below w.heap.size w w' := by
  have hFa := fun (w : World) hA => Lib.hid (refFault A ca a w hma hea hA (fault a) rfl)
  have hFb := fun (w : World) hB => Lib.hid (refFault B cb b w hmb heb hB (fault b) rfl)
  have hCl := fun (w : World) hA => Lib.hid (cloneEnts A ca a w hsz hA)
  have hD := fun (w : World) hA hB => Lib.hid (changeDiff A B ca cb a b w hma hea hmb heb hA hB (diffRes a b) rfl (diffErr a b) rfl)
  have hK := fun (w : World) hA hB => Lib.hid (changeLook A B ca cb a b w hma hea hmb heb hA hB (lookRes a b) rfl (lookNum a b) rfl (diffErr a b) rfl)
  have hP := fun (w : World) hA hC => Lib.hid (changeApply A C ca cc a c w hma hea hmc hec hA hC (applyRes a c).1 (applyRes a c).2 rfl)
  have hGb := (fault_ok b).1 hfb
  have hGa := (fault_ok a).1 hf
  have hla := hGa.len
  have hlb := hGb.len
  have hLk := fun (w : World) hA hB => Lib.hid (refLooked A B ca cb a b w (by omega) (by omega) (good_5 hGa) (good_5 hGb) hA hB)
  have hDf := fun (w : World) hA hB => Lib.hid (refDiffer A B ca cb a b w (by omega) (by omega) (fun x hx => (hea x hx).1) (fun x hx => (heb x hx).1) hA hB)
  have hdl := differ_le a b
  have hfl : (foundAt a b []).length ≤ maxLen := by
    have h1 := foundAt_le a b []
    have h2 := visitsAt_le a b [] 16 rfl
    have h3 : (differ a b).length * visitsAt a b [] ≤ 48 * visitsAt a b [] := Nat.mul_le_mul_right _ (by omega)
    unfold maxLen
    omega
  have hE1 := fun (D E : Option Addr) (x y : Nat) (w : World) hD hE => Lib.hid (eqStrs D E x y (differ a b) (differ a b) w (by unfold maxLen; omega) true (decide_eq_true rfl) hD hE)
  have hE2 := fun (D E : Option Addr) (x y : Nat) (w : World) hD hE => Lib.hid (eqStrs D E x y (foundAt a b []) (foundAt a b []) w hfl true (decide_eq_true rfl) hD hE)
  have hde : diffErr a b = 0 := (diffErr_ok a b).2 ⟨hGa, hGb⟩
  rw [foundAt_srt] at hLk
  rw [diffRes, if_pos hde, hde] at hD
  rw [lookRes, lookNum, if_pos hde, if_pos hde, hde] at hK
  rw [hfb] at hFb
  obtain ⟨nv, hnv⟩ : ∃ n, visitsAt a b [] = n := ⟨_, rfl⟩
  obtain ⟨TF, hTF⟩ : ∃ T, foundAt a b [] = T := ⟨_, rfl⟩
  obtain ⟨TD, hTD⟩ : ∃ T, differ a b = T := ⟨_, rfl⟩
  rw [hnv, hTF] at hLk hK
  rw [hTF] at hE2
  rw [hTD] at hE1 hD hDf
  clear hnv hTF hTD hde hdl hfl hla hlb hGa hGb
  have HS0 := Lib.hid (ApSt.start (c := c) hf)
  rw [applyRes_bad a c hr] at hP
  rw [hf] at hFa
  obtain ⟨r, HR⟩ : ∃ r, Hid ((applyRes a c).2 = r) := ⟨_, rfl⟩
  rw [HR.out] at hP hr
  have c1 : (r == 0) = false := beq_eq_false_iff_ne.2 hr
  have c1b : (r != 0) = true := by rw [bne, c1]; rfl
  have hr0 := hr
  clear hf hma hea hmb heb hsz hfb hr
  unfold maxLen at hmc
  go_enter Try.func3, Try.ntmps3
  go_wp2_with fail
  refine (hD _ hA hB).out.mono ?_
  rintro e w1 ⟨D1, d1, rfl, hr1, hb1⟩
  go_wp2_with fail
  refine (hK _ (hA.below hb1) (hB.below hb1)).out.mono ?_
  rintro e w2 ⟨D2, d2, rfl, hr2, hb2⟩
  have hb02 := below_chain hb1 hb2
  have hr12 := hr1.below hb2
  clear hD hK hb1 hb2 hr1
  go_wp2_with fail
  refine (hP _ (hA.below hb02) (hC.below hb02)).out.mono ?_
  rintro e w3 ⟨D3, d3, rfl, hown3, hb3⟩
  have hb03 := below_chain hb02 hb3
  have hr13 := hr12.below hb3
  have hr23 := hr2.below hb3
  have hX3 := Row.ownE hown3.row
  clear hP hb02 hb3 hr12 hr2 hown3
  go_wp2_with fail
  refine (hFa _ (hA.below hb03)).out.mono ?_
  rintro e w4 ⟨rfl, hb4⟩
  have hb04 := below_chain hb03 hb4
  go_wp2_with fail
  refine (hCl _ (hA.below hb04)).out.mono ?_
  rintro e w5 ⟨D5, d5, rfl, hr5, hb5⟩
  have hb05 := below_chain hb04 hb5
  have hb35 := below_chain hb4 hb5
  have hr15 := hr13.below hb35
  have hr25 := hr23.below hb35
  have hX5 := hX3.below hb35
  clear hFa hCl hb03 hb04 hb4 hb5 hb35 hr13 hr23 hX3
  go_wp2_with fail
  go_loopw [15, 16, 49] (fun vn vq i wr => ∃ (k : Nat) (L : List Ent) (q : Int) (D : Option Addr) (d : Nat), k ≤ c.length ∧ i = .int .i64 k ∧ vn = .slice D L.length d ∧ vq = .int .i64 q ∧ Row wr D (encells L) ∧ Hid (ApSt a c k L q) ∧ Below w5.heap.size w5 wr) (fun _ _ i _ => c.length - (intOf i).toNat)
  case atStart => exact ⟨0, a, 0, D5, d5, Nat.zero_le _, rfl, rfl, rfl, hr5, HS0, Below.refl _ _⟩
  case round =>
    obtain ⟨k, L, q, D, d, hk, rfl, rfl, rfl, hrow, HS, hbl⟩ := hrel
    have hb0r := below_chain hb05 hbl
    have hszr := hbl.size
    clear hr5
    by_cases hlt : k < c.length
    · obtain ⟨g, off, rfl, h1, h2⟩ := (hC.below hb0r).ent k hlt
      have hi0 : (0 : Int) ≤ (k : Int) := by omega
      have hi1 : (k : Int) < (c.length : Int) := by omega
      have hx := hec _ (List.getElem_mem hlt)
      have hbw : Below w5.heap.size w5 (wr.alloc (.cells #[.string (S c[k].1), .string (S c[k].2)] 34)) := hbl.alloc hszr _
      by_cases hq : q = 0
      · subst hq
        have hGL := HS.out.good
        have hset := setErr_ask hGL c[k].1 c[k].2
        have hfail := fun e he h0 => Lib.hid (HS.out.fails hlt e he h0)
        have hsets := fun he => Lib.hid (HS.out.sets hlt he)
        have hlL := hGL.len
        have hst := fun (w : World) hA => Lib.hid (refStands D d L c[k].1 w (by unfold maxLen; omega) hA (stands L c[k].1) rfl)
        have hak := fun w => Lib.hid (refAskFault c[k].1 c[k].2 w hx.1 hx.2 (askFault c[k].1 c[k].2) rfl)
        have hse := fun (w : World) hA => Lib.hid (refSet D d L c[k].1 c[k].2 w (by omega) hx.1 (fun x hx' => small_of_name (hGL.name x hx')) hA)
        have k4 : (wr.alloc (.cells #[.string (S c[k].1), .string (S c[k].2)] 34)).cell? ⟨wr.heap.size, 0, none⟩ = some (.string (S c[k].1)) := by rw [World.cell?_alloc_new]; rfl
        have k5 : (wr.alloc (.cells #[.string (S c[k].1), .string (S c[k].2)] 34)).cell? ⟨wr.heap.size, 1, none⟩ = some (.string (S c[k].2)) := by rw [World.cell?_alloc_new]; rfl
        have hrow1 := hrow.alloc (.cells #[.string (S c[k].1), .string (S c[k].2)] 34)
        clear HS hrow hGL hx hFb hX5 hr15 hr25 hA hB hC
        generalize setErr L c[k].1 c[k].2 = se at *
        generalize setTo c[k].1 c[k].2 L = L' at *
        generalize c[k].1 = n at *
        generalize c[k].2 = v at *
        generalize stands L n = o at *
        generalize askFault n v = ak at *
        by_cases h0 : ak = 0
        · subst h0
          rw [if_pos rfl] at hset
          by_cases h7 : o.isSome = false ∧ L.length = 24
          · rw [if_pos h7] at hset
            have HF := hfail 7 hset (by decide)
            obtain ⟨c7, e24⟩ := h7
            rw [c7] at hst
            have c24 : ((L.length : Int) == 24) = true := beq_iff_eq.2 (by omega)
            clear hfail hsets hse hset c7 e24
            go_wp2_with fail
            refine (hst _ hrow1).out.mono ?_
            rintro e w6 ⟨rfl, hb6⟩
            have k46 := kept k4 hb6
            have k56 := kept k5 hb6
            have hb06 := below_chain hbw hb6
            have hrow6 := hrow1.below hb6
            clear hst k4 k5 hb6 hbw hrow1 h1 h2
            go_wp2_with fail
            refine (hak _).out.mono ?_
            rintro e w7 ⟨rfl, rfl⟩
            clear hak
            go_wp2
            go_roundw
            case rel => exact ⟨k + 1, L, 7, D, d, by omega, by go_num, rfl, rfl, hrow6, HF, hb06⟩
            case measure => simp [intOf]; omega
          · rw [if_neg h7] at hset
            have HF := hsets hset
            have hcs : o.isSome = true ∨ o.isSome = false ∧ ((L.length : Int) == 24) = false := by
              cases ho : o.isSome with
              | true => exact .inl rfl
              | false => exact .inr ⟨rfl, beq_eq_false_iff_ne.2 fun e => h7 ⟨ho, by omega⟩⟩
            clear hfail hsets hset h7
            generalize o.isSome = si at *
            rcases hcs with rfl | ⟨rfl, c24⟩
            all_goals
              go_wp2_with fail
              refine (hst _ hrow1).out.mono ?_
              rintro e w6 ⟨rfl, hb6⟩
              have k46 := kept k4 hb6
              have k56 := kept k5 hb6
              have hb06 := below_chain hbw hb6
              have hrow6 := hrow1.below hb6
              clear hst k4 k5 hb6 hbw hrow1 h1 h2
              go_wp2_with fail
              refine (hak _).out.mono ?_
              rintro e w7 ⟨rfl, rfl⟩
              clear hak
              go_wp2_with fail
              refine (hse _ hrow6).out.mono ?_
              rintro e w8 ⟨D8, d8, rfl, hr8, hb8⟩
              have hb08 := below_chain hb06 hb8
              clear hse hrow6 hb06 hb8
              go_wp2
              go_roundw
              case rel => exact ⟨k + 1, L', 0, D8, d8, by omega, by go_num, rfl, rfl, hr8, HF, hb08⟩
              case measure => simp [intOf]; omega
        · rw [if_neg h0] at hset
          have HF := hfail ak hset h0
          have c0 : (ak == 0) = false := beq_eq_false_iff_ne.2 h0
          clear hfail hsets hse hset h0
          generalize o.isSome = si at *
          go_wp2_with fail
          refine (hst _ hrow1).out.mono ?_
          rintro e w6 ⟨rfl, hb6⟩
          have k46 := kept k4 hb6
          have k56 := kept k5 hb6
          have hb06 := below_chain hbw hb6
          have hrow6 := hrow1.below hb6
          clear hst k4 k5 hb6 hbw hrow1 h1 h2
          go_wp2_with fail
          refine (hak _).out.mono ?_
          rintro e w7 ⟨rfl, rfl⟩
          clear hak
          go_wp2
          go_roundw
          case rel => exact ⟨k + 1, L, ak, D, d, by omega, by go_num, rfl, rfl, hrow6, HF, hb06⟩
          case measure => simp [intOf]; omega
      · obtain rfl : q = r := (HS.out.bad hq).symm.trans HR.out
        have hb0a := below_chain hb05 hbw
        clear HS hq hrow hx hC hb0r hbl
        generalize c[k].1 = n at *
        generalize c[k].2 = v at *
        go_wp2_with fail
        refine (hFb _ (hB.below hb0a)).out.mono ?_
        rintro e w20 ⟨rfl, hb20⟩
        have hb020 := below_chain hb0a hb20
        have hr120 := (hr15.below hbw).below hb20
        have hr220 := (hr25.below hbw).below hb20
        clear hFb hb20
        go_wp2_with fail
        refine (hLk _ (hA.below hb020) (hB.below hb020)).out.mono ?_
        rintro e w21 ⟨D21, d21, rfl, hr21, hb21⟩
        have hb021 := below_chain hb020 hb21
        have hr121 := hr120.below hb21
        have hr221 := hr220.below hb21
        clear hLk hb21 hb020 hr120 hr220
        go_wp2_with fail
        refine (hDf _ (hA.below hb021) (hB.below hb021)).out.mono ?_
        rintro e w22 ⟨D22, d22, rfl, hr22, hb22⟩
        have hb022 := below_chain hb021 hb22
        have hr122 := hr121.below hb22
        have hr222 := hr221.below hb22
        have hr2122 := hr21.below hb22
        clear hDf hb22 hb021 hr121 hr221 hr21
        go_wp2_with fail
        refine (hE1 _ _ _ _ _ hr122 hr22).out.mono ?_
        rintro e w23 ⟨rfl, m23, hw23⟩
        have hb23 : Below w22.heap.size w22 w23 := by rw [hw23]; exact below_of_drewN _ _ _
        have hb023 := below_chain hb022 hb23
        have hr223 := hr222.below hb23
        have hr2123 := hr2122.below hb23
        clear hE1 hw23 hb23 hb022 hr122 hr22 hr222 hr2122
        go_wp2_with fail
        refine (hE2 _ _ _ _ _ hr223 hr2123).out.mono ?_
        rintro e w24 ⟨rfl, m24, hw24⟩
        have hb024 : Below w.heap.size w w24 := by rw [hw24]; exact below_drewN hb023 _
        clear hE2 hw24 hb023 hr223 hr2123
        go_wp2
        go_ret
        exact ⟨rfl, hb024⟩
    · obtain rfl : k = c.length := by omega
      have hq : q ≠ 0 := fun e => by
        subst e
        have h1 := HS.out.ends
        have h2 := HR.out
        rw [h1] at h2
        exact hr0 h2.symm
      obtain rfl : q = r := (HS.out.bad hq).symm.trans HR.out
      clear HS hq hrow hlt
      go_wp2_with fail
      refine (hFb _ (hB.below hb0r)).out.mono ?_
      rintro e w20 ⟨rfl, hb20⟩
      have hb020 := below_chain hb0r hb20
      have hr120 := (hr15.below hbl).below hb20
      have hr220 := (hr25.below hbl).below hb20
      clear hFb hb20
      go_wp2_with fail
      refine (hLk _ (hA.below hb020) (hB.below hb020)).out.mono ?_
      rintro e w21 ⟨D21, d21, rfl, hr21, hb21⟩
      have hb021 := below_chain hb020 hb21
      have hr121 := hr120.below hb21
      have hr221 := hr220.below hb21
      clear hLk hb21 hb020 hr120 hr220
      go_wp2_with fail
      refine (hDf _ (hA.below hb021) (hB.below hb021)).out.mono ?_
      rintro e w22 ⟨D22, d22, rfl, hr22, hb22⟩
      have hb022 := below_chain hb021 hb22
      have hr122 := hr121.below hb22
      have hr222 := hr221.below hb22
      have hr2122 := hr21.below hb22
      clear hDf hb22 hb021 hr121 hr221 hr21
      go_wp2_with fail
      refine (hE1 _ _ _ _ _ hr122 hr22).out.mono ?_
      rintro e w23 ⟨rfl, m23, hw23⟩
      have hb23 : Below w22.heap.size w22 w23 := by rw [hw23]; exact below_of_drewN _ _ _
      have hb023 := below_chain hb022 hb23
      have hr223 := hr222.below hb23
      have hr2123 := hr2122.below hb23
      clear hE1 hw23 hb23 hb022 hr122 hr22 hr222 hr2122
      go_wp2_with fail
      refine (hE2 _ _ _ _ _ hr223 hr2123).out.mono ?_
      rintro e w24 ⟨rfl, m24, hw24⟩
      have hb024 : Below w.heap.size w w24 := by rw [hw24]; exact below_drewN hb023 _
      clear hE2 hw24 hb023 hr223 hr2123
      go_wp2
      go_ret
      exact ⟨rfl, hb024⟩

set_option maxHeartbeats 4000000 in
theorem ct_bb (A B C : Option Addr) (ca cb cc : Nat) (a b c : List Ent) (w : World) (hma : a.length ≤ maxLen) (hea : ∀ x ∈ a, x.1.length ≤ maxLen ∧ x.2.length ≤ maxLen) (hmb : b.length ≤ maxLen) (heb : ∀ x ∈ b, x.1.length ≤ maxLen ∧ x.2.length ≤ maxLen) (hmc : c.length ≤ maxLen) (hec : ∀ x ∈ c, x.1.length ≤ maxLen ∧ x.2.length ≤ maxLen)
    (hsz : a.length * 32 ≤ 140737488351232) (hA : Row w A (encells a)) (hB : Row w B (encells b)) (hC : Row w C (encells c)) (hf : fault a = 0) (hr : (applyRes a c).2 = 0) (hfb : fault b ≠ 0) :
    Calls Try.prog 3 #[.slice A a.length ca, .slice B b.length cb, .slice C c.length cc] w fun e w' => e = .returned (.bool true) ∧ Below w.heap.size w w' := by
  have hFa := fun (w : World) hA => Lib.hid (refFault A ca a w hma hea hA (fault a) rfl)
  have hFb := fun (w : World) hB => Lib.hid (refFault B cb b w hmb heb hB (fault b) rfl)
  have hCl := fun (w : World) hA => Lib.hid (cloneEnts A ca a w hsz hA)
  have hD := fun (w : World) hA hB => Lib.hid (changeDiff A B ca cb a b w hma hea hmb heb hA hB (diffRes a b) rfl (diffErr a b) rfl)
  have hK := fun (w : World) hA hB => Lib.hid (changeLook A B ca cb a b w hma hea hmb heb hA hB (lookRes a b) rfl (lookNum a b) rfl (diffErr a b) rfl)
  have hP := fun (w : World) hA hC => Lib.hid (changeApply A C ca cc a c w hma hea hmc hec hA hC (applyRes a c).1 (applyRes a c).2 rfl)
  have c2 : (fault b == 0) = false := beq_eq_false_iff_ne.2 hfb
  have c2b : (fault b != 0) = true := by rw [bne, c2]; rfl
  have hde : diffErr a b = fault b := by rw [diffErr, if_pos hf]
  have hde0 : ¬ diffErr a b = 0 := by rw [hde]; exact hfb
  rw [diffRes, if_neg hde0, hde] at hD
  rw [lookRes, lookNum, if_neg hde0, if_neg hde0, hde] at hK
  clear hde hde0
  generalize fault b = fb at *
  have HS0 := Lib.hid (ApSt.start (c := c) hf)
  have hgx := (applyRes_good a c hr).2
  obtain ⟨hmX, heX⟩ := small_of_good hgx
  have hQ := fun (D E : Option Addr) (x y : Nat) (w : World) hD hE => Lib.hid (eqEnts D E x y (applyRes a c).1 (applyRes a c).1 w hmX true (decide_eq_true rfl) hD hE)
  rw [hr] at hP
  rw [hf] at hFa
  have HR := Lib.hid hr
  obtain ⟨X, HX⟩ : ∃ X, Hid ((applyRes a c).1 = X) := ⟨_, rfl⟩
  rw [HX.out] at hP hQ
  clear hgx hmX heX hr
  clear hf hma hea hmb heb hsz hfb
  unfold maxLen at hmc
  go_enter Try.func3, Try.ntmps3
  go_wp2_with fail
  refine (hD _ hA hB).out.mono ?_
  rintro e w1 ⟨D1, d1, rfl, hr1, hb1⟩
  go_wp2_with fail
  refine (hK _ (hA.below hb1) (hB.below hb1)).out.mono ?_
  rintro e w2 ⟨D2, d2, rfl, hr2, hb2⟩
  have hb02 := below_chain hb1 hb2
  have hr12 := hr1.below hb2
  clear hD hK hb1 hb2 hr1
  go_wp2_with fail
  refine (hP _ (hA.below hb02) (hC.below hb02)).out.mono ?_
  rintro e w3 ⟨D3, d3, rfl, hown3, hb3⟩
  have hb03 := below_chain hb02 hb3
  have hr13 := hr12.below hb3
  have hr23 := hr2.below hb3
  have hX3 := Row.ownE hown3.row
  clear hP hb02 hb3 hr12 hr2 hown3
  go_wp2_with fail
  refine (hFa _ (hA.below hb03)).out.mono ?_
  rintro e w4 ⟨rfl, hb4⟩
  have hb04 := below_chain hb03 hb4
  go_wp2_with fail
  refine (hCl _ (hA.below hb04)).out.mono ?_
  rintro e w5 ⟨D5, d5, rfl, hr5, hb5⟩
  have hb05 := below_chain hb04 hb5
  have hb35 := below_chain hb4 hb5
  have hr15 := hr13.below hb35
  have hr25 := hr23.below hb35
  have hX5 := hX3.below hb35
  clear hFa hCl hb03 hb04 hb4 hb5 hb35 hr13 hr23 hX3
  go_wp2_with fail
  go_loopw [15, 16, 49] (fun vn vq i wr => ∃ (k : Nat) (L : List Ent) (q : Int) (D : Option Addr) (d : Nat), k ≤ c.length ∧ i = .int .i64 k ∧ vn = .slice D L.length d ∧ vq = .int .i64 q ∧ Row wr D (encells L) ∧ Hid (ApSt a c k L q) ∧ Below w5.heap.size w5 wr) (fun _ _ i _ => c.length - (intOf i).toNat)
  case atStart => exact ⟨0, a, 0, D5, d5, Nat.zero_le _, rfl, rfl, rfl, hr5, HS0, Below.refl _ _⟩
  case round =>
    obtain ⟨k, L, q, D, d, hk, rfl, rfl, rfl, hrow, HS, hbl⟩ := hrel
    have hb0r := below_chain hb05 hbl
    have hszr := hbl.size
    clear hr5
    by_cases hlt : k < c.length
    · obtain ⟨g, off, rfl, h1, h2⟩ := (hC.below hb0r).ent k hlt
      have hi0 : (0 : Int) ≤ (k : Int) := by omega
      have hi1 : (k : Int) < (c.length : Int) := by omega
      have hx := hec _ (List.getElem_mem hlt)
      have hbw : Below w5.heap.size w5 (wr.alloc (.cells #[.string (S c[k].1), .string (S c[k].2)] 34)) := hbl.alloc hszr _
      by_cases hq : q = 0
      · subst hq
        have hGL := HS.out.good
        have hset := setErr_ask hGL c[k].1 c[k].2
        have hfail := fun e he h0 => Lib.hid (HS.out.fails hlt e he h0)
        have hsets := fun he => Lib.hid (HS.out.sets hlt he)
        have hlL := hGL.len
        have hst := fun (w : World) hA => Lib.hid (refStands D d L c[k].1 w (by unfold maxLen; omega) hA (stands L c[k].1) rfl)
        have hak := fun w => Lib.hid (refAskFault c[k].1 c[k].2 w hx.1 hx.2 (askFault c[k].1 c[k].2) rfl)
        have hse := fun (w : World) hA => Lib.hid (refSet D d L c[k].1 c[k].2 w (by omega) hx.1 (fun x hx' => small_of_name (hGL.name x hx')) hA)
        have k4 : (wr.alloc (.cells #[.string (S c[k].1), .string (S c[k].2)] 34)).cell? ⟨wr.heap.size, 0, none⟩ = some (.string (S c[k].1)) := by rw [World.cell?_alloc_new]; rfl
        have k5 : (wr.alloc (.cells #[.string (S c[k].1), .string (S c[k].2)] 34)).cell? ⟨wr.heap.size, 1, none⟩ = some (.string (S c[k].2)) := by rw [World.cell?_alloc_new]; rfl
        have hrow1 := hrow.alloc (.cells #[.string (S c[k].1), .string (S c[k].2)] 34)
        clear HS hrow hGL hx hFb hX5 hr15 hr25 hA hB hC
        generalize setErr L c[k].1 c[k].2 = se at *
        generalize setTo c[k].1 c[k].2 L = L' at *
        generalize c[k].1 = n at *
        generalize c[k].2 = v at *
        generalize stands L n = o at *
        generalize askFault n v = ak at *
        by_cases h0 : ak = 0
        · subst h0
          rw [if_pos rfl] at hset
          by_cases h7 : o.isSome = false ∧ L.length = 24
          · rw [if_pos h7] at hset
            have HF := hfail 7 hset (by decide)
            obtain ⟨c7, e24⟩ := h7
            rw [c7] at hst
            have c24 : ((L.length : Int) == 24) = true := beq_iff_eq.2 (by omega)
            clear hfail hsets hse hset c7 e24
            go_wp2_with fail
            refine (hst _ hrow1).out.mono ?_
            rintro e w6 ⟨rfl, hb6⟩
            have k46 := kept k4 hb6
            have k56 := kept k5 hb6
            have hb06 := below_chain hbw hb6
            have hrow6 := hrow1.below hb6
            clear hst k4 k5 hb6 hbw hrow1 h1 h2
            go_wp2_with fail
            refine (hak _).out.mono ?_
            rintro e w7 ⟨rfl, rfl⟩
            clear hak
            go_wp2
            go_roundw
            case rel => exact ⟨k + 1, L, 7, D, d, by omega, by go_num, rfl, rfl, hrow6, HF, hb06⟩
            case measure => simp [intOf]; omega
          · rw [if_neg h7] at hset
            have HF := hsets hset
            have hcs : o.isSome = true ∨ o.isSome = false ∧ ((L.length : Int) == 24) = false := by
              cases ho : o.isSome with
              | true => exact .inl rfl
              | false => exact .inr ⟨rfl, beq_eq_false_iff_ne.2 fun e => h7 ⟨ho, by omega⟩⟩
            clear hfail hsets hset h7
            generalize o.isSome = si at *
            rcases hcs with rfl | ⟨rfl, c24⟩
            all_goals
              go_wp2_with fail
              refine (hst _ hrow1).out.mono ?_
              rintro e w6 ⟨rfl, hb6⟩
              have k46 := kept k4 hb6
              have k56 := kept k5 hb6
              have hb06 := below_chain hbw hb6
              have hrow6 := hrow1.below hb6
              clear hst k4 k5 hb6 hbw hrow1 h1 h2
              go_wp2_with fail
              refine (hak _).out.mono ?_
              rintro e w7 ⟨rfl, rfl⟩
              clear hak
              go_wp2_with fail
              refine (hse _ hrow6).out.mono ?_
              rintro e w8 ⟨D8, d8, rfl, hr8, hb8⟩
              have hb08 := below_chain hb06 hb8
              clear hse hrow6 hb06 hb8
              go_wp2
              go_roundw
              case rel => exact ⟨k + 1, L', 0, D8, d8, by omega, by go_num, rfl, rfl, hr8, HF, hb08⟩
              case measure => simp [intOf]; omega
        · rw [if_neg h0] at hset
          have HF := hfail ak hset h0
          have c0 : (ak == 0) = false := beq_eq_false_iff_ne.2 h0
          clear hfail hsets hse hset h0
          generalize o.isSome = si at *
          go_wp2_with fail
          refine (hst _ hrow1).out.mono ?_
          rintro e w6 ⟨rfl, hb6⟩
          have k46 := kept k4 hb6
          have k56 := kept k5 hb6
          have hb06 := below_chain hbw hb6
          have hrow6 := hrow1.below hb6
          clear hst k4 k5 hb6 hbw hrow1 h1 h2
          go_wp2_with fail
          refine (hak _).out.mono ?_
          rintro e w7 ⟨rfl, rfl⟩
          clear hak
          go_wp2
          go_roundw
          case rel => exact ⟨k + 1, L, ak, D, d, by omega, by go_num, rfl, rfl, hrow6, HF, hb06⟩
          case measure => simp [intOf]; omega
      · exact absurd ((HS.out.bad hq).symm.trans HR.out) hq
    · obtain rfl : k = c.length := by omega
      obtain rfl : q = 0 := Classical.byContradiction fun hq => hq ((HS.out.bad hq).symm.trans HR.out)
      obtain rfl : X = L := by rw [← HX.out, HS.out.ends]
      clear HS hlt
      go_wp2_with fail
      refine (hQ _ _ _ _ _ (hX5.below hbl) hrow).out.mono ?_
      rintro e w19 ⟨rfl, m19, hw19⟩
      have hb19 : Below wr.heap.size wr w19 := by rw [hw19]; exact below_of_drewN _ _ _
      have hb019 := below_chain hb0r hb19
      have hbl19 := below_chain hbl hb19
      clear hQ hw19 hb19 hX5
      go_wp2_with fail
      refine (hFb _ (hB.below hb019)).out.mono ?_
      rintro e w20 ⟨rfl, hb20⟩
      have hb020 := below_chain hb019 hb20
      have hr120 := (hr15.below hbl19).below hb20
      have hr220 := (hr25.below hbl19).below hb20
      clear hFb hb20
      go_wp2
      go_ret
      exact ⟨rfl, hb020⟩

set_option maxHeartbeats 4000000 in
theorem ct_bc (A B C : Option Addr) (ca cb cc : Nat) (a b c : List Ent) (w : World) (hma : a.length ≤ maxLen) (hea : ∀ x ∈ a, x.1.length ≤ maxLen ∧ x.2.length ≤ maxLen) (hmb : b.length ≤ maxLen) (heb : ∀ x ∈ b, x.1.length ≤ maxLen ∧ x.2.length ≤ maxLen) (hmc : c.length ≤ maxLen) (hec : ∀ x ∈ c, x.1.length ≤ maxLen ∧ x.2.length ≤ maxLen)
    (hsz : a.length * 32 ≤ 140737488351232) (hA : Row w A (encells a)) (hB : Row w B (encells b)) (hC : Row w C (encells c)) (hf : fault a = 0) (hr : (applyRes a c).2 = 0) (hfb : fault b = 0) :
    Calls Try.prog 3 #[.slice A a.length ca, .slice B b.length cb, .slice C c.length cc] w fun e w' => e = .returned (.bool true) ∧ Below w.heap.size w w' := by
  have hFa := fun (w : World) hA => Lib.hid (refFault A ca a w hma hea hA (fault a) rfl)
  have hFb := fun (w : World) hB => Lib.hid (refFault B cb b w hmb heb hB (fault b) rfl)
  have hCl := fun (w : World) hA => Lib.hid (cloneEnts A ca a w hsz hA)
  have hD := fun (w : World) hA hB => Lib.hid (changeDiff A B ca cb a b w hma hea hmb heb hA hB (diffRes a b) rfl (diffErr a b) rfl)
  have hK := fun (w : World) hA hB => Lib.hid (changeLook A B ca cb a b w hma hea hmb heb hA hB (lookRes a b) rfl (lookNum a b) rfl (diffErr a b) rfl)
  have hP := fun (w : World) hA hC => Lib.hid (changeApply A C ca cc a c w hma hea hmc hec hA hC (applyRes a c).1 (applyRes a c).2 rfl)
  have hGb := (fault_ok b).1 hfb
  have hGa := (fault_ok a).1 hf
  have hla := hGa.len
  have hlb := hGb.len
  have hLk := fun (w : World) hA hB => Lib.hid (refLooked A B ca cb a b w (by omega) (by omega) (good_5 hGa) (good_5 hGb) hA hB)
  have hDf := fun (w : World) hA hB => Lib.hid (refDiffer A B ca cb a b w (by omega) (by omega) (fun x hx => (hea x hx).1) (fun x hx => (heb x hx).1) hA hB)
  have hdl := differ_le a b
  have hfl : (foundAt a b []).length ≤ maxLen := by
    have h1 := foundAt_le a b []
    have h2 := visitsAt_le a b [] 16 rfl
    have h3 : (differ a b).length * visitsAt a b [] ≤ 48 * visitsAt a b [] := Nat.mul_le_mul_right _ (by omega)
    unfold maxLen
    omega
  have hE1 := fun (D E : Option Addr) (x y : Nat) (w : World) hD hE => Lib.hid (eqStrs D E x y (differ a b) (differ a b) w (by unfold maxLen; omega) true (decide_eq_true rfl) hD hE)
  have hE2 := fun (D E : Option Addr) (x y : Nat) (w : World) hD hE => Lib.hid (eqStrs D E x y (foundAt a b []) (foundAt a b []) w hfl true (decide_eq_true rfl) hD hE)
  have hde : diffErr a b = 0 := (diffErr_ok a b).2 ⟨hGa, hGb⟩
  rw [foundAt_srt] at hLk
  rw [diffRes, if_pos hde, hde] at hD
  rw [lookRes, lookNum, if_pos hde, if_pos hde, hde] at hK
  rw [hfb] at hFb
  obtain ⟨nv, hnv⟩ : ∃ n, visitsAt a b [] = n := ⟨_, rfl⟩
  obtain ⟨TF, hTF⟩ : ∃ T, foundAt a b [] = T := ⟨_, rfl⟩
  obtain ⟨TD, hTD⟩ : ∃ T, differ a b = T := ⟨_, rfl⟩
  rw [hnv, hTF] at hLk hK
  rw [hTF] at hE2
  rw [hTD] at hE1 hD hDf
  clear hnv hTF hTD hde hdl hfl hla hlb hGa hGb
  have HS0 := Lib.hid (ApSt.start (c := c) hf)
  have hgx := (applyRes_good a c hr).2
  obtain ⟨hmX, heX⟩ := small_of_good hgx
  have hQ := fun (D E : Option Addr) (x y : Nat) (w : World) hD hE => Lib.hid (eqEnts D E x y (applyRes a c).1 (applyRes a c).1 w hmX true (decide_eq_true rfl) hD hE)
  rw [hr] at hP
  rw [hf] at hFa
  have HR := Lib.hid hr
  obtain ⟨X, HX⟩ : ∃ X, Hid ((applyRes a c).1 = X) := ⟨_, rfl⟩
  rw [HX.out] at hP hQ
  clear hgx hmX heX hr
  clear hf hma hea hmb heb hsz hfb
  unfold maxLen at hmc
  go_enter Try.func3, Try.ntmps3
  go_wp2_with fail
  refine (hD _ hA hB).out.mono ?_
  rintro e w1 ⟨D1, d1, rfl, hr1, hb1⟩
  go_wp2_with fail
  refine (hK _ (hA.below hb1) (hB.below hb1)).out.mono ?_
  rintro e w2 ⟨D2, d2, rfl, hr2, hb2⟩
  have hb02 := below_chain hb1 hb2
  have hr12 := hr1.below hb2
  clear hD hK hb1 hb2 hr1
  go_wp2_with fail
  refine (hP _ (hA.below hb02) (hC.below hb02)).out.mono ?_
  rintro e w3 ⟨D3, d3, rfl, hown3, hb3⟩
  have hb03 := below_chain hb02 hb3
  have hr13 := hr12.below hb3
  have hr23 := hr2.below hb3
  have hX3 := Row.ownE hown3.row
  clear hP hb02 hb3 hr12 hr2 hown3
  go_wp2_with fail
  refine (hFa _ (hA.below hb03)).out.mono ?_
  rintro e w4 ⟨rfl, hb4⟩
  have hb04 := below_chain hb03 hb4
  go_wp2_with fail
  refine (hCl _ (hA.below hb04)).out.mono ?_
  rintro e w5 ⟨D5, d5, rfl, hr5, hb5⟩
  have hb05 := below_chain hb04 hb5
  have hb35 := below_chain hb4 hb5
  have hr15 := hr13.below hb35
  have hr25 := hr23.below hb35
  have hX5 := hX3.below hb35
  clear hFa hCl hb03 hb04 hb4 hb5 hb35 hr13 hr23 hX3
  go_wp2_with fail
  go_loopw [15, 16, 49] (fun vn vq i wr => ∃ (k : Nat) (L : List Ent) (q : Int) (D : Option Addr) (d : Nat), k ≤ c.length ∧ i = .int .i64 k ∧ vn = .slice D L.length d ∧ vq = .int .i64 q ∧ Row wr D (encells L) ∧ Hid (ApSt a c k L q) ∧ Below w5.heap.size w5 wr) (fun _ _ i _ => c.length - (intOf i).toNat)
  case atStart => exact ⟨0, a, 0, D5, d5, Nat.zero_le _, rfl, rfl, rfl, hr5, HS0, Below.refl _ _⟩
  case round =>
    obtain ⟨k, L, q, D, d, hk, rfl, rfl, rfl, hrow, HS, hbl⟩ := hrel
    have hb0r := below_chain hb05 hbl
    have hszr := hbl.size
    clear hr5
    by_cases hlt : k < c.length
    · obtain ⟨g, off, rfl, h1, h2⟩ := (hC.below hb0r).ent k hlt
      have hi0 : (0 : Int) ≤ (k : Int) := by omega
      have hi1 : (k : Int) < (c.length : Int) := by omega
      have hx := hec _ (List.getElem_mem hlt)
      have hbw : Below w5.heap.size w5 (wr.alloc (.cells #[.string (S c[k].1), .string (S c[k].2)] 34)) := hbl.alloc hszr _
      by_cases hq : q = 0
      · subst hq
        have hGL := HS.out.good
        have hset := setErr_ask hGL c[k].1 c[k].2
        have hfail := fun e he h0 => Lib.hid (HS.out.fails hlt e he h0)
        have hsets := fun he => Lib.hid (HS.out.sets hlt he)
        have hlL := hGL.len
        have hst := fun (w : World) hA => Lib.hid (refStands D d L c[k].1 w (by unfold maxLen; omega) hA (stands L c[k].1) rfl)
        have hak := fun w => Lib.hid (refAskFault c[k].1 c[k].2 w hx.1 hx.2 (askFault c[k].1 c[k].2) rfl)
        have hse := fun (w : World) hA => Lib.hid (refSet D d L c[k].1 c[k].2 w (by omega) hx.1 (fun x hx' => small_of_name (hGL.name x hx')) hA)
        have k4 : (wr.alloc (.cells #[.string (S c[k].1), .string (S c[k].2)] 34)).cell? ⟨wr.heap.size, 0, none⟩ = some (.string (S c[k].1)) := by rw [World.cell?_alloc_new]; rfl
        have k5 : (wr.alloc (.cells #[.string (S c[k].1), .string (S c[k].2)] 34)).cell? ⟨wr.heap.size, 1, none⟩ = some (.string (S c[k].2)) := by rw [World.cell?_alloc_new]; rfl
        have hrow1 := hrow.alloc (.cells #[.string (S c[k].1), .string (S c[k].2)] 34)
        clear HS hrow hGL hx hFb hX5 hr15 hr25 hA hB hC
        generalize setErr L c[k].1 c[k].2 = se at *
        generalize setTo c[k].1 c[k].2 L = L' at *
        generalize c[k].1 = n at *
        generalize c[k].2 = v at *
        generalize stands L n = o at *
        generalize askFault n v = ak at *
        by_cases h0 : ak = 0
        · subst h0
          rw [if_pos rfl] at hset
          by_cases h7 : o.isSome = false ∧ L.length = 24
          · rw [if_pos h7] at hset
            have HF := hfail 7 hset (by decide)
            obtain ⟨c7, e24⟩ := h7
            rw [c7] at hst
            have c24 : ((L.length : Int) == 24) = true := beq_iff_eq.2 (by omega)
            clear hfail hsets hse hset c7 e24
            go_wp2_with fail
            refine (hst _ hrow1).out.mono ?_
            rintro e w6 ⟨rfl, hb6⟩
            have k46 := kept k4 hb6
            have k56 := kept k5 hb6
            have hb06 := below_chain hbw hb6
            have hrow6 := hrow1.below hb6
            clear hst k4 k5 hb6 hbw hrow1 h1 h2
            go_wp2_with fail
            refine (hak _).out.mono ?_
            rintro e w7 ⟨rfl, rfl⟩
            clear hak
            go_wp2
            go_roundw
            case rel => exact ⟨k + 1, L, 7, D, d, by omega, by go_num, rfl, rfl, hrow6, HF, hb06⟩
            case measure => simp [intOf]; omega
          · rw [if_neg h7] at hset
            have HF := hsets hset
            have hcs : o.isSome = true ∨ o.isSome = false ∧ ((L.length : Int) == 24) = false := by
              cases ho : o.isSome with
              | true => exact .inl rfl
              | false => exact .inr ⟨rfl, beq_eq_false_iff_ne.2 fun e => h7 ⟨ho, by omega⟩⟩
            clear hfail hsets hset h7
            generalize o.isSome = si at *
            rcases hcs with rfl | ⟨rfl, c24⟩
            all_goals
              go_wp2_with fail
              refine (hst _ hrow1).out.mono ?_
              rintro e w6 ⟨rfl, hb6⟩
              have k46 := kept k4 hb6
              have k56 := kept k5 hb6
              have hb06 := below_chain hbw hb6
              have hrow6 := hrow1.below hb6
              clear hst k4 k5 hb6 hbw hrow1 h1 h2
              go_wp2_with fail
              refine (hak _).out.mono ?_
              rintro e w7 ⟨rfl, rfl⟩
              clear hak
              go_wp2_with fail
              refine (hse _ hrow6).out.mono ?_
              rintro e w8 ⟨D8, d8, rfl, hr8, hb8⟩
              have hb08 := below_chain hb06 hb8
              clear hse hrow6 hb06 hb8
              go_wp2
              go_roundw
              case rel => exact ⟨k + 1, L', 0, D8, d8, by omega, by go_num, rfl, rfl, hr8, HF, hb08⟩
              case measure => simp [intOf]; omega
        · rw [if_neg h0] at hset
          have HF := hfail ak hset h0
          have c0 : (ak == 0) = false := beq_eq_false_iff_ne.2 h0
          clear hfail hsets hse hset h0
          generalize o.isSome = si at *
          go_wp2_with fail
          refine (hst _ hrow1).out.mono ?_
          rintro e w6 ⟨rfl, hb6⟩
          have k46 := kept k4 hb6
          have k56 := kept k5 hb6
          have hb06 := below_chain hbw hb6
          have hrow6 := hrow1.below hb6
          clear hst k4 k5 hb6 hbw hrow1 h1 h2
          go_wp2_with fail
          refine (hak _).out.mono ?_
          rintro e w7 ⟨rfl, rfl⟩
          clear hak
          go_wp2
          go_roundw
          case rel => exact ⟨k + 1, L, ak, D, d, by omega, by go_num, rfl, rfl, hrow6, HF, hb06⟩
          case measure => simp [intOf]; omega
      · exact absurd ((HS.out.bad hq).symm.trans HR.out) hq
    · obtain rfl : k = c.length := by omega
      obtain rfl : q = 0 := Classical.byContradiction fun hq => hq ((HS.out.bad hq).symm.trans HR.out)
      obtain rfl : X = L := by rw [← HX.out, HS.out.ends]
      clear HS hlt
      go_wp2_with fail
      refine (hQ _ _ _ _ _ (hX5.below hbl) hrow).out.mono ?_
      rintro e w19 ⟨rfl, m19, hw19⟩
      have hb19 : Below wr.heap.size wr w19 := by rw [hw19]; exact below_of_drewN _ _ _
      have hb019 := below_chain hb0r hb19
      have hbl19 := below_chain hbl hb19
      clear hQ hw19 hb19 hX5
      go_wp2_with fail
      refine (hFb _ (hB.below hb019)).out.mono ?_
      rintro e w20 ⟨rfl, hb20⟩
      have hb020 := below_chain hb019 hb20
      have hr120 := (hr15.below hbl19).below hb20
      have hr220 := (hr25.below hbl19).below hb20
      clear hFb hb20
      go_wp2_with fail
      refine (hLk _ (hA.below hb020) (hB.below hb020)).out.mono ?_
      rintro e w21 ⟨D21, d21, rfl, hr21, hb21⟩
      have hb021 := below_chain hb020 hb21
      have hr121 := hr120.below hb21
      have hr221 := hr220.below hb21
      clear hLk hb21 hb020 hr120 hr220
      go_wp2_with fail
      refine (hDf _ (hA.below hb021) (hB.below hb021)).out.mono ?_
      rintro e w22 ⟨D22, d22, rfl, hr22, hb22⟩
      have hb022 := below_chain hb021 hb22
      have hr122 := hr121.below hb22
      have hr222 := hr221.below hb22
      have hr2122 := hr21.below hb22
      clear hDf hb22 hb021 hr121 hr221 hr21
      go_wp2_with fail
      refine (hE1 _ _ _ _ _ hr122 hr22).out.mono ?_
      rintro e w23 ⟨rfl, m23, hw23⟩
      have hb23 : Below w22.heap.size w22 w23 := by rw [hw23]; exact below_of_drewN _ _ _
      have hb023 := below_chain hb022 hb23
      have hr223 := hr222.below hb23
      have hr2123 := hr2122.below hb23
      clear hE1 hw23 hb23 hb022 hr122 hr22 hr222 hr2122
      go_wp2_with fail
      refine (hE2 _ _ _ _ _ hr223 hr2123).out.mono ?_
      rintro e w24 ⟨rfl, m24, hw24⟩
      have hb024 : Below w.heap.size w w24 := by rw [hw24]; exact below_drewN hb023 _
      clear hE2 hw24 hb023 hr223 hr2123
      go_wp2
      go_ret
      exact ⟨rfl, hb024⟩

theorem changeTells_walk (A B C : Option Addr) (ca cb cc : Nat) (a b c : List Ent) (w : World) (hma : a.length ≤ maxLen) (hea : ∀ x ∈ a, x.1.length ≤ maxLen ∧ x.2.length ≤ maxLen) (hmb : b.length ≤ maxLen) (heb : ∀ x ∈ b, x.1.length ≤ maxLen ∧ x.2.length ≤ maxLen) (hmc : c.length ≤ maxLen) (hec : ∀ x ∈ c, x.1.length ≤ maxLen ∧ x.2.length ≤ maxLen)
    (hsz : a.length * 32 ≤ 140737488351232) (hA : Row w A (encells a)) (hB : Row w B (encells b)) (hC : Row w C (encells c)) :
    Calls Try.prog 3 #[.slice A a.length ca, .slice B b.length cb, .slice C c.length cc] w fun e w' => e = .returned (.bool true) ∧ Below w.heap.size w w' := by
  by_cases hf : fault a = 0
  · by_cases hr : (applyRes a c).2 = 0
    · by_cases hfb : fault b = 0
      · exact ct_bc A B C ca cb cc a b c w hma hea hmb heb hmc hec hsz hA hB hC hf hr hfb
      · exact ct_bb A B C ca cb cc a b c w hma hea hmb heb hmc hec hsz hA hB hC hf hr hfb
    · by_cases hfb : fault b = 0
      · exact ct_ac A B C ca cb cc a b c w hma hea hmb heb hmc hec hsz hA hB hC hf hr hfb
      · exact ct_ab A B C ca cb cc a b c w hma hea hmb heb hmc hec hsz hA hB hC hf hr hfb
  · exact ct_a A B C ca cb cc a b c w hma hea hmb heb hmc hec hsz hA hB hC hf
theorem short_of_bytes {a : Nat} (h : a * 32 ≤ 140737488351232) : a ≤ maxLen := by unfold maxLen; omega
set_option maxRecDepth 100000 in
theorem changeTells_lifted (os : Os) (started : os.Started) (H : Type) (enc : TypeId × Value → H) :
    ReturnsInHanded {} Try.checked os 3 .any (Rows.changeTellsSpec.pre6 enc Try.prog Try.f3 Rows.changeTellsRow.domain false) (Rows.changeTellsSpec.post enc Try.prog Try.f3 false true false false) := by
  refine returnsInHanded_of_change_sized (C := Try.checked) own started (by kernel_rfl) Try.func3
    (ChangeSpec.witness6 (enc := enc) (C := Try.checked) false ⟨#[], #[.slice none 0 0, .slice none 0 0, .slice none 0 0], []⟩ 8 (by kernel_rfl) (by kernel_rfl) (by kernel_rfl) (by kernel_rfl)) ?_
  intro W base args ds gs before hval0 hW hcnd hsz _
  have hval : ∀ (j : Nat) t v, Try.f3.params[j]? = some t → args[j]? = some v → Value.okWide Try.prog W .any base t v := hval0
  have hW' := hW
  obtain ⟨p, q, hA0, hV, rfl, hfz, hnd⟩ := hW
  have hA : DataW.TrodAll enc Try.prog W 0 (fun _ => true) true Try.f3.params.toList args.toList ds p := hA0
  rw [Try.params3] at hA hval
  obtain ⟨v0, vs0, d0, ds0, p0, q0, hargs, rfl, rfl, h0, r0⟩ := trodAll_cons hA
  obtain ⟨v1, vs1, d1, ds1, p1, q1, rfl, rfl, rfl, h1, r1⟩ := trodAll_cons r0
  obtain ⟨v2, vs2, d2, ds2, p2, q2, rfl, rfl, rfl, h2, r2⟩ := trodAll_cons r1
  obtain ⟨rfl, rfl, rfl⟩ := trodAll_nil r2
  obtain rfl : args = #[v0, v1, v2] := by cases args; simp_all
  obtain ⟨rfl, rfl⟩ := trodVars_none hV
  rw [Try.params3] at hsz
  obtain ⟨A0, c0, s0, rfl, hm0, hr0, hs0, hc0⟩ := arg_ents_sized (j := 0) hsz rfl rfl (hval 0 22 v0 rfl rfl) h0
  obtain ⟨A1, c1, s1, rfl, hm1, hr1, hs1, hc1, -⟩ := arg_ents (hval 1 22 v1 rfl rfl) h1
  obtain ⟨A2, c2, s2, rfl, hm2, hr2, hs2, hc2, -⟩ := arg_ents (hval 2 22 v2 rfl rfl) h2
  refine (changeTells_walk A0 A1 A2 c0 c1 c2 s0 s1 s2 _ (short_of_bytes hm0) hs0 hm1 hs1 hm2 hs2 hm0 hr0 hr1 hr2).mono fun e W' ⟨he, hb⟩ => ?_
  subst he
  exact ⟨_, rfl, post_law laidOut (by decide +kernel) rfl Try.underlying4 (by kernel_rfl) hW' rfl hb⟩

/-- The statement. -/
theorem changeTells_said : Rows.ChangeTellsSaid :=
  OpenClaim.holds_of_wide 3 Try.f3 rfl rfl rfl rfl rfl rfl rfl ⟨rfl, rfl, rfl, rfl, rfl⟩ rfl rfl rfl rfl rfl (by kernel_rfl) Try.func3 (by kernel_rfl)
    (of_decide_eq_true (by kernel_rfl)) (by unfold Func.isWrapper; first | (rw [if_pos (by decide +kernel)]; kernel_rfl) | (rw [if_neg (by decide +kernel)]; exact ⟨rfl, rfl⟩))
    (fun os started H enc _ => changeTells_lifted os started H enc)
#print axioms changeTells_said
end Go.Proofs.Ytmmmolbejfdamaa
