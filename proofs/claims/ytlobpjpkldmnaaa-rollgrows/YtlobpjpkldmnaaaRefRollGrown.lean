/- The reference: RollGrown verifies a consistency proof. -/
import Derived.Test.YtlobpjpkldmnaaaRefGrowth
import Derived.Test.YtlobpjpkldmnaaaRefRollMade
import Derived.Test.YtlobpjpkldmnaaaRollVerify
namespace Go.Proofs.Ytlobpjpkldmnaaa
set_option maxRecDepth 100000
open Go.RowKit

/-- What the first k hashes make of the old strings. -/
def moTo (h : Nat) (s : List Bool) (p : List Nat) (k : Nat) : Nat := ((s.reverse.zip p).take k).foldl (fun h z => if z.1 then h else two false h z.2) h
theorem moTo_zero (h : Nat) (s : List Bool) (p : List Nat) : moTo h s p 0 = h := rfl
theorem moTo_all (h : Nat) (s : List Bool) (p : List Nat) (k : Nat) (hk : p.length ≤ k) : moTo h s p k = mo h s p := by
  unfold moTo mo
  rw [List.take_of_length_le (by simp; omega)]
theorem moTo_succ (h : Nat) (s : List Bool) (p : List Nat) (k : Nat) (hl : s.length = p.length) (hk : k < p.length) (b : Bool) (hb : s[s.length - 1 - k]? = some b) : moTo h s p (k + 1) = if b then moTo h s p k else two false (moTo h s p k) p[k] := by
  have hb' := rev_at s k (by omega) b hb
  obtain ⟨hk', e⟩ := List.getElem?_eq_some_iff.1 hb'
  unfold moTo
  rw [List.take_succ_eq_append_getElem (by simp; omega), List.foldl_append, List.getElem_zip, e]
  rfl
theorem moTo_lt (h : Nat) (s : List Bool) (p : List Nat) (k : Nat) (hh : h < 18446744073709551616) : moTo h s p k < 18446744073709551616 := by
  unfold moTo
  generalize (s.reverse.zip p).take k = l
  induction l generalizing h with
  | nil => exact hh
  | cons z l ih =>
    refine ih _ ?_
    show (if z.1 then h else _) < _
    split
    · exact hh
    · exact Nat.lt_trans (two_lt _ _ _) (by decide)
theorem turns_part (n m : Nat) (h : (turns n m).all id = false) : 0 < (turns n m).length := by
  rcases hs : turns n m with _ | ⟨b, s⟩
  · rw [hs] at h; simp at h
  · simp

set_option maxHeartbeats 4000000 in
theorem refGrown_whole (a b n m : Nat) (p : List Nat) (B : Option Addr) (c : Nat) (w : World) (h1 : 1 ≤ m) (h40 : n ≤ 40) (hmn : m ≤ n) (ho : a < 18446744073709551616) (hm : p.length ≤ maxLen) (hp : ∀ z ∈ p, z < 18446744073709551616) (hB : Row w B (mcells p)) (hu : (turns n m).all id = true)
    (r : Bool) (hr : (p.length == (turns n m).length && (mo a (turns n m) p == a && mk a (turns n m) p == b)) = r) :
    Calls Try.prog 19 #[.int .u64 (a : Int), .int .i64 (m : Int), .int .u64 (b : Int), .int .i64 (n : Int), .slice B p.length c] w fun e w' => e = .returned (.bool r) ∧ Below w.heap.size w w' := by
  unfold maxLen at hm
  have hGr := fun w => Lib.hid (refGrowth n m w h1 h40 hmn)
  have hsl := turns_length n m h1
  generalize turns n m = s at *
  have HR := Lib.hid hr
  have HP := Lib.hid hp
  have HU := Lib.hid hu
  obtain ⟨o, ho'⟩ : ∃ o, a = o := ⟨_, rfl⟩
  have HR : Hid ((p.length == s.length && (mo o s p == a && mk o s p == b)) = r) := by rw [← ho']; exact HR
  rw [ho'] at ho
  have HO := Lib.hid ho'
  clear hr hp hu h1 ho'
  go_enter Try.func19, Try.ntmps19
  go_wp2_with fail
  refine (hGr _).out.mono ?_
  rintro e w2 ⟨E, ec, rfl, hE2, hb02⟩
  rw [HU.out]
  have hB2 := hB.below hb02
  clear hGr hB HU
  by_cases hlen : p.length = s.length
  · have cl : ((p.length : Int) != (s.length : Int)) = false := by simp [hlen]
    have HFIN : Hid (r = (mo o s p == a && mk o s p == b)) := by
      show r = _
      rw [← HR.out, hlen]
      simp
    have hT := fun (k : Nat) (hk : k < p.length) => (fun (w : World) => Lib.hid (refTwo 5 (mkTo o s p k) p[k] w (mkTo_lt _ _ _ _ ho) (HP.out _ (List.getElem_mem hk))))
    have hF := fun (k : Nat) (hk : k < p.length) => (fun (w : World) => Lib.hid (refTwo 5 p[k] (mkTo o s p k) w (HP.out _ (List.getElem_mem hk)) (mkTo_lt _ _ _ _ ho)))
    have hG := fun (k : Nat) (hk : k < p.length) => (fun (w : World) => Lib.hid (refTwo 5 p[k] (moTo o s p k) w (HP.out _ (List.getElem_mem hk)) (moTo_lt _ _ _ _ ho)))
    rw [show ((5 : UInt8).toNat : Int) = 5 from rfl] at hT hF hG
    have HN1 := fun (k : Nat) (hk : k < p.length) b hb => Lib.hid (mkTo_succ o s p k hlen.symm hk b hb)
    have HN2 := fun (k : Nat) (hk : k < p.length) b hb => Lib.hid (moTo_succ o s p k hlen.symm hk b hb)
    have HD1 := fun (k : Nat) (hk : p.length ≤ k) => Lib.hid (mkTo_all o s p k hk)
    have HD2 := fun (k : Nat) (hk : p.length ≤ k) => Lib.hid (moTo_all o s p k hk)
    have HM0 : Hid (o = mkTo o s p 0) := rfl
    have HM1 : Hid (o = moTo o s p 0) := rfl
    have HLEN := Lib.hid hlen
    have hpl : p.length ≤ 40 := by omega
    clear HR hlen
    go_wp2
    go_loopw [13, 14, 45] (fun xv yv iv wz => ∃ (k x y : Nat), k ≤ p.length ∧ iv = .int .i64 (k : Int) ∧ xv = .int .u64 (x : Int) ∧ yv = .int .u64 (y : Int) ∧ Hid (x = moTo o s p k) ∧ Hid (y = mkTo o s p k) ∧ Below w2.heap.size w2 wz) (fun _ _ iv _ => p.length - (intOf iv).toNat)
    case atStart => exact ⟨0, o, o, Nat.zero_le _, rfl, by rw [HO.out], by rw [HO.out], HM1, HM0, Below.refl _ _⟩
    case round =>
      obtain ⟨k, x, y, hkl, rfl, rfl, rfl, HX, HY, hbz⟩ := hrel
      by_cases hlt : k < p.length
      · obtain ⟨g, off, hBa, j1⟩ := (hB2.below hbz).mark k hlt
        have hjl : s.length - 1 - k < s.length := by have := HLEN.out; omega
        obtain ⟨q, hq⟩ : ∃ q, s[s.length - 1 - k]? = some q := ⟨_, List.getElem?_eq_getElem hjl⟩
        obtain ⟨g', off', hEa, j2⟩ := (hE2.below hbz).truth _ q hq
        have HS1 := HN1 k hlt q hq
        have HS2 := HN2 k hlt q hq
        have hTk := hT k hlt
        have hFk := hF k hlt
        have hGk := hG k hlt
        have hMT := fun (t : Bytes) (ht : t.length ≤ 100) w => Lib.hid (refMark t w (by unfold maxLen; omega))
        rw [← HY.out] at HS1 hTk hFk
        rw [← HX.out] at HS2 hGk
        generalize p[k] = z at *
        subst hBa
        subst hEa
        clear hT hF hG HN1 HN2 HD1 HD2 HX HY HM0 HM1 hq hB2 hE2 HP HFIN
        have i0 : (0 : Int) ≤ (k : Int) := by omega
        have i1 : (k : Int) < (p.length : Int) := by omega
        have e1 : (s.length : Int) - 1 - (k : Int) = ((s.length - 1 - k : Nat) : Int) := by have := HLEN.out; omega
        have hs40 : s.length ≤ 40 := by have := HLEN.out; omega
        generalize s.length - 1 - k = j at *
        have hwl : IntKind.i64.wrap ((s.length : Int) - 1) = (s.length : Int) - 1 := by rw [IntKind.wrap_i64]; omega
        have hwj : IntKind.i64.wrap (j : Int) = (j : Int) := by rw [IntKind.wrap_i64]; omega
        have i2 : (0 : Int) ≤ (j : Int) := by omega
        have i3 : (j : Int) < (s.length : Int) := by omega
        cases q with
        | true =>
          have hl : (said 5 y z).length ≤ 100 := by unfold said; simp [be8_length]
          have hM1 := hMT _ hl
          have HS3 : Hid (mkTo o s p (k + 1) = Hash.of (said 5 y z)) := HS1.out
          have HS4 : Hid (moTo o s p (k + 1) = x) := HS2.out
          clear HS1 HS2 hFk hGk hMT hl
          generalize said 5 y z = u at *
          go_wp2_with fail
          refine (hTk _).out.mono ?_
          rintro e w3 ⟨rfl, hb3⟩
          clear hTk
          go_wp2_with fail
          refine (hM1 _).out.mono ?_
          rintro e w4 ⟨rfl, hw⟩
          subst hw
          clear hM1
          go_wp2
          go_roundw
          case rel => exact ⟨k + 1, x, Hash.of u, by omega, by go_num, rfl, rfl, HS4.out.symm, HS3.out.symm, below_chain hbz hb3⟩
          case measure => simp [intOf]; omega
        | false =>
          have hl1 : (said 5 z y).length ≤ 100 := by unfold said; simp [be8_length]
          have hl2 : (said 5 z x).length ≤ 100 := by unfold said; simp [be8_length]
          have hM1 := hMT _ hl1
          have hM2 := hMT _ hl2
          have HS3 : Hid (mkTo o s p (k + 1) = Hash.of (said 5 z y)) := HS1.out
          have HS4 : Hid (moTo o s p (k + 1) = Hash.of (said 5 z x)) := HS2.out
          clear HS1 HS2 hTk hMT hl1 hl2
          obtain ⟨u, hu⟩ : ∃ u, said 5 z y = u := ⟨_, rfl⟩
          obtain ⟨v, hv⟩ : ∃ v, said 5 z x = v := ⟨_, rfl⟩
          rw [hu] at hM1 hFk HS3
          rw [hv] at hM2 hGk HS4
          clear hu hv
          go_wp2_with fail
          refine (hGk _).out.mono ?_
          rintro e w3 ⟨rfl, hb3⟩
          clear hGk
          go_wp2_with fail
          refine (hM2 _).out.mono ?_
          rintro e w4 ⟨rfl, hw⟩
          subst hw
          clear hM2
          go_wp2_with fail
          refine (hFk _).out.mono ?_
          rintro e w5 ⟨rfl, hb5⟩
          clear hFk
          go_wp2_with fail
          refine (hM1 _).out.mono ?_
          rintro e w6 ⟨rfl, hw⟩
          subst hw
          clear hM1
          go_wp2
          go_roundw
          case rel => exact ⟨k + 1, Hash.of v, Hash.of u, by omega, by go_num, rfl, rfl, HS4.out.symm, HS3.out.symm, below_chain hbz (below_chain hb3 hb5)⟩
          case measure => simp [intOf]; omega
      · have HF : Hid (r = (x == a && y == b)) := by
          show r = _
          rw [HFIN.out, HX.out, HY.out, (HD1 k (by omega)).out, (HD2 k (by omega)).out]
        have c1 : ¬ k < p.length := hlt
        clear hT hF hG HN1 HN2 HD1 HD2 HX HY HM0 HM1 hB2 hE2 HP HFIN
        by_cases hxa : x = a
        · have c5 : ((x : Int) == (a : Int)) = true := beq_iff_eq.2 (by omega)
          have HY : Hid (((y : Int) == (b : Int)) = (y == b)) := by
            show ((y : Int) == (b : Int)) = (y == b)
            rw [Bool.eq_iff_iff, beq_iff_eq, beq_iff_eq]
            omega
          have HF' : Hid (r = (y == b)) := by
            show r = _
            rw [HF.out, hxa]
            simp
          clear hxa HF
          go_wp2
          go_ret
          exact ⟨by rw [HF'.out, ← HY.out]; rfl, below_chain hb02 hbz⟩
        · have c5 : ((x : Int) == (a : Int)) = false := beq_eq_false_iff_ne.2 (by omega)
          have HF' : Hid (r = false) := by
            show r = _
            rw [HF.out, beq_eq_false_iff_ne.2 hxa]
            rfl
          clear hxa HF
          go_wp2
          go_ret
          exact ⟨by rw [HF'.out]; rfl, below_chain hb02 hbz⟩
  · have cl : ((p.length : Int) != (s.length : Int)) = true := by simp; omega
    have HFIN : Hid (r = false) := by
      show r = _
      rw [← HR.out, beq_eq_false_iff_ne.2 hlen]
      rfl
    clear HR hlen hB2 hE2 HP
    go_wp2
    go_ret
    exact ⟨by rw [HFIN.out]; rfl, hb02⟩

set_option maxHeartbeats 1000000 in
theorem refGrown_none (a b n m : Nat) (B : Option Addr) (c : Nat) (w : World) (h1 : 1 ≤ m) (h40 : n ≤ 40) (hmn : m ≤ n) (hu : (turns n m).all id = false) :
    Calls Try.prog 19 #[.int .u64 (a : Int), .int .i64 (m : Int), .int .u64 (b : Int), .int .i64 (n : Int), .slice B 0 c] w fun e w' => e = .returned (.bool false) ∧ Below w.heap.size w w' := by
  have hGr := fun w => Lib.hid (refGrowth n m w h1 h40 hmn)
  generalize turns n m = s at *
  have HU := Lib.hid hu
  clear hu h1
  go_enter Try.func19, Try.ntmps19
  go_wp2_with fail
  refine (hGr _).out.mono ?_
  rintro e w2 ⟨E, ec, rfl, hE2, hb02⟩
  rw [HU.out]
  clear hGr HU hE2
  go_wp2
  go_ret
  exact ⟨rfl, hb02⟩
set_option maxHeartbeats 1000000 in
theorem refGrown_one (a b n m o : Nat) (B : Option Addr) (w : World) (h1 : 1 ≤ m) (h40 : n ≤ 40) (hmn : m ≤ n) (hB : Row w B (mcells [o])) (hu : (turns n m).all id = false) :
    Calls Try.prog 19 #[.int .u64 (a : Int), .int .i64 (m : Int), .int .u64 (b : Int), .int .i64 (n : Int), .slice B 1 1] w fun e w' => e = .returned (.bool false) ∧ Below w.heap.size w w' := by
  have hGr := fun w => Lib.hid (refGrowth n m w h1 h40 hmn)
  have hpos := turns_part n m hu
  have hsl := turns_length n m h1
  generalize turns n m = s at *
  have HU := Lib.hid hu
  clear hu h1
  have cl : ((0 : Int) != (s.length : Int)) = true := by simp; omega
  go_enter Try.func19, Try.ntmps19
  go_wp2_with fail
  refine (hGr _).out.mono ?_
  rintro e w2 ⟨E, ec, rfl, hE2, hb02⟩
  rw [HU.out]
  obtain ⟨g, off, hBa, j1⟩ := (hB.below hb02).mark 0 (by simp)
  subst hBa
  simp only [Nat.add_zero, List.getElem_cons_zero] at j1
  clear hGr HU hE2 hB
  go_wp2
  go_quiet (fail)
  go_wp2
  go_ret
  exact ⟨rfl, below_drewN hb02 _⟩

set_option maxHeartbeats 4000000 in
theorem refGrown_part (a b n m o : Nat) (p : List Nat) (B : Option Addr) (c : Nat) (w : World) (h1 : 1 ≤ m) (h40 : n ≤ 40) (hmn : m ≤ n) (ho : o < 18446744073709551616) (hm : p.length + 1 ≤ maxLen) (hc : p.length ≤ c + 1) (hp : ∀ z ∈ p, z < 18446744073709551616) (hB : Row w B (mcells (o :: p))) (hu : (turns n m).all id = false)
    (r : Bool) (hr : (p.length == (turns n m).length && (mo o (turns n m) p == a && mk o (turns n m) p == b)) = r) :
    Calls Try.prog 19 #[.int .u64 (a : Int), .int .i64 (m : Int), .int .u64 (b : Int), .int .i64 (n : Int), .slice B (p.length + 1) (c + 1 + 1)] w fun e w' => e = .returned (.bool r) ∧ Below w.heap.size w w' := by
  unfold maxLen at hm
  have hGr := fun w => Lib.hid (refGrowth n m w h1 h40 hmn)
  have hsl := turns_length n m h1
  generalize turns n m = s at *
  have HR := Lib.hid hr
  have HP := Lib.hid hp
  have HU := Lib.hid hu
  clear hr hp hu h1
  have i5 : (1 : Int) ≤ (p.length : Int) + 1 := by omega
  have c0 : ((p.length : Int) + 1 == 0) = false := beq_eq_false_iff_ne.2 (by omega)
  have i6 : (0 : Int) < (p.length : Int) + 1 := by omega
  have i7 : (p.length : Int) + 1 ≤ (c : Int) + 1 + 1 := by omega
  go_enter Try.func19, Try.ntmps19
  go_wp2_with fail
  refine (hGr _).out.mono ?_
  rintro e w2 ⟨E, ec, rfl, hE2, hb02⟩
  rw [HU.out]
  obtain ⟨g, off, hBa, j1⟩ := (hB.below hb02).mark 0 (by simp)
  subst hBa
  simp only [Nat.add_zero, List.getElem_cons_zero] at j1
  have hB2 : Row w2 (some ⟨g, off + 1, none⟩) (mcells p) := by
    have := (hB.below hb02).drop 1
    rwa [show (mcells (o :: p)).drop 1 = mcells p from rfl, Option.map_some, Go.WideShapes.add_plain] at this
  clear hGr HU hB
  by_cases hlen : p.length = s.length
  · have cl : ((p.length : Int) != (s.length : Int)) = false := by simp [hlen]
    have HFIN : Hid (r = (mo o s p == a && mk o s p == b)) := by
      show r = _
      rw [← HR.out, hlen]
      simp
    have hT := fun (k : Nat) (hk : k < p.length) => (fun (w : World) => Lib.hid (refTwo 5 (mkTo o s p k) p[k] w (mkTo_lt _ _ _ _ ho) (HP.out _ (List.getElem_mem hk))))
    have hF := fun (k : Nat) (hk : k < p.length) => (fun (w : World) => Lib.hid (refTwo 5 p[k] (mkTo o s p k) w (HP.out _ (List.getElem_mem hk)) (mkTo_lt _ _ _ _ ho)))
    have hG := fun (k : Nat) (hk : k < p.length) => (fun (w : World) => Lib.hid (refTwo 5 p[k] (moTo o s p k) w (HP.out _ (List.getElem_mem hk)) (moTo_lt _ _ _ _ ho)))
    rw [show ((5 : UInt8).toNat : Int) = 5 from rfl] at hT hF hG
    have HN1 := fun (k : Nat) (hk : k < p.length) b hb => Lib.hid (mkTo_succ o s p k hlen.symm hk b hb)
    have HN2 := fun (k : Nat) (hk : k < p.length) b hb => Lib.hid (moTo_succ o s p k hlen.symm hk b hb)
    have HD1 := fun (k : Nat) (hk : p.length ≤ k) => Lib.hid (mkTo_all o s p k hk)
    have HD2 := fun (k : Nat) (hk : p.length ≤ k) => Lib.hid (moTo_all o s p k hk)
    have HM0 : Hid (o = mkTo o s p 0) := rfl
    have HM1 : Hid (o = moTo o s p 0) := rfl
    have HLEN := Lib.hid hlen
    have hpl : p.length ≤ 40 := by omega
    clear HR hlen
    go_wp2
    go_quiet (fail)
    go_wp2
    go_loopw [13, 14, 45] (fun xv yv iv wz => ∃ (k x y : Nat), k ≤ p.length ∧ iv = .int .i64 (k : Int) ∧ xv = .int .u64 (x : Int) ∧ yv = .int .u64 (y : Int) ∧ Hid (x = moTo o s p k) ∧ Hid (y = mkTo o s p k) ∧ Below w2.heap.size w2 wz) (fun _ _ iv _ => p.length - (intOf iv).toNat)
    case atStart => exact ⟨0, o, o, Nat.zero_le _, rfl, rfl, rfl, HM1, HM0, below_of_drewN _ _ _⟩
    case round =>
      obtain ⟨k, x, y, hkl, rfl, rfl, rfl, HX, HY, hbz⟩ := hrel
      by_cases hlt : k < p.length
      · obtain ⟨gx, offx, hBa, j3⟩ := (hB2.below hbz).mark k hlt
        have hjl : s.length - 1 - k < s.length := by have := HLEN.out; omega
        obtain ⟨q, hq⟩ : ∃ q, s[s.length - 1 - k]? = some q := ⟨_, List.getElem?_eq_getElem hjl⟩
        obtain ⟨g', off', hEa, j2⟩ := (hE2.below hbz).truth _ q hq
        have HS1 := HN1 k hlt q hq
        have HS2 := HN2 k hlt q hq
        have hTk := hT k hlt
        have hFk := hF k hlt
        have hGk := hG k hlt
        have hMT := fun (t : Bytes) (ht : t.length ≤ 100) w => Lib.hid (refMark t w (by unfold maxLen; omega))
        rw [← HY.out] at HS1 hTk hFk
        rw [← HX.out] at HS2 hGk
        generalize p[k] = z at *
        obtain ⟨rfl, rfl⟩ : g = _ ∧ off + 1 = _ := by injection hBa with h; injection h with h1 h2 _; exact ⟨h1, h2⟩
        subst hEa
        clear hT hF hG HN1 HN2 HD1 HD2 HX HY HM0 HM1 hq hB2 hE2 HP HFIN
        have i0 : (0 : Int) ≤ (k : Int) := by omega
        have i1 : (k : Int) < (p.length : Int) := by omega
        have e1 : (s.length : Int) - 1 - (k : Int) = ((s.length - 1 - k : Nat) : Int) := by have := HLEN.out; omega
        have hs40 : s.length ≤ 40 := by have := HLEN.out; omega
        generalize s.length - 1 - k = j at *
        have hwl : IntKind.i64.wrap ((s.length : Int) - 1) = (s.length : Int) - 1 := by rw [IntKind.wrap_i64]; omega
        have hwj : IntKind.i64.wrap (j : Int) = (j : Int) := by rw [IntKind.wrap_i64]; omega
        have i2 : (0 : Int) ≤ (j : Int) := by omega
        have i3 : (j : Int) < (s.length : Int) := by omega
        cases q with
        | true =>
          have hl : (said 5 y z).length ≤ 100 := by unfold said; simp [be8_length]
          have hM1 := hMT _ hl
          have HS3 : Hid (mkTo o s p (k + 1) = Hash.of (said 5 y z)) := HS1.out
          have HS4 : Hid (moTo o s p (k + 1) = x) := HS2.out
          clear HS1 HS2 hFk hGk hMT hl
          generalize said 5 y z = u at *
          go_wp2_with fail
          refine (hTk _).out.mono ?_
          rintro e w3 ⟨rfl, hb3⟩
          clear hTk
          go_wp2_with fail
          refine (hM1 _).out.mono ?_
          rintro e w4 ⟨rfl, hw⟩
          subst hw
          clear hM1
          go_wp2
          go_roundw
          case rel => exact ⟨k + 1, x, Hash.of u, by omega, by go_num, rfl, rfl, HS4.out.symm, HS3.out.symm, below_chain hbz hb3⟩
          case measure => simp [intOf]; omega
        | false =>
          have hl1 : (said 5 z y).length ≤ 100 := by unfold said; simp [be8_length]
          have hl2 : (said 5 z x).length ≤ 100 := by unfold said; simp [be8_length]
          have hM1 := hMT _ hl1
          have hM2 := hMT _ hl2
          have HS3 : Hid (mkTo o s p (k + 1) = Hash.of (said 5 z y)) := HS1.out
          have HS4 : Hid (moTo o s p (k + 1) = Hash.of (said 5 z x)) := HS2.out
          clear HS1 HS2 hTk hMT hl1 hl2
          obtain ⟨u, hu⟩ : ∃ u, said 5 z y = u := ⟨_, rfl⟩
          obtain ⟨v, hv⟩ : ∃ v, said 5 z x = v := ⟨_, rfl⟩
          rw [hu] at hM1 hFk HS3
          rw [hv] at hM2 hGk HS4
          clear hu hv
          go_wp2_with fail
          refine (hGk _).out.mono ?_
          rintro e w3 ⟨rfl, hb3⟩
          clear hGk
          go_wp2_with fail
          refine (hM2 _).out.mono ?_
          rintro e w4 ⟨rfl, hw⟩
          subst hw
          clear hM2
          go_wp2_with fail
          refine (hFk _).out.mono ?_
          rintro e w5 ⟨rfl, hb5⟩
          clear hFk
          go_wp2_with fail
          refine (hM1 _).out.mono ?_
          rintro e w6 ⟨rfl, hw⟩
          subst hw
          clear hM1
          go_wp2
          go_roundw
          case rel => exact ⟨k + 1, Hash.of v, Hash.of u, by omega, by go_num, rfl, rfl, HS4.out.symm, HS3.out.symm, below_chain hbz (below_chain hb3 hb5)⟩
          case measure => simp [intOf]; omega
      · have HF : Hid (r = (x == a && y == b)) := by
          show r = _
          rw [HFIN.out, HX.out, HY.out, (HD1 k (by omega)).out, (HD2 k (by omega)).out]
        have c1 : ¬ k < p.length := hlt
        clear hT hF hG HN1 HN2 HD1 HD2 HX HY HM0 HM1 hB2 hE2 HP HFIN
        by_cases hxa : x = a
        · have c5 : ((x : Int) == (a : Int)) = true := beq_iff_eq.2 (by omega)
          have HY : Hid (((y : Int) == (b : Int)) = (y == b)) := by
            show ((y : Int) == (b : Int)) = (y == b)
            rw [Bool.eq_iff_iff, beq_iff_eq, beq_iff_eq]
            omega
          have HF' : Hid (r = (y == b)) := by
            show r = _
            rw [HF.out, hxa]
            simp
          clear hxa HF
          go_wp2
          go_ret
          exact ⟨by rw [HF'.out, ← HY.out]; rfl, below_chain hb02 hbz⟩
        · have c5 : ((x : Int) == (a : Int)) = false := beq_eq_false_iff_ne.2 (by omega)
          have HF' : Hid (r = false) := by
            show r = _
            rw [HF.out, beq_eq_false_iff_ne.2 hxa]
            rfl
          clear hxa HF
          go_wp2
          go_ret
          exact ⟨by rw [HF'.out]; rfl, below_chain hb02 hbz⟩
  · have cl : ((p.length : Int) != (s.length : Int)) = true := by simp; omega
    have HFIN : Hid (r = false) := by
      show r = _
      rw [← HR.out, beq_eq_false_iff_ne.2 hlen]
      rfl
    clear HR hlen hB2 hE2 HP
    go_wp2
    go_quiet (fail)
    go_wp2
    go_ret
    exact ⟨by rw [HFIN.out]; rfl, below_drewN hb02 _⟩

theorem refRollGrown (a b n m : Nat) (p : List Nat) (B : Option Addr) (c : Nat) (w : World) (h1 : 1 ≤ m) (h40 : n ≤ 40) (hmn : m ≤ n) (ha : a < 18446744073709551616) (hm : p.length ≤ maxLen) (hc : p.length ≤ c) (hp : ∀ z ∈ p, z < 18446744073709551616) (hB : Row w B (mcells p))
    (r : Bool) (hr : isgAns a m b n p = r) :
    Calls Try.prog 19 #[.int .u64 (a : Int), .int .i64 (m : Int), .int .u64 (b : Int), .int .i64 (n : Int), .slice B p.length c] w fun e w' => e = .returned (.bool r) ∧ Below w.heap.size w w' := by
  unfold isgAns gfits gold gnew core body at hr
  rw [Bool.true_and] at hr
  cases hu : (turns n m).all id with
  | true =>
    rw [hu] at hr
    simp only [if_true, Nat.add_zero] at hr
    exact refGrown_whole a b n m p B c w h1 h40 hmn ha hm hp hB hu r hr
  | false =>
    rw [hu] at hr
    simp only [Bool.false_eq_true, if_false] at hr
    rcases p with _ | ⟨o, p⟩
    · rw [List.length_nil] at *
      obtain rfl : false = r := by rw [← hr]; simp
      exact refGrown_none a b n m B c w h1 h40 hmn hu
    · rw [List.length_cons] at *
      rcases c with _ | c
      · omega
      · rcases c with _ | c
        · obtain rfl : p = [] := List.eq_nil_of_length_eq_zero (by omega)
          have := turns_part n m hu
          obtain rfl : false = r := by rw [← hr]; symm; rw [Bool.and_eq_false_iff]; left; rw [beq_eq_false_iff_ne, List.length_nil]; omega
          exact refGrown_one a b n m o B w h1 h40 hmn hB hu
        · refine refGrown_part a b n m o p B c w h1 h40 hmn (hp o (by simp)) hm (by omega) (fun z hz => hp z (List.mem_cons_of_mem _ hz)) hB hu r ?_
          rw [← hr]
          congr 1
          rw [Bool.eq_iff_iff, beq_iff_eq, beq_iff_eq]
          omega
end Go.Proofs.Ytlobpjpkldmnaaa
