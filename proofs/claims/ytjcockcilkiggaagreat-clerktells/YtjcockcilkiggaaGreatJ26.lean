/- package tree: hash returns the hash of a prefix, by the entries under it. It writes nothing that was there. -/
import Derived.Test.YtjcockcilkiggaaGreatJ22
import Derived.Test.YtjcockcilkiggaaGreatJ24
import Derived.Test.YtjcockcilkiggaaGreatJ25
namespace Go.Proofs.YtjcockcilkiggaaGreat
open Go.RowKit

theorem scells_take (ss : List Bytes) (p : Nat) : scells (ss.take p) = (scells ss).take p := by simp [scells]
theorem scells_drop (ss : List Bytes) (p : Nat) : scells (ss.drop p) = (scells ss).drop p := by simp [scells]
theorem pths_take (es : List Ent) (p : Nat) : pths (es.take p) = (pths es).take p := by simp [pths]
theorem pths_drop (es : List Ent) (p : Nat) : pths (es.drop p) = (pths es).drop p := by simp [pths]
theorem Row.takeP {w : World} {A : Option Addr} {es : List Ent} (h : Row w A (scells (pths es))) (p : Nat) : Row w A (scells (pths (es.take p))) := by rw [pths_take, scells_take]; exact h.take _
theorem Row.dropP {w : World} {A : Option Addr} {es : List Ent} (h : Row w A (scells (pths es))) (p : Nat) : Row w (A.map (·.add p)) (scells (pths (es.drop p))) := by rw [pths_drop, scells_drop]; exact h.drop _

theorem leafOf_small (es : List Ent) (hm : es.length ≤ 1000) (hes : ∀ x ∈ es, x.1.length + x.2.length ≤ 596) : (leafOf es).length ≤ maxLen := by
  have h : ∀ l : List Ent, (∀ x ∈ l, x.1.length + x.2.length ≤ 596) → (leafBytes l).length ≤ l.length * 600 := by
    intro l hl
    induction l with
    | nil => simp [leafBytes]
    | cons x l ih =>
      have := ih fun y hy => hl y (List.mem_cons_of_mem _ hy)
      have h1 := hl x List.mem_cons_self
      have e : leafBytes (x :: l) = Wire.enc [x.1, x.2] ++ leafBytes l := by simp [leafBytes]
      rw [e, List.length_append, Wire.enc_length, List.length_cons]
      simp only [Wire.encLen_cons, Wire.encLen_nil]
      omega
  have := h es hes
  unfold leafOf maxLen
  split
  · simp
  · rw [List.length_cons]; omega

theorem markOf_0 (w : World) : Calls Tryz.prog 82 #[.string ⟨#[0]⟩] w fun e w' => e = .returned (.int .u64 (nil0 : Int)) ∧ ∃ m, w' = w.drewN m := markOf [0] w (by show _ ≤ (2 : Nat) ^ 63 - 1; simp)

theorem markTwo2 (a b : Nat) (w : World) (ha : a < 18446744073709551616) (hb : b < 18446744073709551616) :
    Calls Tryz.prog 85 #[.int .u8 2, .int .u64 (a : Int), .int .u64 (b : Int)] w fun e w' => e = .returned (.int .u64 (Hash.of (said 2 a b) : Int)) ∧ Below w.heap.size w w' := markTwo 2 a b w ha hb

/-- The contract of hash at one prefix. -/
def HashAt (k : Nat) : Prop := ∀ (p : Bytes) (L : List Ent) (A B : Option Addr) (c d m : Nat) (N : Int) (w : World), p.length + k = 16 → N = (p.length : Int) → L.length = m → m ≤ 1000 → m ≤ c → m ≤ d →
  (∀ x ∈ L, x.1.length + x.2.length ≤ 596) → (∀ x ∈ L, begins p (Bin.of x.1) = true) → (L.map (·.1)).Pairwise Bin.R → Row w A (encells L) → Row w B (scells (pths L)) →
  ∀ x, prefMark L p = x → Calls Tryz.prog 68 #[.slice A m c, .slice B m d, .int .i64 N] w fun e w' => e = .returned (.int .u64 (x : Int)) ∧ Below w.heap.size w w'

theorem all16 (p : Bytes) (hp : p.length = 16) (L : List Ent) (hb : ∀ x ∈ L, begins p (Bin.of x.1) = true) : at16 L p = L := by
  unfold at16
  refine List.filter_eq_self.2 fun x hx => ?_
  have := hb x hx
  unfold begins at this
  rw [beq_iff_eq] at this
  rw [hp, ← Bin.of_length x.1, List.take_length] at this
  rw [beq_iff_eq]
  exact this

set_option maxRecDepth 100000 in
set_option maxHeartbeats 800000 in
theorem hash_nil (k : Nat) (p : Bytes) (A B : Option Addr) (c d : Nat) (N : Int) (w : World) (hp : p.length + k = 16) (x : Nat) (hx : prefMark [] p = x) :
    Calls Tryz.prog 68 #[.slice A 0 c, .slice B 0 d, .int .i64 N] w fun e w' => e = .returned (.int .u64 (x : Int)) ∧ Below w.heap.size w w' := by
  have hM := fun w => Lib.hid (markOf_0 w)
  have HX : Hid (x = nil0) := by
    show x = _
    rw [← hx, prefMark_none [] p (by omega) (fun y hy => by simp at hy)]
  clear hx hp
  generalize nil0 = z at *
  go_enter Tryz.func68, Tryz.ntmps68
  go_wp2_with fail
  refine (hM _).out.mono ?_
  rintro e w1 ⟨rfl, m1, rfl⟩
  go_wp2
  go_ret
  exact ⟨by rw [HX.out]; rfl, below_of_drewN _ _ _⟩

set_option maxRecDepth 100000 in
set_option maxHeartbeats 800000 in
theorem hash_0 : HashAt 0 := by
  intro p L A B c d m N w hp hN hm hml hc hd h5 hb ho hA hB x hx
  rcases Nat.eq_zero_or_pos m with h0 | h0
  · obtain rfl : L = [] := List.eq_nil_of_length_eq_zero (by omega)
    subst h0
    exact hash_nil 0 p A B c d N w hp x hx
  · have hM := fun w => Lib.hid (markOf_0 w)
    have hS := fun (w : World) hA => Lib.hid (treeSaid A c L w (by omega) h5 hA)
    have hO := fun w => Lib.hid (markOf (leafOf L) w (leafOf_small L (by omega) h5))
    rw [prefMark_leaf L p (by omega), all16 p (by omega) L hb] at hx
    have HX : Hid (x = Hash.of (leafOf L)) := hx.symm
    have c1 : ((m : Int) == 0) = false := beq_eq_false_iff_ne.2 (by omega)
    have hN' : N = 16 := by omega
    subst hN'
    rw [hm] at hS
    clear hx hp hN hm hml hc hd h5 hb ho hB h0
    generalize leafOf L = s at *
    generalize Hash.of s = y at *
    generalize nil0 = z at *
    go_enter Tryz.func68, Tryz.ntmps68
    go_wp2_with fail
    refine (hM _).out.mono ?_
    rintro e w1 ⟨rfl, m1, rfl⟩
    go_wp2_with fail
    refine (hS _ (hA.drewN m1)).out.mono ?_
    rintro e w2 ⟨rfl, hb2⟩
    go_wp2_with fail
    refine (hO _).out.mono ?_
    rintro e w3 ⟨rfl, m3, rfl⟩
    go_wp2
    go_ret
    exact ⟨by rw [HX.out]; rfl, below_drewN (below_chain (below_of_drewN _ _ _) hb2) _⟩

theorem mem_take_of {x : Ent} {L : List Ent} {i : Nat} (h : x ∈ L.take i) : x ∈ L := List.mem_of_mem_take h
theorem mem_drop_of {x : Ent} {L : List Ent} {i : Nat} (h : x ∈ L.drop i) : x ∈ L := List.mem_of_mem_drop h

theorem hash_parts (p : Bytes) (hp : p.length < 16) (L : List Ent) (hb : ∀ x ∈ L, begins p (Bin.of x.1) = true) (ho : (L.map (·.1)).Pairwise Bin.R) (i : Nat) (hi : zcount p.length (pths L) = i) (x a b : Nat) (hx : prefMark L p = x)
    (ha : prefMark (L.take i) (p ++ [48]) = a) (hb' : prefMark (L.drop i) (p ++ [49]) = b) : x = if a = nil0 ∧ b = nil0 then nil0 else Hash.of (said 2 a b) := by
  obtain ⟨h1, h2⟩ := zeros_split p hp L hb ho
  rw [hi] at h1 h2
  rw [h1, prefMark_und] at ha
  rw [h2, prefMark_und] at hb'
  rw [← hx, prefMark_node L p hp, ha, hb', nodeOf]
  by_cases h : a = nil0 ∧ b = nil0
  · rw [if_pos h, if_pos h]; rfl
  · rw [if_neg h, if_neg h]

set_option maxRecDepth 100000 in
set_option maxHeartbeats 4000000 in
theorem hash_succ (k : Nat) (ih : HashAt k) : HashAt (k + 1) := by
  intro p L A B c d m N w hp hN hm hml hc hd h5 hb ho hA hB x hx
  rcases Nat.eq_zero_or_pos m with h0 | h0
  · obtain rfl : L = [] := List.eq_nil_of_length_eq_zero (by omega)
    subst h0
    exact hash_nil (k + 1) p A B c d N w hp x hx
  · have hM := fun w => Lib.hid (markOf_0 w)
    have hZ := fun (w : World) hB => Lib.hid (treeZeros B d (pths L) p.length w m (by rw [pths_length]; exact hm) hml (fun s hs => by obtain ⟨y, _, rfl⟩ := List.mem_map.1 hs; exact Bin.of_length _) (by omega) hB _ rfl)
    have hzl := zcount_le p.length (pths L)
    rw [pths_length, hm] at hzl
    have hpart := hash_parts p (by omega) L hb ho
    obtain ⟨hs1, hs2⟩ := zeros_split p (by omega) L hb ho
    generalize hi : zcount p.length (pths L) = i at *
    have ih0 := fun (w : World) hA hB => Lib.hid (ih (p ++ [48]) (L.take i) A B c d i (N + 1) w (by rw [List.length_append, List.length_singleton]; omega) (by rw [List.length_append, List.length_singleton]; omega) (by rw [List.length_take]; omega) (by omega) (by omega) (by omega) (fun y hy => h5 y (mem_take_of hy)) (by rw [hs1]; exact und_begins _ _) (by rw [hs1]; exact und_order _ ho) hA hB _ rfl)
    have ih1 := fun (A' B' : Option Addr) (c' d' : Nat) (hc' : m - i ≤ c') (hd' : m - i ≤ d') (w : World) hA hB => Lib.hid (ih (p ++ [49]) (L.drop i) A' B' c' d' (m - i) (N + 1) w (by rw [List.length_append, List.length_singleton]; omega) (by rw [List.length_append, List.length_singleton]; omega) (by rw [List.length_drop]; omega) (by omega) hc' hd' (fun y hy => h5 y (mem_drop_of hy)) (by rw [hs2]; exact und_begins _ _) (by rw [hs2]; exact und_order _ ho) hA hB _ rfl)
    have HP := Lib.hid (hpart i rfl x _ _ hx rfl rfl)
    have hla : prefMark (L.take i) (p ++ [48]) < 18446744073709551616 := Nat.lt_trans (pm_lt _ _ _) (by decide)
    have hlb : prefMark (L.drop i) (p ++ [49]) < 18446744073709551616 := Nat.lt_trans (pm_lt _ _ _) (by decide)
    have hT := fun w => Lib.hid (markTwo2 _ _ w hla hlb)
    have hcA := (fun (w : World) (h : Row w A (encells L)) => Lib.hid (h.takeE i))
    have hcB := (fun (w : World) (h : Row w B (scells (pths L))) => Lib.hid (h.takeP i))
    have hdA : ∀ w : World, Row w A (encells L) → Hid (Row w (if c = i then A else A.map (·.add (i * 2))) (encells (L.drop i))) := fun w h => by
      show Row _ _ _
      split
      · rw [List.drop_eq_nil_of_le (by omega)]; exact Row.nil_ _ _
      · exact h.dropE i
    have hdB : ∀ w : World, Row w B (scells (pths L)) → Hid (Row w (if d = i then B else B.map (·.add i)) (scells (pths (L.drop i)))) := fun w h => by
      show Row _ _ _
      split
      · rw [List.drop_eq_nil_of_le (by omega)]; exact Row.nil_ _ _
      · exact h.dropP i
    generalize prefMark (L.take i) (p ++ [48]) = a at *
    generalize prefMark (L.drop i) (p ++ [49]) = b at *
    have c1 : ((m : Int) == 0) = false := beq_eq_false_iff_ne.2 (by omega)
    have c2 : (N == 16) = false := beq_eq_false_iff_ne.2 (by omega)
    have hN0 : 0 ≤ N := by omega
    have hN1 : N ≤ 16 := by omega
    have hwr : IntKind.i64.wrap (N + 1) = N + 1 := by rw [IntKind.wrap_i64]; omega
    have hi0 : (0 : Int) ≤ (i : Int) := by omega
    have hi1 : (i : Int) ≤ (m : Int) := by omega
    have hi2 : (i : Int) ≤ (c : Int) := by omega
    have hi3 : (i : Int) ≤ (d : Int) := by omega
    have hi4 : (m : Int) ≤ (c : Int) := by omega
    have hi5 : (m : Int) ≤ (d : Int) := by omega
    rw [← hN] at hZ
    clear hx hp hN hm h5 hb ho h0 hpart hs1 hs2 hi ih hla hlb
    generalize nil0 = z at *
    go_enter Tryz.func68, Tryz.ntmps68
    go_wp2_with fail
    refine (hM _).out.mono ?_
    rintro e w1 ⟨rfl, m1, hw1⟩
    have hA1 : Row w1 A (encells L) := by rw [hw1]; exact hA.drewN m1
    have hB1 : Row w1 B (scells (pths L)) := by rw [hw1]; exact hB.drewN m1
    have hb1 : Below w.heap.size w w1 := by rw [hw1]; exact below_of_drewN _ _ _
    clear hw1 hA hB hM
    go_wp2_with fail
    refine (hZ _ hB1).out.mono ?_
    rintro e w2 ⟨rfl, rfl⟩
    clear hZ
    have t1 := (hcA _ hA1).out
    have t2 := (hcB _ hB1).out
    go_wp2
    go_region_with (go_at_call 68; refine (ih0 w1.drew t1 t2).out.mono ?_; rintro e w3 ⟨rfl, hb3⟩)
    have hbw : Below w1.heap.size w1 w3 := below_chain (bdrew (Below.refl _ _)) hb3
    have t3 := (hdA _ (hA1.below hbw)).out
    have t4 := (hdB _ (hB1.below hbw)).out
    have hb4 := below_chain hb1 hbw
    clear hA1 hB1 t1 t2 ih0 hcA hcB hdA hdB hb3 hb1 hbw
    have hab : (((a : Int) == (z : Int)) = true ∧ ((b : Int) == (z : Int)) = true ∧ Hid (x = z)) ∨ (((a : Int) == (z : Int)) = true ∧ ((b : Int) == (z : Int)) = false ∧ Hid (x = Hash.of (said 2 a b))) ∨ (((a : Int) == (z : Int)) = false ∧ Hid (x = Hash.of (said 2 a b))) := by
      have hh := HP.out
      by_cases h1 : a = z
      · by_cases h2 : b = z
        · rw [if_pos ⟨h1, h2⟩] at hh
          exact .inl ⟨beq_iff_eq.2 (by rw [h1]), beq_iff_eq.2 (by rw [h2]), hh⟩
        · rw [if_neg (fun h => h2 h.2)] at hh
          exact .inr (.inl ⟨beq_iff_eq.2 (by rw [h1]), beq_eq_false_iff_ne.2 (by omega), hh⟩)
      · rw [if_neg (fun h => h1 h.1)] at hh
        exact .inr (.inr ⟨beq_eq_false_iff_ne.2 (by omega), hh⟩)
    clear HP
    generalize Hash.of (said 2 a b) = y at *
    have hcd : (i = m ∧ (i = c ∨ ∃ c', i + (c' + 1) = c) ∧ (i = d ∨ ∃ d', i + (d' + 1) = d)) ∨ (∃ m', i + (m' + 1) = m) ∧ (∃ c', i + (c' + 1) = c) ∧ ∃ d', i + (d' + 1) = d := by
      rcases Nat.lt_or_ge i m with h | h
      · exact .inr ⟨⟨m - i - 1, by omega⟩, ⟨c - i - 1, by omega⟩, ⟨d - i - 1, by omega⟩⟩
      · refine .inl ⟨by omega, ?_, ?_⟩
        · rcases Nat.lt_or_ge i c with h | h
          · exact .inr ⟨c - i - 1, by omega⟩
          · exact .inl (by omega)
        · rcases Nat.lt_or_ge i d with h | h
          · exact .inr ⟨d - i - 1, by omega⟩
          · exact .inl (by omega)
    rcases hcd with ⟨rfl, rfl | ⟨c', rfl⟩, rfl | ⟨d', rfl⟩⟩ | ⟨⟨m', rfl⟩, ⟨c', rfl⟩, ⟨d', rfl⟩⟩
    · rw [if_pos rfl] at t3; rw [if_pos rfl] at t4; simp only [Nat.sub_self] at ih1
      have H1 := fun c d (hc : 0 ≤ c) (hd : 0 ≤ d) => Lib.hid (ih1 _ _ c d hc hd w3.drew t3 t4).out
      clear ih1 t3 t4
      go_wp2
      go_region_with (go_at_call 68; refine (H1 _ _ (by omega) (by omega)).out.mono ?_; rintro e w5 ⟨rfl, hb5⟩)
      clear H1
      rcases hab with ⟨h1, h2, HX⟩ | ⟨h1, h2, HX⟩ | ⟨h1, HX⟩
      · go_wp2
        go_ret
        exact ⟨by rw [HX.out]; rfl, below_chain (bdrew hb4) hb5⟩
      · go_wp2_with fail
        refine (hT _).out.mono ?_
        rintro e w6 ⟨rfl, hb6⟩
        go_wp2
        go_ret
        exact ⟨by rw [HX.out]; rfl, below_chain (below_chain (bdrew hb4) hb5) hb6⟩
      · go_wp2_with fail
        refine (hT _).out.mono ?_
        rintro e w6 ⟨rfl, hb6⟩
        go_wp2
        go_ret
        exact ⟨by rw [HX.out]; rfl, below_chain (below_chain (bdrew hb4) hb5) hb6⟩
    · rw [if_pos rfl] at t3; rw [if_neg (by omega)] at t4; simp only [Nat.sub_self] at ih1
      have H1 := fun c d (hc : 0 ≤ c) (hd : 0 ≤ d) => Lib.hid (ih1 _ _ c d hc hd w3.drew t3 t4).out
      clear ih1 t3 t4
      go_wp2
      go_region_with (go_at_call 68; refine (H1 _ _ (by omega) (by omega)).out.mono ?_; rintro e w5 ⟨rfl, hb5⟩)
      clear H1
      rcases hab with ⟨h1, h2, HX⟩ | ⟨h1, h2, HX⟩ | ⟨h1, HX⟩
      · go_wp2
        go_ret
        exact ⟨by rw [HX.out]; rfl, below_chain (bdrew hb4) hb5⟩
      · go_wp2_with fail
        refine (hT _).out.mono ?_
        rintro e w6 ⟨rfl, hb6⟩
        go_wp2
        go_ret
        exact ⟨by rw [HX.out]; rfl, below_chain (below_chain (bdrew hb4) hb5) hb6⟩
      · go_wp2_with fail
        refine (hT _).out.mono ?_
        rintro e w6 ⟨rfl, hb6⟩
        go_wp2
        go_ret
        exact ⟨by rw [HX.out]; rfl, below_chain (below_chain (bdrew hb4) hb5) hb6⟩
    · rw [if_neg (by omega)] at t3; rw [if_pos rfl] at t4; simp only [Nat.sub_self] at ih1
      have H1 := fun c d (hc : 0 ≤ c) (hd : 0 ≤ d) => Lib.hid (ih1 _ _ c d hc hd w3.drew t3 t4).out
      clear ih1 t3 t4
      go_wp2
      go_region_with (go_at_call 68; refine (H1 _ _ (by omega) (by omega)).out.mono ?_; rintro e w5 ⟨rfl, hb5⟩)
      clear H1
      rcases hab with ⟨h1, h2, HX⟩ | ⟨h1, h2, HX⟩ | ⟨h1, HX⟩
      · go_wp2
        go_ret
        exact ⟨by rw [HX.out]; rfl, below_chain (bdrew hb4) hb5⟩
      · go_wp2_with fail
        refine (hT _).out.mono ?_
        rintro e w6 ⟨rfl, hb6⟩
        go_wp2
        go_ret
        exact ⟨by rw [HX.out]; rfl, below_chain (below_chain (bdrew hb4) hb5) hb6⟩
      · go_wp2_with fail
        refine (hT _).out.mono ?_
        rintro e w6 ⟨rfl, hb6⟩
        go_wp2
        go_ret
        exact ⟨by rw [HX.out]; rfl, below_chain (below_chain (bdrew hb4) hb5) hb6⟩
    · rw [if_neg (by omega)] at t3; rw [if_neg (by omega)] at t4; simp only [Nat.sub_self] at ih1
      have H1 := fun c d (hc : 0 ≤ c) (hd : 0 ≤ d) => Lib.hid (ih1 _ _ c d hc hd w3.drew t3 t4).out
      clear ih1 t3 t4
      go_wp2
      go_region_with (go_at_call 68; refine (H1 _ _ (by omega) (by omega)).out.mono ?_; rintro e w5 ⟨rfl, hb5⟩)
      clear H1
      rcases hab with ⟨h1, h2, HX⟩ | ⟨h1, h2, HX⟩ | ⟨h1, HX⟩
      · go_wp2
        go_ret
        exact ⟨by rw [HX.out]; rfl, below_chain (bdrew hb4) hb5⟩
      · go_wp2_with fail
        refine (hT _).out.mono ?_
        rintro e w6 ⟨rfl, hb6⟩
        go_wp2
        go_ret
        exact ⟨by rw [HX.out]; rfl, below_chain (below_chain (bdrew hb4) hb5) hb6⟩
      · go_wp2_with fail
        refine (hT _).out.mono ?_
        rintro e w6 ⟨rfl, hb6⟩
        go_wp2
        go_ret
        exact ⟨by rw [HX.out]; rfl, below_chain (below_chain (bdrew hb4) hb5) hb6⟩
    · rw [if_neg (by omega)] at t3; rw [if_neg (by omega)] at t4; simp only [Nat.add_sub_cancel_left] at ih1
      have hj1 : (i : Int) ≤ (i : Int) + ((m' : Int) + 1) := by omega
      have hj2 : (i : Int) + ((m' : Int) + 1) ≤ (i : Int) + ((c' : Int) + 1) := by omega
      have hj3 : (i : Int) + ((m' : Int) + 1) ≤ (i : Int) + ((d' : Int) + 1) := by omega
      have H1 := Lib.hid (ih1 _ _ (c' + 1) (d' + 1) (by omega) (by omega) w3.drew t3 t4).out
      clear ih1 t3 t4
      go_wp2
      go_region_with (go_at_call 68; refine H1.out.mono ?_; rintro e w5 ⟨rfl, hb5⟩)
      clear H1
      rcases hab with ⟨h1, h2, HX⟩ | ⟨h1, h2, HX⟩ | ⟨h1, HX⟩
      · go_wp2
        go_ret
        exact ⟨by rw [HX.out]; rfl, below_chain (bdrew hb4) hb5⟩
      · go_wp2_with fail
        refine (hT _).out.mono ?_
        rintro e w6 ⟨rfl, hb6⟩
        go_wp2
        go_ret
        exact ⟨by rw [HX.out]; rfl, below_chain (below_chain (bdrew hb4) hb5) hb6⟩
      · go_wp2_with fail
        refine (hT _).out.mono ?_
        rintro e w6 ⟨rfl, hb6⟩
        go_wp2
        go_ret
        exact ⟨by rw [HX.out]; rfl, below_chain (below_chain (bdrew hb4) hb5) hb6⟩
theorem hash_all : ∀ k, HashAt k
  | 0 => hash_0
  | k + 1 => hash_succ k (hash_all k)
end Go.Proofs.YtjcockcilkiggaaGreat
