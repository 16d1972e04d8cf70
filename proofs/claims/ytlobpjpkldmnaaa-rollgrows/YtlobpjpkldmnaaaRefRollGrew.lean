/- The reference: RollGrew returns the consistency proof, along the turns of its way. -/
import Derived.Test.YtlobpjpkldmnaaaRefGrowth
import Derived.Test.YtlobpjpkldmnaaaRollIn
namespace Go.Proofs.Ytlobpjpkldmnaaa
set_option maxRecDepth 100000
open Go.RowKit

theorem seg_half (l : List Bytes) (a b h k : Nat) (hb : b ≤ l.length) (h2 : a + 2 ≤ b) (hh : hlf (b - a) = h) (hk : a + h = k) : half1 (seg l a b) true = seg l a k ∧ half1 (seg l a b) false = seg l k b ∧ k < b ∧ a < k := by
  have hlt := hlf_lt (n := b - a) (by omega)
  have hpos := hlf_pos (b - a)
  have e1 := seg_take l a b k (by omega)
  have e2 := seg_drop l a b k (by omega)
  rw [show k - a = h by omega] at e1 e2
  unfold half1
  rw [seg_length l a b hb, hh, if_pos rfl, if_neg (by simp), e1, e2]
  exact ⟨rfl, rfl, by omega, by omega⟩
/-- Behind k turns. -/
structure GrewAt (l : List Bytes) (s : List Bool) (k a b : Nat) (O : List Nat) : Prop where
  le : b ≤ l.length
  lt : a < b
  len : O.length = k
  st : steps (b - a) (s.drop k)
  bes : besideOf l s = besideOf (seg l a b) (s.drop k) ++ O
  res : restOf l s = restOf (seg l a b) (s.drop k)
theorem GrewAt.start (l : List Bytes) (s : List Bool) (h1 : 1 ≤ l.length) (hs : steps l.length s) : GrewAt l s 0 0 l.length [] :=
  ⟨Nat.le_refl _, h1, rfl, hs, by rw [seg_all, List.append_nil]; rfl, by rw [seg_all]; rfl⟩
theorem GrewAt.room {l : List Bytes} {s : List Bool} {k a b : Nat} {O : List Nat} (h : GrewAt l s k a b O) (hk : k < s.length) : a + 2 ≤ b := by
  have := h.st
  rw [List.drop_eq_getElem_cons hk] at this
  have := this.1
  omega
theorem GrewAt.left {l : List Bytes} {s : List Bool} {k a b : Nat} {O : List Nat} (h : GrewAt l s k a b O) (hb : s[k]? = some true) (t m : Nat) (ht : hlf (b - a) = t) (hm : a + t = m) : GrewAt l s (k + 1) a m (rhash (seg l m b) :: O) := by
  obtain ⟨hk, e⟩ := List.getElem?_eq_some_iff.1 hb
  have h2 := h.room hk
  obtain ⟨e1, e2, e3, e4⟩ := seg_half l a b t m h.le h2 ht hm
  have hle := h.le
  have d := List.drop_eq_getElem_cons hk
  rw [e] at d
  have hs := h.st
  rw [d] at hs
  refine ⟨by omega, e4, by rw [List.length_cons, h.len], ?_, ?_, ?_⟩
  · have := hs.2
    unfold nxt at this
    rwa [if_pos rfl, ht, show t = m - a by omega] at this
  · rw [h.bes, d, besideOf, e1]
    show (_ ++ [rhash (half1 (seg l a b) false)]) ++ O = _
    rw [e2, List.append_assoc]
    rfl
  · rw [h.res, d, restOf, e1]
theorem GrewAt.right {l : List Bytes} {s : List Bool} {k a b : Nat} {O : List Nat} (h : GrewAt l s k a b O) (hb : s[k]? = some false) (t m : Nat) (ht : hlf (b - a) = t) (hm : a + t = m) : GrewAt l s (k + 1) m b (rhash (seg l a m) :: O) := by
  obtain ⟨hk, e⟩ := List.getElem?_eq_some_iff.1 hb
  have h2 := h.room hk
  obtain ⟨e1, e2, e3, e4⟩ := seg_half l a b t m h.le h2 ht hm
  have d := List.drop_eq_getElem_cons hk
  rw [e] at d
  have hs := h.st
  rw [d] at hs
  refine ⟨h.le, e3, by rw [List.length_cons, h.len], ?_, ?_, ?_⟩
  · have := hs.2
    unfold nxt at this
    rwa [if_neg (by simp), ht, show b - a - t = b - m by omega] at this
  · rw [h.bes, d, besideOf, e2]
    show (_ ++ [rhash (half1 (seg l a b) true)]) ++ O = _
    rw [e1, List.append_assoc]
    rfl
  · rw [h.res, d, restOf, e2]
theorem GrewAt.done {l : List Bytes} {s : List Bool} {k a b : Nat} {O : List Nat} (h : GrewAt l s k a b O) (hk : s.length ≤ k) : besideOf l s = O ∧ restOf l s = seg l a b := by
  have h1 := h.bes
  have h2 := h.res
  rw [List.drop_eq_nil_of_le hk] at h1 h2
  exact ⟨h1, h2⟩

set_option maxHeartbeats 4000000 in
theorem refRollGrew (A : Option Addr) (c : Nat) (l : List Bytes) (m : Nat) (w : World) (hg : RGood l) (h1 : 1 ≤ m) (hml : m ≤ l.length) (hA : Row w A (scells l)) :
    Calls Try.prog 18 #[.slice A l.length c, .int .i64 (m : Int)] w (RollGives (grw l m true) w) := by
  have h40 := hg.le
  have hM := fun (a b : Nat) (w : World) h1 hb hA => Lib.hid (refHash l A c a b w h1 hb h40 hg.each hA _ rfl)
  have hGr := fun w => Lib.hid (refGrowth l.length m w h1 h40 hml)
  have H0 := Lib.hid (GrewAt.start l (turns l.length m) hg.pos (turns_steps _ _ h1))
  have HT : Hid (grw l m true = (if ((turns l.length m).all id) = true then [] else [rhash (restOf l (turns l.length m))]) ++ besideOf l (turns l.length m)) := rfl
  have hsl := turns_length l.length m h1
  generalize turns l.length m = s at *
  generalize grw l m true = T at *
  clear hg h1
  go_enter Try.func18, Try.ntmps18
  go_wp2_with fail
  refine (hGr _).out.mono ?_
  rintro e w1 ⟨E, ec, rfl, hE1, hb1⟩
  have hA1 := hA.below hb1
  clear hGr hA
  obtain ⟨u, hu⟩ : ∃ u, s.all id = u := ⟨_, rfl⟩
  rw [hu] at HT ⊢
  have HUx := Lib.hid hu
  clear hu
  go_wp2
  go_loopw [7, 8, 9, 25] (fun f t o iv wr => ∃ (k a b : Nat) (O : List Nat) (D : Option Addr) (d : Nat), k ≤ s.length ∧ f = .int .i64 (a : Int) ∧ t = .int .i64 (b : Int) ∧ o = .slice D O.length d ∧ iv = .int .i64 (k : Int) ∧ Hid (GrewAt l s k a b O) ∧ wr.ownsRow w.heap.size 23 1 (.slice D O.length d) O.length (mcells O) ∧ Below w1.heap.size w1 wr) (fun _ _ _ iv _ => s.length - (intOf iv).toNat)
  case atStart => exact ⟨0, 0, l.length, [], none, 0, Nat.zero_le _, rfl, rfl, rfl, rfl, H0, World.ownsRow_nil _ _ _ _, Below.refl _ _⟩
  case round =>
    obtain ⟨k, a, b, O, D, d, hks, rfl, rfl, rfl, rfl, HG, hown, hbr⟩ := hrel
    have hbw := below_chain hb1 hbr
    have hsz := hbw.size
    have hAr := hA1.below hbr
    have hEr := hE1.below hbr
    have hO40 : O.length ≤ 41 := by have := HG.out.len; omega
    have hble := HG.out.le
    have hablt := HG.out.lt
    clear H0 hA1 hE1
    by_cases hlt : k < s.length
    · have h2 := HG.out.room hlt
      obtain ⟨q, hq⟩ : ∃ q, s[k]? = some q := ⟨_, List.getElem?_eq_getElem hlt⟩
      obtain ⟨g, off, hEa, j1⟩ := hEr.truth k q hq
      subst hEa
      obtain ⟨h, hh⟩ : ∃ h, hlf (b - a) = h := ⟨_, rfl⟩
      obtain ⟨n, hn⟩ : ∃ n, a + h = n := ⟨_, rfl⟩
      obtain ⟨-, -, hnb, han⟩ := seg_half l a b h n hble h2 hh hn
      have hS := fun w => Lib.hid (refHalf (b - a) h w (by omega) hh)
      have e1 : ((b - a : Nat) : Int) = (b : Int) - (a : Int) := by omega
      rw [e1] at hS
      have hk' : (a : Int) + (h : Int) = (n : Int) := by omega
      have hwk : IntKind.i64.wrap (n : Int) = (n : Int) := by rw [IntKind.wrap_i64]; omega
      have hws : IntKind.i64.wrap ((b : Int) - (a : Int)) = (b : Int) - (a : Int) := by rw [IntKind.wrap_i64]; omega
      have hM1 := fun w hA => hM n b w hnb hble hA
      have hM2 := fun w hA => hM a n w han (by omega) hA
      have i0 : (0 : Int) ≤ (k : Int) := by omega
      have i1 : (k : Int) < (s.length : Int) := by omega
      have hzc := new_cell wr (.bool q) 62
      have hbr' := hbr.alloc hbr.size (.cells #[.bool q] 62)
      have hAr' := hAr.alloc (.cells #[.bool q] 62)
      have hown' := hown.alloc (.cells #[.bool q] 62)
      cases q with
      | true =>
        have HG' := Lib.hid (HG.out.left hq h n hh hn)
        obtain ⟨z, hz⟩ : ∃ z, rhash (seg l n b) = z := ⟨_, rfl⟩
        rw [hz] at hM1 HG'
        clear hM2 hM HG hz hh e1 hn hq HT h2
        go_wp2_with fail
        generalize wr.alloc (.cells #[.bool true] 62) = v1 at *
        generalize wr.heap.size = vg at *
        refine (hS _).out.mono ?_
        rintro e w2 ⟨rfl, hw⟩
        subst hw
        clear hS
        go_wp2_with fail
        refine (hM1 _ hAr').out.mono ?_
        rintro e w2 ⟨rfl, hb2⟩
        have hzc2 := kept hzc hb2
        have hbr2 := below_chain hbr' hb2
        have hb02 := below_chain hb1 hbr2
        have hsz2 := hb02.size
        have hown2 := (own_below hown' hb2).alloc (.cells #[.int .u64 (z : Int)] 23)
        clear hM1 hAr hown hown' hAr' hzc hbr
        go_wp2_with (at_builtin; refine app_marksR _ rfl _ _ rfl w.heap.size _ [z] rfl (mark_own w2 z _ hsz2) D d O rfl (Row.own hown2) (by simp; omega) (by simp; omega) ?_; intro v3 w3 hown3 hgrow3)
        have hb4 : Below w1.heap.size w1 w3 := (hbr2.alloc hbr2.size _).grown hgrow3 (by have := hbr2.size; simp; omega) (fun j hj => by have := (mark_own w2 z w1.heap.size hbr2.size).lt j hj; exact this.1)
        obtain ⟨D3, d3, rfl⟩ := own_shape hown3
        go_roundw
        case rel => exact ⟨k + 1, a, n, z :: O, D3, d3, by omega, rfl, rfl, by rw [List.length_cons, List.length_append, List.length_singleton, Nat.add_comm 1], by go_num, HG', by simpa [Nat.add_comm] using hown3, hb4⟩
        case measure => simp [intOf]; omega
      | false =>
        have HG' := Lib.hid (HG.out.right hq h n hh hn)
        obtain ⟨z, hz⟩ : ∃ z, rhash (seg l a n) = z := ⟨_, rfl⟩
        rw [hz] at hM2 HG'
        clear hM HG hz hh e1 hn hq HT h2
        go_wp2_with fail
        generalize wr.alloc (.cells #[.bool false] 62) = v1 at *
        generalize wr.heap.size = vg at *
        refine (hS _).out.mono ?_
        rintro e w2 ⟨rfl, hw⟩
        subst hw
        clear hS
        go_wp2_with fail
        refine (hM1 _ hAr').out.mono ?_
        rintro e w2 ⟨rfl, hb2⟩
        have hzc2 := kept hzc hb2
        clear hM1 hzc
        go_wp2_with fail
        refine (hM2 _ (hAr'.below hb2)).out.mono ?_
        rintro e w3 ⟨rfl, hb3⟩
        have hb23 := below_chain hb2 hb3
        have hbr2 := below_chain hbr' hb23
        have hb02 := below_chain hb1 hbr2
        have hsz2 := hb02.size
        have hown2 := (own_below hown' hb23).alloc (.cells #[.int .u64 (z : Int)] 23)
        clear hM2 hAr hown hown' hAr' hzc2 hbr
        go_wp2_with (at_builtin; refine app_marksR _ rfl _ _ rfl w.heap.size _ [z] rfl (mark_own w3 z _ hsz2) D d O rfl (Row.own hown2) (by simp; omega) (by simp; omega) ?_; intro v4 w4 hown3 hgrow3)
        have hb4 : Below w1.heap.size w1 w4 := (hbr2.alloc hbr2.size _).grown hgrow3 (by have := hbr2.size; simp; omega) (fun j hj => by have := (mark_own w3 z w1.heap.size hbr2.size).lt j hj; exact this.1)
        obtain ⟨D3, d3, rfl⟩ := own_shape hown3
        go_roundw
        case rel => exact ⟨k + 1, n, b, z :: O, D3, d3, by omega, rfl, rfl, by rw [List.length_cons, List.length_append, List.length_singleton, Nat.add_comm 1], by go_num, HG', by simpa [Nat.add_comm] using hown3, hb4⟩
        case measure => simp [intOf]; omega
    · obtain ⟨d1, d2⟩ := HG.out.done (by omega)
      have HT' : Hid (T = (if u = true then [] else [rhash (seg l a b)]) ++ O) := by show T = _; rw [HT.out, d1, d2]
      have c1 : ¬ (k : Int) < (s.length : Int) := by omega
      have hM1 := fun w hA => hM a b w hablt hble hA
      clear hM HG HT d1 d2 hEr
      cases u with
      | true =>
        have HT2 : Hid (T = O) := HT'.out
        go_wp2
        go_ret
        exact ⟨D, d, by rw [HT2.out]; rfl, by rw [HT2.out]; exact hown, hbw⟩
      | false =>
        obtain ⟨z, hz⟩ : ∃ z, rhash (seg l a b) = z := ⟨_, rfl⟩
        have HT2 : Hid (T = z :: O) := by show T = _; rw [HT'.out, hz]; rfl
        rw [hz] at hM1
        clear HT' hz
        go_wp2_with fail
        refine (hM1 _ hAr).out.mono ?_
        rintro e w2 ⟨rfl, hb2⟩
        have hb02 := below_chain hbw hb2
        have hsz2 := hb02.size
        have hown2 := (own_below hown hb2).alloc (.cells #[.int .u64 (z : Int)] 23)
        clear hM1 hAr hown
        go_wp2_with (at_builtin; refine app_marksR _ rfl _ _ rfl w.heap.size _ [z] rfl (mark_own w2 z _ hsz2) D d O rfl (Row.own hown2) (by simp; omega) (by simp; omega) ?_; intro v3 w3 hown3 hgrow3)
        have hb4 : Below w.heap.size w w3 := (hb02.alloc hsz2 _).grown hgrow3 (by simp; omega) (fun j hj => by have := (mark_own w2 z w.heap.size hsz2).lt j hj; exact this.1)
        obtain ⟨D3, d3, rfl⟩ := own_shape hown3
        go_ret
        exact ⟨D3, d3, by rw [HT2.out]; simp [Nat.add_comm], by rw [HT2.out]; simpa [Nat.add_comm] using hown3, hb4⟩
end Go.Proofs.Ytlobpjpkldmnaaa
