/- The reference: RollIn returns the inclusion proof, going from the top down. -/
import Derived.Test.YtlobpjpkldmnaaaRollIn
namespace Go.Proofs.Ytlobpjpkldmnaaa
set_option maxRecDepth 100000
open Go.RowKit

theorem inn_seg_left (l : List Bytes) (a b i h k : Nat) (hb : b ≤ l.length) (h2 : a + 2 ≤ b) (hh : hlf (b - a) = h) (hk : a + h = k) (hi : a ≤ i) (hik : i < k) : inn (seg l a b) (i - a) = inn (seg l a k) (i - a) ++ [rhash (seg l k b)] := by
  have hlt := hlf_lt (n := b - a) (by omega)
  have e1 := seg_take l a b k (by omega)
  have e2 := seg_drop l a b k (by omega)
  rw [show k - a = h by omega] at e1 e2
  rw [inn_left (seg l a b) (i - a) h (by rw [seg_length l a b hb]; omega) (by rw [seg_length l a b hb, hh]) (by omega), e1, e2]
theorem inn_seg_right (l : List Bytes) (a b i h k : Nat) (hb : b ≤ l.length) (h2 : a + 2 ≤ b) (hh : hlf (b - a) = h) (hk : a + h = k) (hik : k ≤ i) : inn (seg l a b) (i - a) = inn (seg l k b) (i - k) ++ [rhash (seg l a k)] := by
  have hlt := hlf_lt (n := b - a) (by omega)
  have e1 := seg_take l a b k (by omega)
  have e2 := seg_drop l a b k (by omega)
  rw [show k - a = h by omega] at e1 e2
  rw [inn_right (seg l a b) (i - a) h (by rw [seg_length l a b hb]; omega) (by rw [seg_length l a b hb, hh]) (by omega), e1, e2, show i - a - h = i - k by omega]

set_option maxHeartbeats 2000000 in
theorem refRollIn (A : Option Addr) (c : Nat) (l : List Bytes) (i : Nat) (w : World) (hg : RGood l) (hi : i < l.length) (hA : Row w A (scells l)) :
    Calls Try.prog 14 #[.slice A l.length c, .int .i64 (i : Int)] w (RollGives (inn l i) w) := by
  have h40 := hg.le
  have hM := fun (a b : Nat) (w : World) h1 hb hA => Lib.hid (refHash l A c a b w h1 hb h40 hg.each hA _ rfl)
  have H0 : Hid (inn l i = inn (seg l 0 l.length) (i - 0) ++ []) := by
    show _ = _
    rw [seg_all, List.append_nil]
    rfl
  have HL : ∀ a b h k : Nat, b ≤ l.length → a + 2 ≤ b → hlf (b - a) = h → a + h = k → a ≤ i → i < k → Hid (inn (seg l a b) (i - a) = inn (seg l a k) (i - a) ++ [rhash (seg l k b)]) := fun a b h k x1 x2 x3 x4 x5 x6 => inn_seg_left l a b i h k x1 x2 x3 x4 x5 x6
  have HR : ∀ a b h k : Nat, b ≤ l.length → a + 2 ≤ b → hlf (b - a) = h → a + h = k → k ≤ i → Hid (inn (seg l a b) (i - a) = inn (seg l k b) (i - k) ++ [rhash (seg l a k)]) := fun a b h k x1 x2 x3 x4 x5 => inn_seg_right l a b i h k x1 x2 x3 x4 x5
  have HE : ∀ a b : Nat, b - a = 1 → Hid (inn (seg l a b) (i - a) = []) := fun a b h => inn_none _ _ (by unfold seg; simp; omega)
  obtain ⟨T, hT⟩ : ∃ T, inn l i = T := ⟨_, rfl⟩
  rw [hT] at H0 ⊢
  clear hT hg
  go_enter Try.func14, Try.ntmps14
  go_wp2
  go_loopw [5, 6, 7] (fun f t o wr => ∃ (a b : Nat) (O : List Nat) (D : Option Addr) (d : Nat), a ≤ i ∧ i < b ∧ b ≤ l.length ∧ f = .int .i64 (a : Int) ∧ t = .int .i64 (b : Int) ∧ o = .slice D O.length d ∧ Hid (T = inn (seg l a b) (i - a) ++ O) ∧ O.length + (b - a) ≤ l.length ∧ wr.ownsRow w.heap.size 23 1 (.slice D O.length d) O.length (mcells O) ∧ Below w.heap.size w wr) (fun f t _ _ => (intOf t - intOf f).toNat)
  case atStart => exact ⟨0, l.length, [], none, 0, Nat.zero_le _, hi, Nat.le_refl _, rfl, rfl, rfl, H0, by simp, World.ownsRow_nil _ _ _ _, Below.refl _ _⟩
  case round =>
    obtain ⟨a, b, O, D, d, ha, hb, hbl, rfl, rfl, rfl, HT, hol, hown, hbw⟩ := hrel
    have hsz := hbw.size
    have hAr := hA.below hbw
    by_cases h1 : a + 1 < b
    · obtain ⟨h, hh⟩ : ∃ h, hlf (b - a) = h := ⟨_, rfl⟩
      have hlt := hlf_lt (n := b - a) (by omega)
      have hpos := hlf_pos (b - a)
      rw [hh] at hlt hpos
      have hS := fun w => Lib.hid (refHalf (b - a) h w (by omega) hh)
      have e1 : ((b - a : Nat) : Int) = (b : Int) - (a : Int) := by omega
      rw [e1] at hS
      obtain ⟨k, hk⟩ : ∃ k, a + h = k := ⟨_, rfl⟩
      have hk' : (a : Int) + (h : Int) = (k : Int) := by omega
      have hwk : IntKind.i64.wrap (k : Int) = (k : Int) := by rw [IntKind.wrap_i64]; omega
      have hws : IntKind.i64.wrap ((b : Int) - (a : Int)) = (b : Int) - (a : Int) := by rw [IntKind.wrap_i64]; omega
      have c1 : (1 : Int) < (b : Int) - (a : Int) := by omega
      have hM1 := fun w hA => hM k b w (by omega) hbl hA
      have hM2 := fun w hA => hM a k w (by omega) (by omega) hA
      by_cases hik : i < k
      · have HT' := Lib.hid (HT.out.trans (congrArg (· ++ O) (HL a b h k hbl (by omega) hh hk ha hik).out))
        obtain ⟨z, hz⟩ : ∃ z, rhash (seg l k b) = z := ⟨_, rfl⟩
        rw [hz] at hM1 HT'
        have hkb : k < b := by omega
        have hka : a < k := by omega
        clear hM2 hM HL HR HE HT hz hh hlt hpos e1 hk H0 hA
        go_wp2_with fail
        refine (hS _).out.mono ?_
        rintro e w1 ⟨rfl, hw⟩
        subst hw
        clear hS
        go_wp2_with fail
        refine (hM1 _ hAr).out.mono ?_
        rintro e w2 ⟨rfl, hb2⟩
        have hb02 := below_chain hbw hb2
        have hsz2 := hb02.size
        have hown2 := (own_below hown hb2).alloc (.cells #[.int .u64 (z : Int)] 23)
        clear hM1 hAr hown
        go_wp2_with (at_builtin; refine app_marksR _ rfl _ _ rfl w.heap.size _ [z] rfl (mark_own w2 z _ hsz2) D d O rfl (Row.own hown2) (by simp; omega) (by simp; omega) ?_; intro v3 w3 hown3 hgrow3)
        have hb4 : Below w.heap.size w w3 := (hb02.alloc hsz2 _).grown hgrow3 (by simp; omega) (fun j hj => by have := (mark_own w2 z w.heap.size hsz2).lt j hj; exact this.1)
        obtain ⟨D3, d3, rfl⟩ := own_shape hown3
        go_roundw
        case rel => exact ⟨a, k, z :: O, D3, d3, ha, hik, by omega, rfl, rfl, by rw [List.length_cons, List.length_append, List.length_singleton, Nat.add_comm 1], by show T = _; rw [HT'.out, List.append_assoc]; rfl, by rw [List.length_cons]; omega, by simpa [Nat.add_comm] using hown3, hb4⟩
        case measure => simp [intOf]; omega
      · have HT' := Lib.hid (HT.out.trans (congrArg (· ++ O) (HR a b h k hbl (by omega) hh hk (by omega)).out))
        obtain ⟨z, hz⟩ : ∃ z, rhash (seg l a k) = z := ⟨_, rfl⟩
        rw [hz] at hM2 HT'
        have hkb : k < b := by omega
        have hka : a < k := by omega
        clear hM HL HR HE HT hz hh hlt hpos e1 hk H0 hA
        go_wp2_with fail
        refine (hS _).out.mono ?_
        rintro e w1 ⟨rfl, hw⟩
        subst hw
        clear hS
        go_wp2_with fail
        refine (hM1 _ hAr).out.mono ?_
        rintro e w2 ⟨rfl, hb2⟩
        clear hM1
        go_wp2_with fail
        refine (hM2 _ (hAr.below hb2)).out.mono ?_
        rintro e w3 ⟨rfl, hb3⟩
        have hb23 := below_chain hb2 hb3
        have hb02 := below_chain hbw hb23
        have hsz2 := hb02.size
        have hown2 := (own_below hown hb23).alloc (.cells #[.int .u64 (z : Int)] 23)
        clear hM2 hAr hown
        go_wp2_with (at_builtin; refine app_marksR _ rfl _ _ rfl w.heap.size _ [z] rfl (mark_own w3 z _ hsz2) D d O rfl (Row.own hown2) (by simp; omega) (by simp; omega) ?_; intro v4 w4 hown3 hgrow3)
        have hb4 : Below w.heap.size w w4 := (hb02.alloc hsz2 _).grown hgrow3 (by simp; omega) (fun j hj => by have := (mark_own w3 z w.heap.size hsz2).lt j hj; exact this.1)
        obtain ⟨D3, d3, rfl⟩ := own_shape hown3
        go_roundw
        case rel => exact ⟨k, b, z :: O, D3, d3, by omega, hb, hbl, rfl, rfl, by rw [List.length_cons, List.length_append, List.length_singleton, Nat.add_comm 1], by show T = _; rw [HT'.out, List.append_assoc]; rfl, by rw [List.length_cons]; omega, by simpa [Nat.add_comm] using hown3, hb4⟩
        case measure => simp [intOf]; omega
    · have HT' := Lib.hid (HT.out.trans (congrArg (· ++ O) (HE a b (by omega)).out))
      have c1 : ¬ (1 : Int) < (b : Int) - (a : Int) := by omega
      have hws : IntKind.i64.wrap ((b : Int) - (a : Int)) = (b : Int) - (a : Int) := by rw [IntKind.wrap_i64]; omega
      clear hM HL HR HE HT H0 hA hAr
      go_wp2
      go_ret
      exact ⟨D, d, by rw [HT'.out]; rfl, by rw [HT'.out]; exact hown, hbw⟩
end Go.Proofs.Ytlobpjpkldmnaaa
