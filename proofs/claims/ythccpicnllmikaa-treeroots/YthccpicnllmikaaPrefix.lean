/- The reference's PrefixMark returns the hash of a prefix in a book. It writes nothing that was there. -/
import Derived.Test.YthccpicnllmikaaLevels
namespace Go.Proofs.Ythccpicnllmikaa
open Go.RowKit Go.Maps

/-- What PrefixMark returns. -/
theorem refPrefix (A : Option Addr) (c : Nat) (es : List Ent) (q : Bytes) (w : World) (hm : es.length ≤ 1000) (hes : ∀ x ∈ es, x.1.length + x.2.length ≤ 596) (hq : q.length ≤ 16) (hA : Row w A (encells es)) (x : Nat) (hx : prefMark es q = x) :
    Calls Try.prog 24 #[.slice A es.length c, .string (S q)] w fun e w' => e = .returned (.int .u64 (x : Int)) ∧ Below w.heap.size w w' := by
  have hL := Lib.hid (refLevels A c es w hm hes hA)
  have hZ := fun w => Lib.hid (refMark_0 w)
  have hz := zeroU
  clear hA hes
  go_enter Try.func24, Try.ntmps24
  go_wp2_with fail
  refine hL.out.mono ?_
  rintro e w1 ⟨b, n, f, rfl, hmap, hlev, hb1⟩
  have hl := hlev.look q hq (Nat.zero_le _)
  rw [hx] at hl
  clear hlev hL hx
  rcases hl with hf | ⟨hf, hp⟩
  · go_wp2_with (first
      | (at_lookup; refine map_look_some _ rfl _ _ 66 rfl 41 Try.underlying66 _ (hz _) b n f rfl hmap q (by unfold maxLen; omega) rfl _ hf ?_))
    go_ret
    exact ⟨rfl, hb1⟩
  · rw [← hp] at hZ
    clear hp
    go_wp2_with (first
      | (at_lookup; refine map_look_none _ rfl _ _ 66 rfl 41 Try.underlying66 _ (hz _) b n f rfl hmap q (by unfold maxLen; omega) rfl hf ?_)
      | (go_at_call 41; refine (hZ _).out.mono ?_; rintro e w5 ⟨rfl, rfl⟩))
    go_ret
    exact ⟨rfl, hb1⟩
end Go.Proofs.Ythccpicnllmikaa
