/- The reference: what Levels' own function says of a prefix: its hash if it is in the map, else that of nothing. It writes nothing. -/
import Derived.Test.YtmmmolbejfdamaaLeaves
namespace Go.Proofs.Ytmmmolbejfdamaa
open Go.RowKit Go.Maps

theorem zeroU (w : World) : (zeroValue 46).run Try.prog w = .ok (.int .u64 0) w := by kernel_rfl
theorem zeroE (w : World) : (zeroValue 22).run Try.prog w = .ok (.slice none 0 0) w := by kernel_rfl

set_option maxHeartbeats 400000 in
theorem levAt (q : Bytes) (w : World) (gM gN bM nM : Nat) (f : Bytes → Option Value) (hq : q.length ≤ maxLen) (hM : MapOf w bM nM f)
    (cM : w.cell? ⟨gM, 0, none⟩ = some (.map (some bM))) (cN : w.cell? ⟨gN, 0, none⟩ = some (.int .u64 (nil0 : Int))) (v : Nat) (hv : f q = some (.int .u64 (v : Int)) ∨ f q = none ∧ v = nil0) :
    Calls Try.prog 60 #[.string (S q), .pointer (some ⟨gM, 0, none⟩), .pointer (some ⟨gN, 0, none⟩)] w fun e w' => e = .returned (.int .u64 (v : Int)) ∧ w' = w := by
  generalize nil0 = z at *
  have hz := zeroU
  rcases hv with hf | ⟨hf, rfl⟩
  · go_enter Try.func60, Try.ntmps60
    go_wp2_with (first
      | (at_lookup; refine map_look_some _ rfl _ _ 70 rfl 46 Try.underlying70 _ (hz _) bM nM f rfl hM q hq rfl _ hf ?_))
    go_ret
    exact ⟨rfl, rfl⟩
  · go_enter Try.func60, Try.ntmps60
    go_wp2_with (first
      | (at_lookup; refine map_look_none _ rfl _ _ 70 rfl 46 Try.underlying70 _ (hz _) bM nM f rfl hM q hq rfl hf ?_))
    go_ret
    exact ⟨rfl, rfl⟩
theorem levAt_c (c : UInt8) (q : Bytes) (w : World) (n0 nM : Nat) (f : Bytes → Option Value) (hq : (q ++ [c]).length ≤ maxLen) (hM : MapOf w (n0 + 1) nM f)
    (cM : w.cell? ⟨n0 + 2, 0, none⟩ = some (.map (some (n0 + 1)))) (cN : w.cell? ⟨n0, 0, none⟩ = some (.int .u64 (nil0 : Int))) (v : Nat) (hv : f (q ++ [c]) = some (.int .u64 (v : Int)) ∨ f (q ++ [c]) = none ∧ v = nil0) :
    Calls Try.prog 60 #[.string (S q ++ ⟨#[c]⟩), .pointer (some ⟨n0 + 1 + 1, 0, none⟩), .pointer (some ⟨n0, 0, none⟩)] w fun e w' => e = .returned (.int .u64 (v : Int)) ∧ w' = w := by
  have h := levAt (q ++ [c]) w (n0 + 2) n0 (n0 + 1) nM f hq hM cM cN v hv
  rw [← S_append] at h
  exact h
end Go.Proofs.Ytmmmolbejfdamaa
