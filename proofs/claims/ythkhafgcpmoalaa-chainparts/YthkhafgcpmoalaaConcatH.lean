/- slices.Concat at two []api.Head returns a new slice with the heads of both. It writes nothing that was there. -/
import Derived.Test.YthkhafgcpmoalaaHeadRow
import Derived.Lib.AppendZerosOnto
import Derived.Deep.DeepAppendRoom
import Derived.Handy
namespace Go.Proofs.Ythkhafgcpmoalaa
set_option maxRecDepth 100000
open Go.RowKit

set_option maxHeartbeats 400000 in
theorem growH_nil (k : Nat) (w : World) (hk : k * 32 ≤ 281474976710656) (hkp : 0 < k) :
    Calls Try.prog 42 #[.slice none 0 0, .int .i64 (k : Int)] w (HeadsGives [] w) := by
  obtain ⟨i0, hi, hz0, hz1, hz2⟩ := hd_info
  have hr := fun ty => Lib.run_append_grow_zeros (P := Try.prog) w 22 3 ty 25 i0 (.agg #[.int .i64 0, .int .u64 0, .int .u64 0, .int .i64 0]) .i64 .i64 Try.underlying22 Try.underlying3 hi hz0 none 0 0 [] (by simp [Builtin.firstCells]) k (by omega) (by omega) (by omega) (by omega) (by rw [hz2]; omega) (by rw [hz2, Builtin.nextslicecap, if_pos (by omega)]; omega)
  have hcap := grownCap_ge w (0 + k) 0 25
  have hmax := grownCap_le_maxLen w (0 + k) 0 25 (by unfold maxLen; omega)
  generalize grownCap w (0 + k) 0 25 = cap at *
  clear hi hz0 hz1 hz2
  simp only [Nat.zero_add] at hr hcap
  have hcp : 0 < cap := by omega
  go_enter Try.func42, Try.ntmps42
  go_wp2_with (at_builtin; refine app_run _ rfl _ _ _ _ rfl _ _ _ _ rfl rfl (hr _) ?_)
  go_ret
  refine ⟨_, cap, rfl, ⟨by simp [hcells], .inr ⟨w.heap.size, cap, _, rfl, Nat.le_refl _, heap_alloc_new w.drew _, Nat.zero_le _, hmax, ?_, by simp [hcells]⟩⟩, ((Below.refl _ _).drew).alloc (Nat.le_refl _) _⟩
  simp [Builtin.zeroCells]
  omega

set_option maxHeartbeats 1000000 in
theorem concatH2 (g : Nat) (A B : Option Addr) (c d : Nat) (ss tt : List Hd) (w : World) (hs : 0 < ss.length) (ht : 0 < tt.length) (hk : ss.length + tt.length ≤ 1000)
    (h0 : w.cell? ⟨g, 0, none⟩ = some (.slice A ss.length c)) (h1 : w.cell? ⟨g, 1, none⟩ = some (.slice B tt.length d)) (hA : Row w A (hcells ss)) (hB : Row w B (hcells tt)) :
    Calls Try.prog 26 #[.slice (some ⟨g, 0, none⟩) 2 2] w (HeadsGives (ss ++ tt) w) := by
  go_enter Try.func26, Try.ntmps26
  go_wp2_with fail
  refine wp_loop_rounds 3 ?_
  rw [rounds_succ]
  go_wp2_with fail
  rw [rounds_succ]
  go_wp2_with fail
  rw [rounds_succ]
  go_wp2_with fail
  rw [show ((ss.length : Int) + (tt.length : Int)) = ((ss.length + tt.length : Nat) : Int) from by omega]
  refine (growH_nil (ss.length + tt.length) _ (by omega) (by omega)).mono ?_
  rintro e w1 ⟨A1, c1, rfl, hown1, hb1⟩
  have g0 := kept h0 hb1
  have hA1 := hA.below hb1
  go_wp2_with fail
  refine wp_loop_rounds 3 ?_
  rw [rounds_succ]
  go_wp2_with (at_builtin; refine app_heads w1 rfl _ _ rfl w.heap.size (.slice A1 0 c1) [] rfl hown1 A c ss rfl hA1 hs (by simp; omega) hb1.size ?_; intro v2 w2 hown2 hg2)
  have hb2 : Below w.heap.size w w2 := hb1.grown hg2 hb1.size (fun k hk' => (hown1.lt k hk').1)
  simp only [List.nil_append] at hown2
  clear g0 hA1
  have g1 := kept h1 hb2
  have hB2 := hB.below hb2
  obtain ⟨A2, c2, rfl⟩ := own_shape hown2
  rw [rounds_succ]
  go_wp2_with (at_builtin; refine app_heads w2 rfl _ _ rfl w.heap.size (.slice A2 ss.length c2) ss rfl hown2 B d tt rfl hB2 ht (by omega) hb2.size ?_; intro v3 w3 hown3 hg3)
  have hb3 : Below w.heap.size w w3 := hb2.grown hg3 hb2.size (fun k hk' => (hown2.lt k hk').1)
  obtain ⟨A3, c3, rfl⟩ := own_shape hown3
  clear g1 hB2
  rw [rounds_succ]
  go_wp2
  go_ret
  exact ⟨A3, c3, rfl, hown3, hb3⟩
/-- The same at a new array of slices. -/
theorem concatH2' (w0 : World) (ty : TypeId) (g : Nat) (hg : g = w0.heap.size) (A B : Option Addr) (c d : Nat) (ss tt : List Hd) (na nb : Nat) (ha : ss.length = na) (hb : tt.length = nb) (hs : 0 < na) (ht : 0 < nb) (hk : na + nb ≤ 1000)
    (hA : Row w0 A (hcells ss)) (hB : Row w0 B (hcells tt)) :
    Calls Try.prog 26 #[.slice (some ⟨g, 0, none⟩) 2 2] (w0.alloc (.cells #[.slice A na c, .slice B nb d] ty)) (HeadsGives (ss ++ tt) (w0.alloc (.cells #[.slice A na c, .slice B nb d] ty))) := by
  subst hg; subst ha; subst hb
  exact concatH2 w0.heap.size A B c d ss tt _ hs ht hk (by rw [World.cell?_alloc_new]; rfl) (by rw [World.cell?_alloc_new]; rfl) (hA.alloc _) (hB.alloc _)
end Go.Proofs.Ythkhafgcpmoalaa
