/- Package chain: last, between, Follows. They write nothing that was there. -/
import Derived.Test.YthkhafgcpmoalaaChainCheck
import Derived.Laws.ResultCell
namespace Go.Proofs.Ythkhafgcpmoalaa
set_option maxRecDepth 100000
open Go.RowKit

/-- A function whose one result lies in a cell. -/
theorem results_cellOne {fn : Func} {p : Tmp} {ty : TypeId} (h : fn.results = #[.cell p ty]) (tmps : Array Value) (P : Program) (w : World) :
    (results fn tmps).run P w = ((asAddr (tmps.getD p undef)).run P w).andThen fun a w₁ => (loadVar ty a).run P w₁ := by
  simp only [results, h]
  simp [Sem.run_bind, Result.andThen]

/-- The last head of a list. -/
def lastH (l : List Hd) : Hd := l[l.length - 1]?.getD (0, 0, 0, 0)
theorem lastH_eq {l : List Hd} (h : l.length - 1 < l.length) : lastH l = l[l.length - 1] := by simp [lastH, h]
theorem lastH_at {l : List Hd} {n : Nat} (h : l.length = n + 1) : lastH l = l[n]'(by omega) := by
  have e : l.length - 1 = n := by omega
  simp only [lastH, e]
  rw [List.getElem?_eq_getElem (by omega)]
  rfl
/-- The first head of a list. -/
def firstH (l : List Hd) : Hd := l[0]?.getD (0, 0, 0, 0)
theorem firstH_at {l : List Hd} (h : 0 < l.length) : firstH l = l[0] := by simp [firstH, h]

set_option maxHeartbeats 1000000 in
theorem chainLast (A : Option Addr) (c : Nat) (l : List Hd) (w : World) (h0 : 0 < l.length) (hm : l.length ≤ maxLen) (hA : Row w A (hcells l)) (ep : Int) (rt pv : Nat) (tm : Int) (hx : lastH l = (ep, rt, pv, tm)) :
    Calls Try.prog 31 #[.slice A l.length c] w fun e w' => e = .returned (.agg #[.int .i64 ep, .int .u64 (rt : Int), .int .u64 (pv : Int), .int .i64 tm]) ∧ Below w.heap.size w w' := by
  unfold maxLen at hm
  obtain ⟨n, hn⟩ : ∃ n, l.length = n + 1 := ⟨l.length - 1, by omega⟩
  rw [lastH_at hn] at hx
  have hA0 := hA.alloc (.cells #[.int .i64 0, .int .u64 0, .int .u64 0, .int .i64 0] 25)
  obtain ⟨g, off, rfl, h1, h2, h3, h4⟩ := hA0.head n (by omega)
  rw [hx] at h1 h2 h3 h4
  rw [hn] at hm ⊢
  clear hx hA hA0 hn h0
  dsimp only at h1 h2 h3 h4
  have i2 : (0 : Int) ≤ (n : Int) := by omega
  have hb9 : Below w.heap.size w (w.alloc (.cells #[.int .i64 ep, .int .u64 (rt : Int), .int .u64 (pv : Int), .int .i64 tm] 25)) := (Below.refl _ _).alloc (Nat.le_refl _) _
  have hz9 := Bx.new w _ rfl _ [.int .i64 ep, .int .u64 (rt : Int), .int .u64 (pv : Int), .int .i64 tm] 25 rfl
  go_enter Try.func31, Try.ntmps31
  go_wp2
  generalize (w.alloc (.cells #[.int .i64 ep, .int .u64 (rt : Int), .int .u64 (pv : Int), .int .i64 tm] 25)) = w9 at *
  obtain ⟨⟨r0, r1, r2, r3⟩, _⟩ := hz9.get4
  refine bodyPost_ret (v := .agg #[.int .i64 ep, .int .u64 (rt : Int), .int .u64 (pv : Int), .int .i64 tm]) ?_ rfl ⟨rfl, hb9⟩
  rw [results_cellOne rfl]
  go_simp

/-- A part of a list of heads, in the list's own memory. -/
def PartOf (T : List Hd) (w : World) (e : Ending) (w' : World) : Prop := ∃ B d, e = .returned (.slice B T.length d) ∧ Row w B (hcells T) ∧ T.length ≤ d ∧ w = w'
/-- The heads from a place on, so many. -/
def cut (l : List Hd) (p n : Nat) : List Hd := (l.drop p).take n
theorem cut_length (l : List Hd) (p n : Nat) (h : p + n ≤ l.length) : (cut l p n).length = n := by rw [cut, List.length_take, List.length_drop]; omega
theorem cut_get (l : List Hd) (p n i : Nat) (h : p + n ≤ l.length) (hi : i < n) : (cut l p n)[i]'(by rw [cut_length l p n h]; exact hi) = l[p + i]'(by omega) := by
  simp only [cut, List.getElem_take, List.getElem_drop]
set_option maxHeartbeats 1000000 in
theorem chainBetween (A : Option Addr) (c : Nat) (l : List Hd) (w : World) (hA : Row w A (hcells l)) (hc : l.length ≤ c) (hcm : c ≤ maxLen) (p n : Nat) (hn : 0 < n) (hp : p + n ≤ l.length) (f0 fr to : Int) (hf : (firstH l).1 = f0) (hfr : fr = f0 + p) (hto : to = f0 + p + n - 1) (hs : l.length ≤ 40) :
    Calls Try.prog 32 #[.slice A l.length c, .int .i64 fr, .int .i64 to] w (PartOf (cut l p n) w) := by
  unfold maxLen at hcm
  obtain ⟨g, off, rfl, z1, z2, z3, z4⟩ := hA.head 0 (by omega)
  rw [firstH_at (by omega)] at hf
  rw [hf, Nat.zero_mul, Nat.add_zero] at z1
  have hR : Row w (some ⟨g, off + p * 4, none⟩) (hcells (cut l p n)) := by
    have := (hA.dropH p).takeH n
    rw [Option.map_some, Go.WideShapes.add_plain] at this
    exact this
  have hl := cut_length l p n hp
  have e1 : IntKind.i64.wrap (fr - f0) = (p : Int) := by rw [IntKind.wrap_i64]; omega
  have e2 : IntKind.i64.wrap (to - f0) = (p : Int) + n - 1 := by rw [IntKind.wrap_i64]; omega
  have k0 : ¬ (l.length : Int) ≤ 0 := by omega
  have k1 : (0 : Int) < (l.length : Int) := by omega
  have e4 : fr - f0 = (p : Int) := by omega
  have e5 : to - f0 + 1 = (p : Int) + n := by omega
  have k2 : (0 : Int) ≤ (p : Int) := by omega
  have k3 : (p : Int) ≤ (p : Int) + n := by omega
  have k4 : (p : Int) + n ≤ (c : Int) := by omega
  clear hA hf z2 z3 z4
  go_enter Try.func32, Try.ntmps32
  go_wp2
  go_ret
  have t1 : (f0 + (p : Int) - f0).toNat = p := by omega
  have t2 : (f0 + (p : Int) + n - 1 - f0 + 1).toNat - p = (cut l p n).length := by omega
  rw [t1, t2]
  exact ⟨_, _, rfl, hR, by omega, rfl⟩
end Go.Proofs.Ythkhafgcpmoalaa
