/- A clerk among a law's arguments, within the form's own reach. -/
import Derived.Test.YtjcockcilkiggaaJ40
import Derived.Test.YtjcockcilkiggaaJ15
namespace Go.Proofs.Ytjcockcilkiggaa
set_option maxRecDepth 100000
open Go.ChangeShapes Go.WideShapes Go.ChangeAt Go.RowKit Go.Joins

section
variable {H : Type} {enc : TypeId × Value → H} {W : World} {base : Nat} {v : Value} {d : DataW H} {ps : List MemPlace}
theorem weightsAll_mem {P : Program} {e : TypeId} : ∀ {l : List (DataW H)} {d : DataW H}, d ∈ l → ∀ n ∈ d.weights P e, n ∈ DataW.weightsAll P e l
  | x :: l, d, hd, n, hn => by
    simp only [DataW.weightsAll, List.mem_append]
    rcases List.mem_cons.1 hd with rfl | h
    · exact .inl hn
    · exact .inr (weightsAll_mem h n hn)
  | [], _, hd, _, _ => by simp at hd
theorem len_sized {P : Program} {w : World} {b : Nat} {spare : Nat → Bool} {held : Bool} {t e : TypeId} {fuel : Nat} {A : Option Addr} {n c : Nat} {x : DataW H × List MemPlace} (ht : P.underlying t = some (.slice e)) (h : DataW.trod enc P w b spare held fuel t [.slice A n c] = some x)
    (hw : ∀ m ∈ x.1.weights P t, m ≤ reachBytes) : n * P.bytesOf e ≤ reachBytes := by
  rcases Go.Deep.open_slice ht h with ⟨hcs, hx⟩ | ⟨a, len, cap, m, k, D, Pl, hcs, _, hl, hm, hmm, hx, hcell⟩
  · injection hcs with e1 _
    injection e1 with _ e2 _
    rw [e2, Nat.zero_mul]
    exact Nat.zero_le _
  · injection hcs with e1 _
    injection e1 with _ e2 _
    rw [hx] at hw
    have := hw _ (by simp only [DataW.weights, ht]; exact List.mem_cons_self)
    rw [List.length_map, List.length_range, ← e2] at this
    exact Nat.le_trans (Nat.mul_le_mul_right _ (Nat.le_add_right _ _)) this
theorem arg_clerk_sized {ts : List TypeId} {ds : List (DataW H)} {j : Nat} (hsz : (DataW.weightsEach Try.prog ts ds).all (· ≤ reachBytes) = true) (ht : ts[j]? = some 28) (hd : ds[j]? = some d)
    (hok : Value.okWide Try.prog W .any base 28 v) (h : DataW.Trod enc Try.prog W 0 (fun _ => true) true 28 v d ps) :
    ∃ (m ba ev nw : Int) (A I B : Option Addr) (c d' e : Nat) (l : List Ak) (hs : List Hd) (bs : List Bp), v = .agg #[.int .i64 m, .slice A l.length c, .int .i64 ba, .int .i64 ev, .int .i64 nw, .slice I hs.length d', .slice B bs.length e] ∧
      (l.length * 48 ≤ 140737488351232 ∧ hs.length * 32 ≤ 140737488351232 ∧ bs.length * 24 ≤ 140737488351232 ∧ ∀ p ∈ bs, p.2.2.length * 32 ≤ 140737488351232) ∧
      (l.length ≤ maxLen ∧ Row W A (qcells l) ∧ l.length ≤ c ∧ c ≤ maxLen ∧ (∀ x ∈ l, (x.1.length ≤ maxLen ∧ x.2.1.length ≤ maxLen) ∧ x.2.2.1 < 18446744073709551616 ∧ x.2.2.2 < 18446744073709551616)) ∧
      (hs.length ≤ maxLen ∧ Row W I (hcells hs) ∧ hs.length ≤ d' ∧ d' ≤ maxLen ∧ (∀ x ∈ hs, (-9223372036854775808 ≤ x.1 ∧ x.1 ≤ 9223372036854775807) ∧ x.2.1 < 18446744073709551616 ∧ x.2.2.1 < 18446744073709551616 ∧ (-9223372036854775808 ≤ x.2.2.2 ∧ x.2.2.2 ≤ 9223372036854775807))) ∧
      (bs.length ≤ maxLen ∧ Books W B bs ∧ bs.length ≤ e ∧ e ≤ maxLen ∧ ∀ p ∈ bs, (p.2.2.length ≤ maxLen ∧ ∀ x ∈ p.2.2, x.1.length ≤ maxLen ∧ x.2.length ≤ maxLen) ∧ p.2.2.length ≤ p.2.1) := by
  obtain ⟨m, ba, ev, nw, A, I, B, c, d', e, l, hs, bs, rfl, _, hq, hh, hk⟩ := arg_clerk hok h
  refine ⟨m, ba, ev, nw, A, I, B, c, d', e, l, hs, bs, rfl, ?_, hq, hh, hk⟩
  have hR : reachBytes = 140737488351232 := by kernel_rfl
  have hcq : Try.prog.cellsOf 24 = 2 := by kernel_rfl
  have hc1 : Try.prog.cellsOf 3 = 1 := by kernel_rfl
  have hc2 : Try.prog.cellsOf 22 = 1 := by kernel_rfl
  have hc3 : Try.prog.cellsOf 2 = 1 := by kernel_rfl
  have hc4 : Try.prog.cellsOf 25 = 1 := by kernel_rfl
  have hc5 : Try.prog.cellsOf 26 = 1 := by kernel_rfl
  have hc6 : Try.prog.cellsOf 43 = 1 := by kernel_rfl
  have hw : ∀ n ∈ d.weights Try.prog 28, n ≤ reachBytes := fun n hn => by
    have := List.all_eq_true.1 hsz n (DataW.weights_mem_each ht hd n hn)
    simpa using this
  obtain ⟨fuel, hf⟩ := h
  obtain ⟨y0, y1, y2, y3, y4, y5, k, hx, _, h0, h1, h2, h3, h4, h5⟩ := trod_struct6 Try.underlying28 hf
  simp [Value.cells, hcq, hc1, hc3, hc4, hc5] at h0 h1 h2 h3 h4 h5
  obtain ⟨z0, z1, k', hx0, _, g0, g1⟩ := trod_struct2 Try.underlying24 h0
  simp [hc1, hc2] at g0 g1
  have hxd : d = .agg [y0.1, y1.1, y2.1, y3.1, y4.1, y5.1] := congrArg Prod.fst hx
  have hxq : y0.1 = .agg [z0.1, z1.1] := congrArg Prod.fst hx0
  have w0 : ∀ n ∈ y0.1.weights Try.prog 24, n ≤ reachBytes := fun n hn => hw n (by rw [hxd]; simp only [DataW.weights, Try.underlying28]; simp [DataW.weightsEach, hn])
  have w1 : ∀ n ∈ z1.1.weights Try.prog 22, n ≤ reachBytes := fun n hn => w0 n (by rw [hxq]; simp only [DataW.weights, Try.underlying24]; simp [DataW.weightsEach, hn])
  have w4 : ∀ n ∈ y4.1.weights Try.prog 25, n ≤ reachBytes := fun n hn => hw n (by rw [hxd]; simp only [DataW.weights, Try.underlying28]; simp [DataW.weightsEach, hn])
  have w5 : ∀ n ∈ y5.1.weights Try.prog 26, n ≤ reachBytes := fun n hn => hw n (by rw [hxd]; simp only [DataW.weights, Try.underlying28]; simp [DataW.weightsEach, hn])
  have b1 : Try.prog.bytesOf 35 = 48 := by kernel_rfl
  have b4 : Try.prog.bytesOf 42 = 32 := by kernel_rfl
  have b5 : Try.prog.bytesOf 43 = 24 := by kernel_rfl
  have b6 : Try.prog.bytesOf 48 = 32 := by kernel_rfl
  have s1 := len_sized Try.underlying22 g1 w1
  have s4 := len_sized Try.underlying25 h4 w4
  have s5 := len_sized Try.underlying26 h5 w5
  rw [b1, hR] at s1
  rw [b4, hR] at s4
  rw [b5, hR] at s5
  refine ⟨s1, s4, s5, fun p hp => ?_⟩
  obtain ⟨i, hi, rfl⟩ := List.getElem_of_mem hp
  obtain ⟨g, off, eB, hcell, _⟩ := hk.2.1.get i hi
  rcases Go.Deep.open_slice1 Try.underlying26 hc6 h5 with ⟨hcs, _⟩ | ⟨a, len', cap', m', n, V, D, Pl, hcs, _, hl, hm, hmm, hx5, hc⟩
  · injection hcs with e1 _
    injection e1 with _ e2 _
    omega
  · injection hcs with e1 _
    injection e1 with e1 e2 e3
    simp only [if_true] at hmm
    obtain ⟨q1, q2⟩ := hc i (by omega)
    rw [eB] at e1
    injection e1 with e1
    rw [← e1, Go.WideShapes.add_plain] at q1
    rw [hcell] at q1
    injection q1 with q1
    rw [← q1] at q2
    have := len_sized Try.underlying43 q2 (fun n hn => w5 n (by
      rw [show y5.1 = _ from congrArg Prod.fst hx5]
      simp only [DataW.weights, Try.underlying26]
      refine List.mem_cons_of_mem _ (List.mem_append_left _ (weightsAll_mem (List.mem_map.2 ⟨i, List.mem_range.2 (by omega), rfl⟩) n hn))))
    rw [b6, hR] at this
    exact this
end
end Go.Proofs.Ytjcockcilkiggaa
