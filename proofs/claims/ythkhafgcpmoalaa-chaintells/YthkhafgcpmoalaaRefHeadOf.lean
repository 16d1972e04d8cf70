/- The reference: HeadOf. It writes nothing that was there. -/
import Derived.Test.YthkhafgcpmoalaaHeadRow
import Derived.Laws.ResultCell
namespace Go.Proofs.Ythkhafgcpmoalaa
set_option maxRecDepth 100000
open Go.RowKit

/-- The head of an epoch. -/
def hof (l : List Hd) (ep : Int) : Option Hd := l.find? fun h => h.1 == ep
set_option maxHeartbeats 1000000 in
theorem refHeadOf (A : Option Addr) (c : Nat) (l : List Hd) (q : Int) (w : World) (hm : l.length ≤ maxLen) (hA : Row w A (hcells l)) (ep : Int) (rt pv : Nat) (tm : Int) (b : Bool) (hr : hof l q = if b = true then some (ep, rt, pv, tm) else none) (hz : b = false → ep = 0 ∧ rt = 0 ∧ pv = 0 ∧ tm = 0) :
    Calls Try.prog 15 #[.slice A l.length c, .int .i64 q] w fun e w' => e = .returned (.tuple #[.agg #[.int .i64 ep, .int .u64 (rt : Int), .int .u64 (pv : Int), .int .i64 tm], .bool b]) ∧ Below w.heap.size w w' := by
  unfold maxLen at hm
  have HR := Lib.hid hr
  have HZ := Lib.hid hz
  clear hr hz
  have hz0 := Bx.new w _ rfl _ [.int .i64 0, .int .u64 0, .int .u64 0, .int .i64 0] 25 rfl
  have hb0 : Below w.heap.size w (w.alloc (.cells #[.int .i64 0, .int .u64 0, .int .u64 0, .int .i64 0] 25)) := (Below.refl _ _).alloc (Nat.le_refl _) _
  have hs0 : (w.alloc (.cells #[.int .i64 0, .int .u64 0, .int .u64 0, .int .i64 0] 25)).heap.size = w.heap.size + 1 := by simp
  go_enter Try.func15, Try.ntmps15
  go_wp2
  generalize (w.alloc (.cells #[.int .i64 0, .int .u64 0, .int .u64 0, .int .i64 0] 25)) = v0 at *
  go_loopw [10] (fun i wr => ∃ k : Nat, k ≤ l.length ∧ i = .int .i64 k ∧ Hid (hof l q = hof (l.drop k) q) ∧ Bx wr w.heap.size [.int .i64 0, .int .u64 0, .int .u64 0, .int .i64 0] ∧ Below w.heap.size w wr) (fun i _ => l.length - (intOf i).toNat)
  case atStart => exact ⟨0, Nat.zero_le _, rfl, rfl, hz0, hb0⟩
  case round =>
    obtain ⟨k, hk, rfl, HS, hx, hbl⟩ := hrel
    clear hz0 hb0
    by_cases hlt : k < l.length
    · obtain ⟨g, off, rfl, h1, h2, h3, h4⟩ := (hA.below hbl).head k hlt
      have hi0 : (0 : Int) ≤ (k : Int) := by omega
      have hi1 : (k : Int) < (l.length : Int) := by omega
      have HS' : Hid (hof l q = if (l[k].1 == q) = true then some l[k] else hof (l.drop (k + 1)) q) := by
        show _ = _
        rw [HS.out, List.drop_eq_getElem_cons hlt]
        unfold hof
        rw [List.find?_cons]
        cases l[k].1 == q <;> rfl
      clear hA HS
      obtain ⟨⟨fp, st, qv, um⟩, hx0⟩ : ∃ x, l[k] = x := ⟨_, rfl⟩
      rw [hx0] at h1 h2 h3 h4 HS'
      clear hx0
      dsimp only at h1 h2 h3 h4 HS'
      have hx1 := hx.alloc (.cells #[.int .i64 fp, .int .u64 (st : Int), .int .u64 (qv : Int), .int .i64 um] 25)
      have hbl1 := hbl.alloc hbl.size (.cells #[.int .i64 fp, .int .u64 (st : Int), .int .u64 (qv : Int), .int .i64 um] 25)
      have hy := Bx.new wr _ rfl _ [.int .i64 fp, .int .u64 (st : Int), .int .u64 (qv : Int), .int .i64 um] 25 rfl
      clear hx
      cases hc : fp == q with
      | true =>
        rw [hc, if_pos rfl] at HS'
        obtain rfl : b = true := by
          cases b with
          | true => rfl
          | false =>
            have := HR.out
            rw [HS'.out] at this
            cases this
        have e := HR.out
        rw [HS'.out, if_pos rfl] at e
        injection e with e
        simp only [Prod.mk.injEq] at e
        obtain ⟨rfl, rfl, rfl, rfl⟩ := e
        clear HR HS' HZ
        obtain ⟨⟨z0, z1, z2, z3⟩, f0, f1, f2, f3⟩ := hx1.get4
        obtain ⟨⟨y0, y1, y2, y3⟩, -⟩ := hy.get4
        have hx2 := hx1.set4 (.int .i64 fp) (.int .u64 (st : Int)) (.int .u64 (qv : Int)) (.int .i64 um)
        have hbl2 := below_set4 hbl1 (Nat.le_refl _) (.int .i64 fp) (.int .u64 (st : Int)) (.int .u64 (qv : Int)) (.int .i64 um)
        go_wp2
        obtain ⟨⟨z0, z1, z2, z3⟩, -⟩ := hx2.get4
        refine bodyPost_ret (v := .tuple #[.agg #[.int .i64 fp, .int .u64 (st : Int), .int .u64 (qv : Int), .int .i64 um], .bool true]) ?_ rfl ⟨rfl, hbl2⟩
        rw [results_cell_tmp rfl]
        go_simp
      | false =>
        rw [hc, if_neg (by simp)] at HS'
        obtain ⟨⟨y0, y1, y2, y3⟩, -⟩ := hy.get4
        go_wp2
        go_roundw
        case rel => exact ⟨k + 1, by omega, by go_num, HS', hx1, hbl1⟩
        case measure => simp [intOf]; omega
    · have HN : Hid (hof l q = none) := by
        show _ = _
        rw [HS.out, List.drop_eq_nil_of_le (by omega)]
        rfl
      obtain rfl : b = false := by
        cases b with
        | false => rfl
        | true =>
          have := HR.out
          rw [HN.out] at this
          cases this
      obtain ⟨rfl, rfl, rfl, rfl⟩ := HZ.out rfl
      clear HS HR HZ HN
      obtain ⟨⟨z0, z1, z2, z3⟩, f0, f1, f2, f3⟩ := hx.get4
      have hx2 := hx.set4 (.int .i64 0) (.int .u64 0) (.int .u64 0) (.int .i64 0)
      have hbl2 := below_set4 hbl (Nat.le_refl _) (.int .i64 0) (.int .u64 0) (.int .u64 0) (.int .i64 0)
      go_wp2
      obtain ⟨⟨z0, z1, z2, z3⟩, -⟩ := hx2.get4
      refine bodyPost_ret (v := .tuple #[.agg #[.int .i64 0, .int .u64 0, .int .u64 0, .int .i64 0], .bool false]) ?_ rfl ⟨rfl, hbl2⟩
      rw [results_cell_tmp rfl]
      go_simp
end Go.Proofs.Ythkhafgcpmoalaa
