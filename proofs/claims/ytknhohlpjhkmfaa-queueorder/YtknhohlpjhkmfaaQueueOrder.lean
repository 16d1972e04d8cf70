/- The law QueueOrder returns true: whatever is put into a queue and taken from it, requests are taken in the order in which they were put. No conditions: true for all arguments. -/
import Derived.Test.YtknhohlpjhkmfaaQueueLive
import Derived.Test.YtknhohlpjhkmfaaQueueRows
import Derived.Test.YtknhohlpjhkmfaaQueueArgs
namespace Go.Proofs.Ytknhohlpjhkmfaa
set_option maxRecDepth 100000
open Go.ChangeShapes Go.WideShapes Go.ChangeAt Go.RowKit

set_option maxHeartbeats 8000000 in
theorem queueOrder_walk (most : Int) (A : Option Addr) (c : Nat) (l : List Ak) (B : Option Addr) (d : Nat) (zs : List Int) (w : World) (_hm : l.length ≤ maxLen) (hl : ∀ x ∈ l, (x.1.length ≤ maxLen ∧ x.2.1.length ≤ maxLen) ∧ x.2.2.1 < 18446744073709551616 ∧ x.2.2.2 < 18446744073709551616)
    (hA : Row w A (qcells l)) (_hz : zs.length ≤ maxLen) (hB : Row w B (icells zs)) :
    Calls Try.prog 4 #[.int .i64 most, .slice A l.length c, .slice B zs.length d] w fun e w' => e = .returned (.bool true) ∧ Below w.heap.size w w' := by
  unfold maxLen at _hm _hz
  have hJ := fun w => Lib.hid (queues w)
  obtain ⟨r, hr⟩ : ∃ r, qfault most [] = r := ⟨_, rfl⟩
  have hC := fun (w : World) => Lib.hid (queueCheck most none 0 [] w (by simp) (by simp) (Row.nil_ _ _) r hr)
  rw [List.length_nil] at hC
  by_cases h0 : r = 0
  case neg =>
    have c0 : (r != 0) = true := bne_iff_ne.2 h0
    clear hr hl h0 hA hB
    go_enter Try.func4, Try.ntmps4
    go_wp2_with fail
    refine (hJ _).out.mono ?_
    rintro e w1 ⟨rfl, hb1⟩
    have hb2 := hb1.alloc hb1.size (.cells #[.int .i64 most, .slice none 0 0] 24)
    have hz2 := (Bx.new w1 _ rfl _ [.int .i64 most, .slice none 0 0] 24 rfl).get2.1
    obtain ⟨z0, z1⟩ := hz2
    go_wp2_with fail
    refine (hC _).out.mono ?_
    rintro e w2 ⟨rfl, hb3⟩
    go_wp2
    go_ret
    exact ⟨rfl, below_chain hb2 hb3⟩
  subst h0
  have HG0 : Hid (QGood most []) := (qfault_ok _ _).1 hr
  have HL := Lib.hid hl
  clear hr hl
  go_enter Try.func4, Try.ntmps4
  go_wp2_with fail
  refine (hJ _).out.mono ?_
  rintro e w1 ⟨rfl, hb1⟩
  have hs1 := hb1.size
  have hb2 := hb1.alloc hb1.size (.cells #[.int .i64 most, .slice none 0 0] 24)
  have hx2 := Bx.new w1 _ rfl _ [.int .i64 most, .slice none 0 0] 24 rfl
  obtain ⟨z0, z1⟩ := hx2.get2.1
  go_wp2_with fail
  refine (hC _).out.mono ?_
  rintro e w2 ⟨rfl, hb3⟩
  have hbl0 := below_chain hb2 hb3
  have hx3 := hx2.below hb3
  clear z0 z1 hx2 hb2 hb3 hJ hC hb1
  generalize w1.heap.size = g at *
  go_wp2
  go_loopw [8, 9, 27] (fun vi vo i wr => ∃ (k : Nat) (IN OUT QW : List Ak) (vq : Value), k ≤ l.length ∧ k ≤ 100 ∧ i = .int .i64 k ∧ Hid (IN = OUT ++ QW) ∧ IN.length ≤ k ∧ Hid (QGood most QW) ∧ Ord g most IN OUT QW vi vo vq wr ∧ Below w.heap.size w wr) (fun _ _ i _ => l.length - (intOf i).toNat)
  case atStart => exact ⟨0, [], [], [], .slice none 0 0, Nat.zero_le _, Nat.zero_le _, rfl, rfl, Nat.le_refl _, HG0, ⟨own_nilQ _ _, own_nilQ _ _, own_nilQ _ _, hx3, fun k h => by simp [Value.ownBlock] at h, fun k h => by simp [Value.ownBlock] at h, fun k h => by simp [Value.ownBlock] at h⟩, hbl0⟩
  case round =>
    obtain ⟨k, IN, OUT, QW, vq, hk, hk100, rfl, HE, hin, HG, O, hbl⟩ := hrel
    clear hx3 hbl0 HG0
    obtain ⟨Dq, dq, rfl, hRq, hdq⟩ := O.row
    obtain ⟨Di, di, rfl⟩ := own_shape O.i
    obtain ⟨Do, do', rfl⟩ := own_shape O.o
    obtain ⟨q0, q1⟩ := O.b.get2.1
    have hQ30 : QW.length ≤ 30 := by have := HG.out.len; have := HG.out.m30; omega
    have hsz := hbl.size
    have hgw := O.lt
    by_cases hlt : k < l.length
    case neg =>
      have hCc := fun (w0 : World) ty g hg hA hB => Lib.hid (concatQ2' w0 ty g hg Do Dq do' dq OUT QW OUT.length QW.length rfl rfl (by have := congrArg List.length HE.out; rw [List.length_append] at this; omega) hA hB)
      have hEq := fun (C : Option Addr) (cc : Nat) (w : World) hA hC => Lib.hid (eqAsks Di C di cc IN (OUT ++ QW) w (by unfold maxLen; omega) true (decide_eq_true HE.out) hA hC)
      have hCk := fun (w : World) hA => Lib.hid (queueCheck most Dq dq QW w (by unfold maxLen; omega) (qfits_of HG.out) hA 0 ((qfault_ok _ _).2 HG.out))
      have hle : decide ((QW.length : Int) ≤ most) = true := decide_eq_true HG.out.len
      obtain ⟨T, hT⟩ : ∃ T, OUT ++ QW = T := ⟨_, rfl⟩
      rw [hT] at hCc hEq
      clear hT HE HL
      go_wp2_with fail
      refine (hCc _ _ _ (by simp) (Row.ownN O.o) hRq).out.mono ?_
      rintro e w3 ⟨D3, d3, rfl, hown3, hb3⟩
      have hb13 : Below wr.heap.size wr w3 := below_chain (balloc (Below.refl _ _) _) hb3
      have O3 := O.below hb13
      have hRq3 := hRq.below hb13
      have hbl3 := below_chain hbl hb13
      obtain ⟨y0, y1⟩ := O3.b.get2.1
      clear hCc O hRq hb3 hb13 hbl q0 q1
      go_wp2_with fail
      refine (hEq _ _ _ (Row.ownN O3.i) (Row.ownN hown3)).out.mono ?_
      rintro e w4 ⟨rfl, m4, hw4⟩
      have hb34 : Below w3.heap.size w3 w4 := by rw [hw4]; exact below_of_drewN _ _ _
      have O4 := O3.below hb34
      have hRq4 := hRq3.below hb34
      have hbl4 := below_chain hbl3 hb34
      obtain ⟨y0, y1⟩ := O4.b.get2.1
      clear hEq hown3 hw4 hb34 O3 hRq3 hbl3
      go_wp2_with fail
      refine (hCk _ hRq4).out.mono ?_
      rintro e w5 ⟨rfl, hb5⟩
      go_wp2
      go_ret
      exact ⟨rfl, below_chain hbl4 hb5⟩
    case pos =>
      by_cases h100 : k < 100
      case neg =>
        obtain ⟨ga, offa, rfl, j0, j1, j2, j3⟩ := (hA.below hbl).ask k hlt
        have hi0 : (0 : Int) ≤ (k : Int) := by omega
        have hi1 : (k : Int) < (l.length : Int) := by omega
        have c100 : decide ((100 : Int) ≤ (k : Int)) = true := decide_eq_true (by omega)
        have hbA := (Below.refl wr.heap.size wr).alloc (Nat.le_refl _) (.cells #[.string (S l[k].1), .string (S l[k].2.1), .int .u64 (l[k].2.2.1 : Int), .int .u64 (l[k].2.2.2 : Int)] 27)
        have O' := O.below hbA
        have hRq' := hRq.below hbA
        have hbl' := below_chain hbl hbA
        clear O hRq hbl hbA q0 q1
        obtain ⟨q0, q1⟩ := O'.b.get2.1
        generalize l[k].1 = a1 at *
        generalize l[k].2.1 = a2 at *
        generalize l[k].2.2.1 = a3 at *
        generalize l[k].2.2.2 = a4 at *
        have hCc := fun (w0 : World) ty g hg hA hB => Lib.hid (concatQ2' w0 ty g hg Do Dq do' dq OUT QW OUT.length QW.length rfl rfl (by have := congrArg List.length HE.out; rw [List.length_append] at this; omega) hA hB)
        have hEq := fun (C : Option Addr) (cc : Nat) (w : World) hA hC => Lib.hid (eqAsks Di C di cc IN (OUT ++ QW) w (by unfold maxLen; omega) true (decide_eq_true HE.out) hA hC)
        have hCk := fun (w : World) hA => Lib.hid (queueCheck most Dq dq QW w (by unfold maxLen; omega) (qfits_of HG.out) hA 0 ((qfault_ok _ _).2 HG.out))
        have hle : decide ((QW.length : Int) ≤ most) = true := decide_eq_true HG.out.len
        obtain ⟨T, hT⟩ : ∃ T, OUT ++ QW = T := ⟨_, rfl⟩
        rw [hT] at hCc hEq
        clear hT HE HL
        go_wp2_with fail
        refine (hCc _ _ _ (by simp) (Row.ownN O'.o) hRq').out.mono ?_
        rintro e w3 ⟨D3, d3, rfl, hown3, hb3⟩
        have hb13 : Below (wr.alloc (.cells #[.string (S a1), .string (S a2), .int .u64 (a3 : Int), .int .u64 (a4 : Int)] 27)).heap.size (wr.alloc (.cells #[.string (S a1), .string (S a2), .int .u64 (a3 : Int), .int .u64 (a4 : Int)] 27)) w3 := below_chain (balloc (Below.refl _ _) _) hb3
        have O3 := O'.below hb13
        have hRq3 := hRq'.below hb13
        have hbl3 := below_chain hbl' hb13
        obtain ⟨y0, y1⟩ := O3.b.get2.1
        clear hCc O' hRq' hb3 hb13 hbl' q0 q1
        go_wp2_with fail
        refine (hEq _ _ _ (Row.ownN O3.i) (Row.ownN hown3)).out.mono ?_
        rintro e w4 ⟨rfl, m4, hw4⟩
        have hb34 : Below w3.heap.size w3 w4 := by rw [hw4]; exact below_of_drewN _ _ _
        have O4 := O3.below hb34
        have hRq4 := hRq3.below hb34
        have hbl4 := below_chain hbl3 hb34
        obtain ⟨y0, y1⟩ := O4.b.get2.1
        clear hEq hown3 hw4 hb34 O3 hRq3 hbl3
        go_wp2_with fail
        refine (hCk _ hRq4).out.mono ?_
        rintro e w5 ⟨rfl, hb5⟩
        go_wp2
        go_ret
        exact ⟨rfl, below_chain hbl4 hb5⟩
      case pos =>
        obtain ⟨ga, offa, rfl, j0, j1, j2, j3⟩ := (hA.below hbl).ask k hlt
        have hx := HL.out _ (List.getElem_mem hlt)
        have hi0 : (0 : Int) ≤ (k : Int) := by omega
        have hi1 : (k : Int) < (l.length : Int) := by omega
        have c100 : decide ((100 : Int) ≤ (k : Int)) = false := decide_eq_false (by omega)
        obtain ⟨⟨n, v, x, t⟩, ha⟩ : ∃ x, l[k] = x := ⟨_, rfl⟩
        rw [ha] at j0 j1 j2 j3 hx
        dsimp only at j0 j1 j2 j3 hx
        clear ha
        have hbA := (Below.refl wr.heap.size wr).alloc (Nat.le_refl _) (.cells #[.string (S n), .string (S v), .int .u64 (x : Int), .int .u64 (t : Int)] 27)
        have OA := O.below hbA
        have hRA := hRq.below hbA
        have pA := Bx.new wr _ rfl _ [.string (S n), .string (S v), .int .u64 (x : Int), .int .u64 (t : Int)] 27 rfl
        have hblA := below_chain hbl hbA
        obtain ⟨a0, a1, a2, a3⟩ := pA.get4.1
        obtain ⟨qa0, qa1⟩ := OA.b.get2.1
        obtain ⟨r, hr⟩ : ∃ r, putErr most QW (n, v, x, t) = r := ⟨_, rfl⟩
        by_cases h0 : r = 0
        case neg =>
          have hP := fun (w : World) hA => Lib.hid (queuePut_no most Dq dq QW n v x t w (by unfold maxLen; omega) (qfits_of HG.out) hx.1.1 hx.1.2 hA r hr h0)
          have c0 : (r == 0) = false := beq_eq_false_iff_ne.2 h0
          clear hr h0 hx O hRq pA hbl q0 q1
          go_wp2_with fail
          refine (hP _ hRA).out.mono ?_
          rintro e w3 ⟨rfl, hb3⟩
          have hbV' := below_chain hblA (below_chain hb3 (balloc (Below.refl _ _) (.cells #[.int .i64 0, .slice none 0 0] 24)))
          have OV' := OA.below (below_chain hb3 (balloc (Below.refl _ _) (.cells #[.int .i64 0, .slice none 0 0] 24)))
          obtain ⟨V, hV⟩ : ∃ V, w3.alloc (.cells #[.int .i64 0, .slice none 0 0] 24) = V := ⟨_, rfl⟩
          rw [hV] at hbV' OV'
          have HV := Lib.hid hV
          clear hP hb3 OA hRA hblA a0 a1 a2 a3 qa0 qa1 j0 j1 j2 j3 hV hbA
          obtain ⟨IN1, hI1⟩ : ∃ IN1, IN = IN1 := ⟨_, rfl⟩
          subst hI1
          have hin1 : IN.length ≤ k + 1 := by omega
          have hBV := hB.below hbV'
          obtain ⟨y0, y1⟩ := OV'.b.get2.1
          have hRV : Row V Dq (qcells QW) := Row.ownN OV'.q
          obtain ⟨hdV, hdm⟩ := OV'.q.cap
          have hQ1 : QW.length ≤ 30 := by have := HG.out.len; have := HG.out.m30; omega
          clear hB hsz
          by_cases hlz : k < zs.length
          case neg =>
            go_wp2
            rw [HV.out]
            go_roundw
            case rel => exact ⟨k + 1, IN, OUT, QW, _, by omega, by omega, by go_num, HE, by omega, HG, OV', hbV'⟩
            case measure => simp [intOf]; omega
          case pos =>
            obtain ⟨gz, oz, rfl, jz⟩ := hBV.int k hlz
            have hgz : g < V.heap.size := OV'.lt
            have hk0 : (0 : Int) ≤ (k : Int) := by omega
            have hk1 : (k : Int) < (zs.length : Int) := by omega
            have hOb := OV'.b
            generalize zs[k] = z at *
            obtain ⟨tr, htr⟩ : ∃ tr, takeErr most QW z = tr := ⟨_, rfl⟩
            by_cases ht0 : tr = 0
            case neg =>
              have hTk := fun (w : World) hA => Lib.hid (queueTake_no most Dq dq QW z w (by unfold maxLen; omega) (qfits_of HG.out) hA tr htr ht0)
              have ct : (tr == 0) = false := beq_eq_false_iff_ne.2 ht0
              clear htr ht0
              go_wp2
              rw [HV.out]
              refine wp_region_held_drew (S := fun W => W.cell? ⟨g, 0, none⟩ = some (.int .i64 most) ∧ W.cell? ⟨g, 1, none⟩ = some (.slice Dq QW.length dq) ∧ W.cell? ⟨gz, oz + k, none⟩ = some (.int .i64 z)) (by kernel_rfl) ⟨y0, y1, jz⟩ (fun hHeld => ?_)
              refine wpAnyH_take (i := 0) (v := ?_) rfl (by kernel_rfl) (by kernel_rfl) (by kernel_rfl) (fun _ _ _ h => h) (Or.inl ⟨by rfl, ?_⟩) (by assumption) ?_
              rotate_left
              · intro wt hSt
                try dsimp only at hSt
                first | (go_simp; done) | (go_simp; with_reducible rfl)
              simp only [Act.put, List.setIfInBounds_toArray, List.set_cons_zero, List.set_cons_succ, List.getElem_toArray, List.getElem_cons_zero]
              refine wpAnyH_take (i := 1) (v := ?_) rfl (by kernel_rfl) (by kernel_rfl) (by kernel_rfl) (fun _ _ _ h => h) (Or.inl ⟨by rfl, ?_⟩) (by assumption) ?_
              rotate_left
              · intro wt hSt
                try dsimp only at hSt
                first | (go_simp; done) | (go_simp; with_reducible rfl)
              simp only [Act.put, List.setIfInBounds_toArray, List.set_cons_zero, List.set_cons_succ, List.getElem_toArray, List.getElem_cons_zero, List.getElem_cons_succ]
              refine wpAnyH_take (i := 2) (v := ?_) rfl (by kernel_rfl) (by kernel_rfl) (by kernel_rfl) (fun _ _ _ h => h) (Or.inl ⟨by rfl, ?_⟩) (by assumption) ?_
              rotate_left
              · intro wt hSt
                try dsimp only at hSt
                first | (go_simp; done) | (go_simp; with_reducible rfl)
              simp only [Act.put, List.setIfInBounds_toArray, List.set_cons_zero, List.set_cons_succ, List.getElem_toArray, List.getElem_cons_zero, List.getElem_cons_succ]
              refine wpAnyH_take (i := 3) (v := ?_) rfl (by kernel_rfl) (by kernel_rfl) (by kernel_rfl) (fun _ _ _ h => h) (Or.inl ⟨by rfl, ?_⟩) (by assumption) ?_
              rotate_left
              · intro wt hSt
                try dsimp only at hSt
                first | (go_simp; done) | (go_simp; with_reducible rfl)
              simp only [Act.put, List.setIfInBounds_toArray, List.set_cons_zero, List.set_cons_succ, List.getElem_toArray, List.getElem_cons_zero, List.getElem_cons_succ]
              refine wpAnyH_take (i := 4) (v := ?_) rfl (by kernel_rfl) (by kernel_rfl) (by kernel_rfl) (fun _ _ _ h => h) (Or.inl ⟨by rfl, ?_⟩) (by assumption) ?_
              rotate_left
              · intro wt hSt
                try dsimp only at hSt
                first | (go_simp; done) | (go_simp; with_reducible rfl)
              simp only [Act.put, List.setIfInBounds_toArray, List.set_cons_zero, List.set_cons_succ, List.getElem_toArray, List.getElem_cons_zero, List.getElem_cons_succ]
              refine wpAnyH_ready (rs := [5, 10]) (by kernel_rfl) (by simp) ?_
              refine AllReadyH.cons rfl (fun K hK => ?_) (AllReadyH.cons rfl (fun K hK => ?_) (AllReadyH.nil))
              · skip
                go_simp
                go_at_call 7
                refine (hTk _ (hRV.drewN 1)).out.mono ?_
                rintro e w6 ⟨rfl, hb6'⟩
                have hb6 : Below V.heap.size V w6 := below_chain (bdrew (Below.refl _ _)) hb6'
                go_wp2_with fail
                refine hK.out _ _ ⟨(hOb.below hb6).get2.1.1, (hOb.below hb6).get2.1.2, kept jz hb6⟩ (fun hHeld => ?_)
                clear hK K
                refine wpAnyH_take (i := 6) (v := ?_) rfl (by kernel_rfl) (by kernel_rfl) (by kernel_rfl) (fun _ _ _ h => h) (Or.inl ⟨by rfl, ?_⟩) (by assumption) ?_
                rotate_left
                · intro wt hSt
                  try dsimp only at hSt
                  first | (go_simp; done) | (go_simp; with_reducible rfl)
                simp only [Act.put, List.setIfInBounds_toArray, List.set_cons_zero, List.set_cons_succ, List.getElem_toArray, List.getElem_cons_zero, List.getElem_cons_succ]
                refine wpAnyH_take (i := 7) (v := ?_) rfl (by kernel_rfl) (by kernel_rfl) (by kernel_rfl) (fun _ _ _ h => h) (Or.inl ⟨by rfl, ?_⟩) (by assumption) ?_
                rotate_left
                · intro wt hSt
                  try dsimp only at hSt
                  first | (go_simp; done) | (go_simp; with_reducible rfl)
                simp only [Act.put, List.setIfInBounds_toArray, List.set_cons_zero, List.set_cons_succ, List.getElem_toArray, List.getElem_cons_zero, List.getElem_cons_succ]
                refine wpAnyH_take (i := 8) (v := ?_) rfl (by kernel_rfl) (by kernel_rfl) (by kernel_rfl) (fun _ _ _ h => h) (Or.inl ⟨by rfl, ?_⟩) (by assumption) ?_
                rotate_left
                · intro wt hSt
                  try dsimp only at hSt
                  first | (go_simp; done) | (go_simp; with_reducible rfl)
                simp only [Act.put, List.setIfInBounds_toArray, List.set_cons_zero, List.set_cons_succ, List.getElem_toArray, List.getElem_cons_zero, List.getElem_cons_succ]
                refine wpAnyH_take (i := 9) (v := ?_) rfl (by kernel_rfl) (by kernel_rfl) (by kernel_rfl) (fun _ _ _ h => h) (Or.inl ⟨by rfl, ?_⟩) (by assumption) ?_
                rotate_left
                · intro wt hSt
                  try dsimp only at hSt
                  first | (go_simp; done) | (go_simp; with_reducible rfl)
                simp only [Act.put, List.setIfInBounds_toArray, List.set_cons_zero, List.set_cons_succ, List.getElem_toArray, List.getElem_cons_zero, List.getElem_cons_succ]
                refine wpAnyH_ready (rs := [10]) (by kernel_rfl) (by simp) ?_
                refine AllReadyH.cons rfl (fun K hK => ?_) (AllReadyH.nil)
                go_simp
                have hb7 : Below V.heap.size V (w6.alloc (.cells #[.int .i64 0, .slice none 0 0] 24)) := balloc hb6 _
                have z7 := Bx.new w6 w6.heap.size rfl _ [.int .i64 0, .slice none 0 0] 24 rfl
                have hpz : V.heap.size ≤ w6.heap.size := hb6.size
                obtain ⟨⟨z70, z71⟩, ⟨f70, f71⟩⟩ := z7.get2
                refine hK.out _ _ ⟨(hOb.below hb7).get2.1.1, (hOb.below hb7).get2.1.2, kept jz hb7⟩ (fun hHeld => ?_)
                clear hK K
                refine wpAnyH_ready (rs := [11]) (by kernel_rfl) (by simp) ?_
                refine AllReadyH.cons rfl (fun K hK => ?_) (AllReadyH.nil)
                go_simp
                have hb9 : Below V.heap.size V (w6.alloc (.cells #[.int .i64 0, .slice none 0 0] 24)) := balloc hb6 _
                have z9 := Bx.new w6 w6.heap.size rfl _ [.int .i64 0, .slice none 0 0] 24 rfl
                refine hK.out _ _ ⟨(hOb.below hb9).get2.1.1, (hOb.below hb9).get2.1.2, kept jz hb9⟩ (fun hHeld => ?_)
                clear hK K
                refine wpAnyH_take (i := 12) (v := ?_) rfl (by kernel_rfl) (by kernel_rfl) (by kernel_rfl) (fun _ _ _ h => h) (Or.inl ⟨by rfl, ?_⟩) (by assumption) ?_
                rotate_left
                · intro wt hSt
                  try dsimp only at hSt
                  first | (go_simp; done) | (go_simp; with_reducible rfl)
                simp only [Act.put, List.setIfInBounds_toArray, List.set_cons_zero, List.set_cons_succ, List.getElem_toArray, List.getElem_cons_zero, List.getElem_cons_succ]
                refine wpAnyH_take (i := 13) (v := ?_) rfl (by kernel_rfl) (by kernel_rfl) (by kernel_rfl) (fun _ _ _ h => h) (Or.inl ⟨by rfl, ?_⟩) (by assumption) ?_
                rotate_left
                · intro wt hSt
                  try dsimp only at hSt
                  first | (go_simp; done) | (go_simp; with_reducible rfl)
                simp only [Act.put, List.setIfInBounds_toArray, List.set_cons_zero, List.set_cons_succ, List.getElem_toArray, List.getElem_cons_zero, List.getElem_cons_succ]
                refine wpAnyH_done (by kernel_rfl) ?_ _
                have O9 := OV'.below hb9
                have hb10 := below_chain hbV' hb9
                clear hbV' OV' hb6' hb6 hb7 hb9 z7 z70 z71 f70 f71 z9 hOb jz hBV hRV y0 y1
                go_wp2
                go_roundw
                case rel => exact ⟨k + 1, IN, OUT, QW, _, by omega, by omega, by go_num, HE, by omega, HG, O9, hb10⟩
                case measure => simp [intOf]; omega
              · skip
                go_simp
                have hbA : Below V.heap.size V (V.drew.alloc (.cells #[.int .i64 0, .slice none 0 0] 24)) := balloc (bdrew (Below.refl _ _)) _
                have zA := Bx.new V.drew V.heap.size rfl _ [.int .i64 0, .slice none 0 0] 24 rfl
                refine hK.out _ _ ⟨(hOb.below hbA).get2.1.1, (hOb.below hbA).get2.1.2, kept jz hbA⟩ (fun hHeld => ?_)
                clear hK K
                refine wpAnyH_ready (rs := [5]) (by kernel_rfl) (by simp) ?_
                refine AllReadyH.cons rfl (fun K hK => ?_) (AllReadyH.nil)
                go_simp
                go_at_call 7
                refine (hTk _ (hRV.below hbA)).out.mono ?_
                rintro e w6 ⟨rfl, hb6'⟩
                have hb6 : Below V.heap.size V w6 := below_chain hbA hb6'
                have z7 := zA.below hb6'
                have hb7 := hb6
                have hpz : V.heap.size ≤ V.heap.size := Nat.le_refl _
                obtain ⟨⟨z70, z71⟩, ⟨f70, f71⟩⟩ := z7.get2
                go_wp2_with fail
                refine hK.out _ _ ⟨(hOb.below hb6).get2.1.1, (hOb.below hb6).get2.1.2, kept jz hb6⟩ (fun hHeld => ?_)
                clear hK K
                refine wpAnyH_take (i := 6) (v := ?_) rfl (by kernel_rfl) (by kernel_rfl) (by kernel_rfl) (fun _ _ _ h => h) (Or.inl ⟨by rfl, ?_⟩) (by assumption) ?_
                rotate_left
                · intro wt hSt
                  try dsimp only at hSt
                  first | (go_simp; done) | (go_simp; with_reducible rfl)
                simp only [Act.put, List.setIfInBounds_toArray, List.set_cons_zero, List.set_cons_succ, List.getElem_toArray, List.getElem_cons_zero, List.getElem_cons_succ]
                refine wpAnyH_take (i := 7) (v := ?_) rfl (by kernel_rfl) (by kernel_rfl) (by kernel_rfl) (fun _ _ _ h => h) (Or.inl ⟨by rfl, ?_⟩) (by assumption) ?_
                rotate_left
                · intro wt hSt
                  try dsimp only at hSt
                  first | (go_simp; done) | (go_simp; with_reducible rfl)
                simp only [Act.put, List.setIfInBounds_toArray, List.set_cons_zero, List.set_cons_succ, List.getElem_toArray, List.getElem_cons_zero, List.getElem_cons_succ]
                refine wpAnyH_take (i := 8) (v := ?_) rfl (by kernel_rfl) (by kernel_rfl) (by kernel_rfl) (fun _ _ _ h => h) (Or.inl ⟨by rfl, ?_⟩) (by assumption) ?_
                rotate_left
                · intro wt hSt
                  try dsimp only at hSt
                  first | (go_simp; done) | (go_simp; with_reducible rfl)
                simp only [Act.put, List.setIfInBounds_toArray, List.set_cons_zero, List.set_cons_succ, List.getElem_toArray, List.getElem_cons_zero, List.getElem_cons_succ]
                refine wpAnyH_take (i := 9) (v := ?_) rfl (by kernel_rfl) (by kernel_rfl) (by kernel_rfl) (fun _ _ _ h => h) (Or.inl ⟨by rfl, ?_⟩) (by assumption) ?_
                rotate_left
                · intro wt hSt
                  try dsimp only at hSt
                  first | (go_simp; done) | (go_simp; with_reducible rfl)
                simp only [Act.put, List.setIfInBounds_toArray, List.set_cons_zero, List.set_cons_succ, List.getElem_toArray, List.getElem_cons_zero, List.getElem_cons_succ]
                refine wpAnyH_ready (rs := [11]) (by kernel_rfl) (by simp) ?_
                refine AllReadyH.cons rfl (fun K hK => ?_) (AllReadyH.nil)
                go_simp
                have hb9 := below_set2 hb7 hpz (.int .i64 0) (.slice none 0 0)
                have z9 := z7.set2 (.int .i64 0) (.slice none 0 0)
                refine hK.out _ _ ⟨(hOb.below hb9).get2.1.1, (hOb.below hb9).get2.1.2, kept jz hb9⟩ (fun hHeld => ?_)
                clear hK K
                refine wpAnyH_take (i := 12) (v := ?_) rfl (by kernel_rfl) (by kernel_rfl) (by kernel_rfl) (fun _ _ _ h => h) (Or.inl ⟨by rfl, ?_⟩) (by assumption) ?_
                rotate_left
                · intro wt hSt
                  try dsimp only at hSt
                  first | (go_simp; done) | (go_simp; with_reducible rfl)
                simp only [Act.put, List.setIfInBounds_toArray, List.set_cons_zero, List.set_cons_succ, List.getElem_toArray, List.getElem_cons_zero, List.getElem_cons_succ]
                refine wpAnyH_take (i := 13) (v := ?_) rfl (by kernel_rfl) (by kernel_rfl) (by kernel_rfl) (fun _ _ _ h => h) (Or.inl ⟨by rfl, ?_⟩) (by assumption) ?_
                rotate_left
                · intro wt hSt
                  try dsimp only at hSt
                  first | (go_simp; done) | (go_simp; with_reducible rfl)
                simp only [Act.put, List.setIfInBounds_toArray, List.set_cons_zero, List.set_cons_succ, List.getElem_toArray, List.getElem_cons_zero, List.getElem_cons_succ]
                refine wpAnyH_done (by kernel_rfl) ?_ _
                have O9 := OV'.below hb9
                have hb10 := below_chain hbV' hb9
                clear hbV' OV' hb6' hb6 hb7 hb9 z7 z70 z71 f70 f71 z9 hOb jz hBV hRV y0 y1
                go_wp2
                go_roundw
                case rel => exact ⟨k + 1, IN, OUT, QW, _, by omega, by omega, by go_num, HE, by omega, HG, O9, hb10⟩
                case measure => simp [intOf]; omega
            case pos =>
              subst ht0
              obtain ⟨hgT, hz0⟩ := takeErr_ok htr
              obtain ⟨mz, rfl⟩ : ∃ mz : Nat, z = (mz : Int) := ⟨z.toNat, by omega⟩
              obtain ⟨jj, hjj⟩ : ∃ jj, jj = min mz QW.length := ⟨_, rfl⟩
              have hTk := fun (w : World) hA => Lib.hid (queueTake_ok most Dq dq QW mz jj w hgT (qfits_of hgT) hdV hA hjj)
              have HG2 : Hid (QGood most (QW.drop jj)) := qgood_drop jj hgT
              have HE2 : Hid (IN = (OUT ++ QW.take jj) ++ QW.drop jj) := by show _ = _; rw [List.append_assoc, List.take_append_drop]; exact HE.out
              have hOl : OUT.length ≤ k + 1 := by have := congrArg List.length HE.out; rw [List.length_append] at this; omega
              have hUl : (QW.take jj).length ≤ 30 := by rw [List.length_take]; omega
              generalize QW.drop jj = T2 at *
              generalize QW.take jj = U2 at *
              have hsmU : (OUT.length + U2.length) * 48 ≤ 140737488355328 := by omega
              obtain ⟨O2, hO2⟩ : ∃ O2, OUT ++ U2 = O2 := ⟨_, rfl⟩
              rw [hO2] at HE2
              have HO2 := Lib.hid hO2
              clear hO2
              clear htr hgT hz0 hjj
              go_wp2
              rw [HV.out]
              refine wp_region_held_drew (S := fun W => W.cell? ⟨g, 0, none⟩ = some (.int .i64 most) ∧ W.cell? ⟨g, 1, none⟩ = some (.slice Dq QW.length dq) ∧ W.cell? ⟨gz, oz + k, none⟩ = some (.int .i64 (mz : Int))) (by kernel_rfl) ⟨y0, y1, jz⟩ (fun hHeld => ?_)
              refine wpAnyH_take (i := 0) (v := ?_) rfl (by kernel_rfl) (by kernel_rfl) (by kernel_rfl) (fun _ _ _ h => h) (Or.inl ⟨by rfl, ?_⟩) (by assumption) ?_
              rotate_left
              · intro wt hSt
                try dsimp only at hSt
                first | (go_simp; done) | (go_simp; with_reducible rfl)
              simp only [Act.put, List.setIfInBounds_toArray, List.set_cons_zero, List.set_cons_succ, List.getElem_toArray, List.getElem_cons_zero]
              refine wpAnyH_take (i := 1) (v := ?_) rfl (by kernel_rfl) (by kernel_rfl) (by kernel_rfl) (fun _ _ _ h => h) (Or.inl ⟨by rfl, ?_⟩) (by assumption) ?_
              rotate_left
              · intro wt hSt
                try dsimp only at hSt
                first | (go_simp; done) | (go_simp; with_reducible rfl)
              simp only [Act.put, List.setIfInBounds_toArray, List.set_cons_zero, List.set_cons_succ, List.getElem_toArray, List.getElem_cons_zero, List.getElem_cons_succ]
              refine wpAnyH_take (i := 2) (v := ?_) rfl (by kernel_rfl) (by kernel_rfl) (by kernel_rfl) (fun _ _ _ h => h) (Or.inl ⟨by rfl, ?_⟩) (by assumption) ?_
              rotate_left
              · intro wt hSt
                try dsimp only at hSt
                first | (go_simp; done) | (go_simp; with_reducible rfl)
              simp only [Act.put, List.setIfInBounds_toArray, List.set_cons_zero, List.set_cons_succ, List.getElem_toArray, List.getElem_cons_zero, List.getElem_cons_succ]
              refine wpAnyH_take (i := 3) (v := ?_) rfl (by kernel_rfl) (by kernel_rfl) (by kernel_rfl) (fun _ _ _ h => h) (Or.inl ⟨by rfl, ?_⟩) (by assumption) ?_
              rotate_left
              · intro wt hSt
                try dsimp only at hSt
                first | (go_simp; done) | (go_simp; with_reducible rfl)
              simp only [Act.put, List.setIfInBounds_toArray, List.set_cons_zero, List.set_cons_succ, List.getElem_toArray, List.getElem_cons_zero, List.getElem_cons_succ]
              refine wpAnyH_take (i := 4) (v := ?_) rfl (by kernel_rfl) (by kernel_rfl) (by kernel_rfl) (fun _ _ _ h => h) (Or.inl ⟨by rfl, ?_⟩) (by assumption) ?_
              rotate_left
              · intro wt hSt
                try dsimp only at hSt
                first | (go_simp; done) | (go_simp; with_reducible rfl)
              simp only [Act.put, List.setIfInBounds_toArray, List.set_cons_zero, List.set_cons_succ, List.getElem_toArray, List.getElem_cons_zero, List.getElem_cons_succ]
              refine wpAnyH_ready (rs := [5, 10]) (by kernel_rfl) (by simp) ?_
              refine AllReadyH.cons rfl (fun K hK => ?_) (AllReadyH.cons rfl (fun K hK => ?_) (AllReadyH.nil))
              · skip
                go_simp
                go_at_call 7
                refine (hTk _ (hRV.drewN 1)).out.mono ?_
                rintro e w6 ⟨D6, d6, E6, f6, rfl, hT6, hU6, hb6'⟩
                have hb6 : Below V.heap.size V w6 := below_chain (bdrew (Below.refl _ _)) hb6'
                have hiT := Apart.fresh OV'.i hT6 (by simp)
                have hoT := Apart.fresh OV'.o hT6 (by simp)
                have hoU := Apart.fresh OV'.o hU6 (by simp)
                go_wp2_with fail
                refine hK.out _ _ ⟨(hOb.below hb6).get2.1.1, (hOb.below hb6).get2.1.2, kept jz hb6⟩ (fun hHeld => ?_)
                clear hK K
                refine wpAnyH_take (i := 6) (v := ?_) rfl (by kernel_rfl) (by kernel_rfl) (by kernel_rfl) (fun _ _ _ h => h) (Or.inl ⟨by rfl, ?_⟩) (by assumption) ?_
                rotate_left
                · intro wt hSt
                  try dsimp only at hSt
                  first | (go_simp; done) | (go_simp; with_reducible rfl)
                simp only [Act.put, List.setIfInBounds_toArray, List.set_cons_zero, List.set_cons_succ, List.getElem_toArray, List.getElem_cons_zero, List.getElem_cons_succ]
                refine wpAnyH_take (i := 7) (v := ?_) rfl (by kernel_rfl) (by kernel_rfl) (by kernel_rfl) (fun _ _ _ h => h) (Or.inl ⟨by rfl, ?_⟩) (by assumption) ?_
                rotate_left
                · intro wt hSt
                  try dsimp only at hSt
                  first | (go_simp; done) | (go_simp; with_reducible rfl)
                simp only [Act.put, List.setIfInBounds_toArray, List.set_cons_zero, List.set_cons_succ, List.getElem_toArray, List.getElem_cons_zero, List.getElem_cons_succ]
                refine wpAnyH_take (i := 8) (v := ?_) rfl (by kernel_rfl) (by kernel_rfl) (by kernel_rfl) (fun _ _ _ h => h) (Or.inl ⟨by rfl, ?_⟩) (by assumption) ?_
                rotate_left
                · intro wt hSt
                  try dsimp only at hSt
                  first | (go_simp; done) | (go_simp; with_reducible rfl)
                simp only [Act.put, List.setIfInBounds_toArray, List.set_cons_zero, List.set_cons_succ, List.getElem_toArray, List.getElem_cons_zero, List.getElem_cons_succ]
                refine wpAnyH_take (i := 9) (v := ?_) rfl (by kernel_rfl) (by kernel_rfl) (by kernel_rfl) (fun _ _ _ h => h) (Or.inl ⟨by rfl, ?_⟩) (by assumption) ?_
                rotate_left
                · intro wt hSt
                  try dsimp only at hSt
                  first | (go_simp; done) | (go_simp; with_reducible rfl)
                simp only [Act.put, List.setIfInBounds_toArray, List.set_cons_zero, List.set_cons_succ, List.getElem_toArray, List.getElem_cons_zero, List.getElem_cons_succ]
                refine wpAnyH_ready (rs := [10]) (by kernel_rfl) (by simp) ?_
                refine AllReadyH.cons rfl (fun K hK => ?_) (AllReadyH.nil)
                go_simp
                have hb7 : Below V.heap.size V (w6.alloc (.cells #[.int .i64 0, .slice none 0 0] 24)) := balloc hb6 _
                have z7 := Bx.new w6 w6.heap.size rfl _ [.int .i64 0, .slice none 0 0] 24 rfl
                have hpz : V.heap.size ≤ w6.heap.size := hb6.size
                obtain ⟨⟨z70, z71⟩, ⟨f70, f71⟩⟩ := z7.get2
                have hT7 : Rq w6 g (.slice D6 T2.length d6) T2 := own_baseQ hT6 (by simp; omega)
                have hU7 : Rq w6 g (.slice E6 U2.length f6) U2 := own_baseQ hU6 (by simp; omega)
                have hnT := hT6
                have hnU := hU6
                refine hK.out _ _ ⟨(hOb.below hb7).get2.1.1, (hOb.below hb7).get2.1.2, kept jz hb7⟩ (fun hHeld => ?_)
                clear hK K
                refine wpAnyH_ready (rs := [11]) (by kernel_rfl) (by simp) ?_
                refine AllReadyH.cons rfl (fun K hK => ?_) (AllReadyH.nil)
                go_simp
                have hb9 : Below V.heap.size V (w6.alloc (.cells #[.int .i64 most, .slice D6 T2.length d6] 24)) := balloc hb6 _
                have z9 := Bx.new w6 w6.heap.size rfl _ [.int .i64 most, .slice D6 T2.length d6] 24 rfl
                have hT9 := own_belowN hT7 (balloc (Below.refl _ _) (.cells #[.int .i64 most, .slice D6 T2.length d6] 24))
                have hU9 := own_belowN hU7 (balloc (Below.refl _ _) (.cells #[.int .i64 most, .slice D6 T2.length d6] 24))
                have hvo : ∀ q, (Value.slice Do OUT.length do').ownBlock = some q → q ≠ w6.heap.size := fun q hq => by have := (OV'.o.lt q hq).2; omega
                obtain ⟨X, hX⟩ : ∃ X, w6.alloc (.cells #[.int .i64 most, .slice D6 T2.length d6] 24) = X := ⟨_, rfl⟩
                obtain ⟨pz, hpzz⟩ : ∃ pz, w6.heap.size = pz := ⟨_, rfl⟩
                have HPZ := Lib.hid hpzz
                clear hpzz
                refine hK.out _ _ ⟨(hOb.below hb9).get2.1.1, (hOb.below hb9).get2.1.2, kept jz hb9⟩ (fun hHeld => ?_)
                clear hK K
                refine wpAnyH_take (i := 12) (v := ?_) rfl (by kernel_rfl) (by kernel_rfl) (by kernel_rfl) (fun _ _ _ h => h) (Or.inl ⟨by rfl, ?_⟩) (by assumption) ?_
                rotate_left
                · intro wt hSt
                  try dsimp only at hSt
                  first | (go_simp; done) | (go_simp; with_reducible rfl)
                simp only [Act.put, List.setIfInBounds_toArray, List.set_cons_zero, List.set_cons_succ, List.getElem_toArray, List.getElem_cons_zero, List.getElem_cons_succ]
                refine wpAnyH_take (i := 13) (v := ?_) rfl (by kernel_rfl) (by kernel_rfl) (by kernel_rfl) (fun _ _ _ h => h) (Or.inl ⟨by rfl, ?_⟩) (by assumption) ?_
                rotate_left
                · intro wt hSt
                  try dsimp only at hSt
                  first | (go_simp; done) | (go_simp; with_reducible rfl)
                simp only [Act.put, List.setIfInBounds_toArray, List.set_cons_zero, List.set_cons_succ, List.getElem_toArray, List.getElem_cons_zero, List.getElem_cons_succ]
                refine wpAnyH_done (by kernel_rfl) ?_ _
                rw [hX] at hb9 z9 hT9 hU9
                have HX := Lib.hid hX
                have O9 := OV'.below hb9
                clear hX OV' hb6' hb6 hb7 z7 z70 z71 f70 f71 hOb jz hBV hRV y0 y1 hT7 hU7 hnT hnU hT6 hU6 hTk
                go_wp2
                rw [HX.out]
                have hgp : g < pz := by have := HPZ.out; omega
                rw [HPZ.out] at z9 hvo hpz ⊢
                clear HPZ HX HV
                obtain ⟨y90, y91⟩ := z9.get2.1
                have O9d := O9.below (bdrew (Below.refl _ _))
                have hT9d := own_belowN hT9 (bdrew (Below.refl _ _))
                have hU9d := own_belowN hU9 (bdrew (Below.refl _ _))
                have z9d := z9.below (bdrew (Below.refl _ _))
                clear O9 hT9 hU9 z9
                refine wp_region_held_drew (S := fun W => W.cell? ⟨pz, 0, none⟩ = some (.int .i64 most) ∧ W.cell? ⟨pz, 1, none⟩ = some (.slice D6 T2.length d6)) (by kernel_rfl) ⟨y90, y91⟩ (fun hHeld => ?_)
                refine wpAnyH_take (i := 0) (v := ?_) rfl (by kernel_rfl) (by kernel_rfl) (by kernel_rfl) (fun _ _ _ h => h) (Or.inl ⟨by rfl, ?_⟩) (by assumption) ?_
                rotate_left
                · intro wt hSt
                  try dsimp only at hSt
                  first | (go_simp; done) | (go_simp; with_reducible rfl)
                simp only [Act.put, List.setIfInBounds_toArray, List.set_cons_zero, List.set_cons_succ, List.getElem_toArray, List.getElem_cons_zero]
                refine wpAnyH_take (i := 1) (v := ?_) rfl (by kernel_rfl) (by kernel_rfl) (by kernel_rfl) (fun _ _ _ h => h) (Or.inl ⟨by rfl, ?_⟩) (by assumption) ?_
                rotate_left
                · intro wt hSt
                  try dsimp only at hSt
                  first | (go_simp; done) | (go_simp; with_reducible rfl)
                simp only [Act.put, List.setIfInBounds_toArray, List.set_cons_zero, List.set_cons_succ, List.getElem_toArray, List.getElem_cons_zero, List.getElem_cons_succ]
                refine wpAnyH_take (i := 2) (v := ?_) rfl (by kernel_rfl) (by kernel_rfl) (by kernel_rfl) (fun _ _ _ h => h) (Or.inl ⟨by rfl, ?_⟩) (by assumption) ?_
                rotate_left
                · intro wt hSt
                  try dsimp only at hSt
                  first | (go_simp; done) | (go_simp; with_reducible rfl)
                simp only [Act.put, List.setIfInBounds_toArray, List.set_cons_zero, List.set_cons_succ, List.getElem_toArray, List.getElem_cons_zero, List.getElem_cons_succ]
                refine wpAnyH_ready (rs := [3]) (by kernel_rfl) (by simp) ?_
                refine AllReadyH.cons rfl (fun K hK => ?_) AllReadyH.nil
                refine step_app_asksAt rfl (.tmp 72) (.tmp 73) rfl (g + 1) _ OUT ?_ O9d.o E6 f6 U2 ?_ (Row.ownN hU9d) hsmU ?_ ?_
                · first | rfl | simp [Act.eval, Act.put]
                · first | rfl | simp [Act.eval, Act.put]
                · exact O9d.lt
                intro v10 w10 hown10 hgrow10 hat10
                rw [HO2.out] at hown10
                have O10 := O9d.appO hown10 hgrow10 hat10
                have hT10 := hT9d.kept hgrow10 hoT.ne
                have hoT10 := hoT.app hat10 (fun k hk => (hT9d.lt k hk).2)
                have z10 := z9d.kept hgrow10 (fun e => hvo _ e.symm rfl)
                have hb10 : Below w.heap.size w w10 := (below_chain (below_chain hbV' hb9) (bdrew (Below.refl _ _))).grown hgrow10 (by have := O9d.lt; omega) (fun j hj => by have := (O9d.o.lt j hj).1; omega)
                obtain ⟨D10, d10, rfl⟩ := own_shape hown10
                obtain ⟨⟨z50, z51⟩, ⟨e50, e51⟩⟩ := O10.b.get2
                refine hK.out _ _ z10.get2.1 (fun hHeld => ?_)
                clear hK K
                try simp only [Act.put, List.setIfInBounds_toArray, List.set_cons_zero, List.set_cons_succ, List.getElem_toArray, List.getElem_cons_zero, List.getElem_cons_succ]
                refine wpAnyH_ready (rs := [4]) (by kernel_rfl) (by simp) ?_
                refine AllReadyH.cons rfl (fun K hK => ?_) AllReadyH.nil
                go_simp
                have z11 := (z10.far (h := g) (by omega) 0 (.int .i64 most)).far (h := g) (by omega) 1 (.slice D6 T2.length d6)
                refine hK.out _ _ z11.get2.1 (fun hHeld => ?_)
                clear hK K
                refine wpAnyH_take (i := 5) (v := ?_) rfl (by kernel_rfl) (by kernel_rfl) (by kernel_rfl) (fun _ _ _ h => h) (Or.inl ⟨by rfl, ?_⟩) (by assumption) ?_
                rotate_left
                · intro wt hSt
                  try dsimp only at hSt
                  first | (go_simp; done) | (go_simp; with_reducible rfl)
                simp only [Act.put, List.setIfInBounds_toArray, List.set_cons_zero, List.set_cons_succ, List.getElem_toArray, List.getElem_cons_zero, List.getElem_cons_succ]
                refine wpAnyH_done (by kernel_rfl) ?_ _
                have O11 := O10.put hT10 hiT hoT10
                have hb11 := below_set2 hb10 (by omega : w.heap.size ≤ g) (.int .i64 most) (.slice D6 T2.length d6)
                clear O10 hT10 z10 z11 hb10 hbV' hb9 z50 z51 e50 e51 y90 y91 z9d O9d hT9d hU9d
                go_wp2
                go_roundw
                case rel => exact ⟨k + 1, IN, O2, T2, _, by omega, by omega, by go_num, HE2, by omega, HG2, O11, hb11⟩
                case measure => simp [intOf]; omega
              · skip
                go_simp
                have hbA : Below V.heap.size V (V.drew.alloc (.cells #[.int .i64 0, .slice none 0 0] 24)) := balloc (bdrew (Below.refl _ _)) _
                have zA := Bx.new V.drew V.heap.size rfl _ [.int .i64 0, .slice none 0 0] 24 rfl
                refine hK.out _ _ ⟨(hOb.below hbA).get2.1.1, (hOb.below hbA).get2.1.2, kept jz hbA⟩ (fun hHeld => ?_)
                clear hK K
                refine wpAnyH_ready (rs := [5]) (by kernel_rfl) (by simp) ?_
                refine AllReadyH.cons rfl (fun K hK => ?_) (AllReadyH.nil)
                go_simp
                go_at_call 7
                refine (hTk _ (hRV.below hbA)).out.mono ?_
                rintro e w6 ⟨D6, d6, E6, f6, rfl, hT6, hU6, hb6'⟩
                have hb6 : Below V.heap.size V w6 := below_chain hbA hb6'
                have hiT := Apart.fresh OV'.i hT6 (by simp)
                have hoT := Apart.fresh OV'.o hT6 (by simp)
                have hoU := Apart.fresh OV'.o hU6 (by simp)
                have z7 := zA.below hb6'
                have hb7 := hb6
                have hpz : V.heap.size ≤ V.heap.size := Nat.le_refl _
                obtain ⟨⟨z70, z71⟩, ⟨f70, f71⟩⟩ := z7.get2
                have hT7 : Rq w6 g (.slice D6 T2.length d6) T2 := own_baseQ hT6 (by simp; omega)
                have hU7 : Rq w6 g (.slice E6 U2.length f6) U2 := own_baseQ hU6 (by simp; omega)
                have hnT : ∀ q, (Value.slice D6 T2.length d6).ownBlock = some q → q ≠ V.heap.size := fun q hq => by have := (hT6.lt q hq).1; simp at this; omega
                have hnU : ∀ q, (Value.slice E6 U2.length f6).ownBlock = some q → q ≠ V.heap.size := fun q hq => by have := (hU6.lt q hq).1; simp at this; omega
                go_wp2_with fail
                refine hK.out _ _ ⟨(hOb.below hb6).get2.1.1, (hOb.below hb6).get2.1.2, kept jz hb6⟩ (fun hHeld => ?_)
                clear hK K
                refine wpAnyH_take (i := 6) (v := ?_) rfl (by kernel_rfl) (by kernel_rfl) (by kernel_rfl) (fun _ _ _ h => h) (Or.inl ⟨by rfl, ?_⟩) (by assumption) ?_
                rotate_left
                · intro wt hSt
                  try dsimp only at hSt
                  first | (go_simp; done) | (go_simp; with_reducible rfl)
                simp only [Act.put, List.setIfInBounds_toArray, List.set_cons_zero, List.set_cons_succ, List.getElem_toArray, List.getElem_cons_zero, List.getElem_cons_succ]
                refine wpAnyH_take (i := 7) (v := ?_) rfl (by kernel_rfl) (by kernel_rfl) (by kernel_rfl) (fun _ _ _ h => h) (Or.inl ⟨by rfl, ?_⟩) (by assumption) ?_
                rotate_left
                · intro wt hSt
                  try dsimp only at hSt
                  first | (go_simp; done) | (go_simp; with_reducible rfl)
                simp only [Act.put, List.setIfInBounds_toArray, List.set_cons_zero, List.set_cons_succ, List.getElem_toArray, List.getElem_cons_zero, List.getElem_cons_succ]
                refine wpAnyH_take (i := 8) (v := ?_) rfl (by kernel_rfl) (by kernel_rfl) (by kernel_rfl) (fun _ _ _ h => h) (Or.inl ⟨by rfl, ?_⟩) (by assumption) ?_
                rotate_left
                · intro wt hSt
                  try dsimp only at hSt
                  first | (go_simp; done) | (go_simp; with_reducible rfl)
                simp only [Act.put, List.setIfInBounds_toArray, List.set_cons_zero, List.set_cons_succ, List.getElem_toArray, List.getElem_cons_zero, List.getElem_cons_succ]
                refine wpAnyH_take (i := 9) (v := ?_) rfl (by kernel_rfl) (by kernel_rfl) (by kernel_rfl) (fun _ _ _ h => h) (Or.inl ⟨by rfl, ?_⟩) (by assumption) ?_
                rotate_left
                · intro wt hSt
                  try dsimp only at hSt
                  first | (go_simp; done) | (go_simp; with_reducible rfl)
                simp only [Act.put, List.setIfInBounds_toArray, List.set_cons_zero, List.set_cons_succ, List.getElem_toArray, List.getElem_cons_zero, List.getElem_cons_succ]
                refine wpAnyH_ready (rs := [11]) (by kernel_rfl) (by simp) ?_
                refine AllReadyH.cons rfl (fun K hK => ?_) (AllReadyH.nil)
                go_simp
                have hb9 := below_set2 hb7 hpz (.int .i64 most) (.slice D6 T2.length d6)
                have z9 := z7.set2 (.int .i64 most) (.slice D6 T2.length d6)
                have hT9 := hT7.kept ((grown_setQ w6 ⟨V.heap.size, 0, none⟩ (.int .i64 most)).trans (grown_setQ _ ⟨V.heap.size, 1, none⟩ (.slice D6 T2.length d6))) (.inr fun e => hnT _ e rfl)
                have hU9 := hU7.kept ((grown_setQ w6 ⟨V.heap.size, 0, none⟩ (.int .i64 most)).trans (grown_setQ _ ⟨V.heap.size, 1, none⟩ (.slice D6 T2.length d6))) (.inr fun e => hnU _ e rfl)
                have hvo : ∀ q, (Value.slice Do OUT.length do').ownBlock = some q → q ≠ V.heap.size := fun q hq => by have := (OV'.o.lt q hq).2; omega
                obtain ⟨X, hX⟩ : ∃ X, (w6.setCell ⟨V.heap.size, 0, none⟩ (.int .i64 most)).setCell ⟨V.heap.size, 1, none⟩ (.slice D6 T2.length d6) = X := ⟨_, rfl⟩
                obtain ⟨pz, hpzz⟩ : ∃ pz, V.heap.size = pz := ⟨_, rfl⟩
                have HPZ := Lib.hid hpzz
                clear hpzz
                refine hK.out _ _ ⟨(hOb.below hb9).get2.1.1, (hOb.below hb9).get2.1.2, kept jz hb9⟩ (fun hHeld => ?_)
                clear hK K
                refine wpAnyH_take (i := 12) (v := ?_) rfl (by kernel_rfl) (by kernel_rfl) (by kernel_rfl) (fun _ _ _ h => h) (Or.inl ⟨by rfl, ?_⟩) (by assumption) ?_
                rotate_left
                · intro wt hSt
                  try dsimp only at hSt
                  first | (go_simp; done) | (go_simp; with_reducible rfl)
                simp only [Act.put, List.setIfInBounds_toArray, List.set_cons_zero, List.set_cons_succ, List.getElem_toArray, List.getElem_cons_zero, List.getElem_cons_succ]
                refine wpAnyH_take (i := 13) (v := ?_) rfl (by kernel_rfl) (by kernel_rfl) (by kernel_rfl) (fun _ _ _ h => h) (Or.inl ⟨by rfl, ?_⟩) (by assumption) ?_
                rotate_left
                · intro wt hSt
                  try dsimp only at hSt
                  first | (go_simp; done) | (go_simp; with_reducible rfl)
                simp only [Act.put, List.setIfInBounds_toArray, List.set_cons_zero, List.set_cons_succ, List.getElem_toArray, List.getElem_cons_zero, List.getElem_cons_succ]
                refine wpAnyH_done (by kernel_rfl) ?_ _
                rw [hX] at hb9 z9 hT9 hU9
                have HX := Lib.hid hX
                have O9 := OV'.below hb9
                clear hX OV' hb6' hb6 hb7 z7 z70 z71 f70 f71 hOb jz hBV hRV y0 y1 hT7 hU7 hnT hnU hT6 hU6 hTk
                go_wp2
                rw [HX.out]
                have hgp : g < pz := by have := HPZ.out; omega
                rw [HPZ.out] at z9 hvo hpz ⊢
                clear HPZ HX HV
                obtain ⟨y90, y91⟩ := z9.get2.1
                have O9d := O9.below (bdrew (Below.refl _ _))
                have hT9d := own_belowN hT9 (bdrew (Below.refl _ _))
                have hU9d := own_belowN hU9 (bdrew (Below.refl _ _))
                have z9d := z9.below (bdrew (Below.refl _ _))
                clear O9 hT9 hU9 z9
                refine wp_region_held_drew (S := fun W => W.cell? ⟨pz, 0, none⟩ = some (.int .i64 most) ∧ W.cell? ⟨pz, 1, none⟩ = some (.slice D6 T2.length d6)) (by kernel_rfl) ⟨y90, y91⟩ (fun hHeld => ?_)
                refine wpAnyH_take (i := 0) (v := ?_) rfl (by kernel_rfl) (by kernel_rfl) (by kernel_rfl) (fun _ _ _ h => h) (Or.inl ⟨by rfl, ?_⟩) (by assumption) ?_
                rotate_left
                · intro wt hSt
                  try dsimp only at hSt
                  first | (go_simp; done) | (go_simp; with_reducible rfl)
                simp only [Act.put, List.setIfInBounds_toArray, List.set_cons_zero, List.set_cons_succ, List.getElem_toArray, List.getElem_cons_zero]
                refine wpAnyH_take (i := 1) (v := ?_) rfl (by kernel_rfl) (by kernel_rfl) (by kernel_rfl) (fun _ _ _ h => h) (Or.inl ⟨by rfl, ?_⟩) (by assumption) ?_
                rotate_left
                · intro wt hSt
                  try dsimp only at hSt
                  first | (go_simp; done) | (go_simp; with_reducible rfl)
                simp only [Act.put, List.setIfInBounds_toArray, List.set_cons_zero, List.set_cons_succ, List.getElem_toArray, List.getElem_cons_zero, List.getElem_cons_succ]
                refine wpAnyH_take (i := 2) (v := ?_) rfl (by kernel_rfl) (by kernel_rfl) (by kernel_rfl) (fun _ _ _ h => h) (Or.inl ⟨by rfl, ?_⟩) (by assumption) ?_
                rotate_left
                · intro wt hSt
                  try dsimp only at hSt
                  first | (go_simp; done) | (go_simp; with_reducible rfl)
                simp only [Act.put, List.setIfInBounds_toArray, List.set_cons_zero, List.set_cons_succ, List.getElem_toArray, List.getElem_cons_zero, List.getElem_cons_succ]
                refine wpAnyH_ready (rs := [3]) (by kernel_rfl) (by simp) ?_
                refine AllReadyH.cons rfl (fun K hK => ?_) AllReadyH.nil
                refine step_app_asksAt rfl (.tmp 72) (.tmp 73) rfl (g + 1) _ OUT ?_ O9d.o E6 f6 U2 ?_ (Row.ownN hU9d) hsmU ?_ ?_
                · first | rfl | simp [Act.eval, Act.put]
                · first | rfl | simp [Act.eval, Act.put]
                · exact O9d.lt
                intro v10 w10 hown10 hgrow10 hat10
                rw [HO2.out] at hown10
                have O10 := O9d.appO hown10 hgrow10 hat10
                have hT10 := hT9d.kept hgrow10 hoT.ne
                have hoT10 := hoT.app hat10 (fun k hk => (hT9d.lt k hk).2)
                have z10 := z9d.kept hgrow10 (fun e => hvo _ e.symm rfl)
                have hb10 : Below w.heap.size w w10 := (below_chain (below_chain hbV' hb9) (bdrew (Below.refl _ _))).grown hgrow10 (by have := O9d.lt; omega) (fun j hj => by have := (O9d.o.lt j hj).1; omega)
                obtain ⟨D10, d10, rfl⟩ := own_shape hown10
                obtain ⟨⟨z50, z51⟩, ⟨e50, e51⟩⟩ := O10.b.get2
                refine hK.out _ _ z10.get2.1 (fun hHeld => ?_)
                clear hK K
                try simp only [Act.put, List.setIfInBounds_toArray, List.set_cons_zero, List.set_cons_succ, List.getElem_toArray, List.getElem_cons_zero, List.getElem_cons_succ]
                refine wpAnyH_ready (rs := [4]) (by kernel_rfl) (by simp) ?_
                refine AllReadyH.cons rfl (fun K hK => ?_) AllReadyH.nil
                go_simp
                have z11 := (z10.far (h := g) (by omega) 0 (.int .i64 most)).far (h := g) (by omega) 1 (.slice D6 T2.length d6)
                refine hK.out _ _ z11.get2.1 (fun hHeld => ?_)
                clear hK K
                refine wpAnyH_take (i := 5) (v := ?_) rfl (by kernel_rfl) (by kernel_rfl) (by kernel_rfl) (fun _ _ _ h => h) (Or.inl ⟨by rfl, ?_⟩) (by assumption) ?_
                rotate_left
                · intro wt hSt
                  try dsimp only at hSt
                  first | (go_simp; done) | (go_simp; with_reducible rfl)
                simp only [Act.put, List.setIfInBounds_toArray, List.set_cons_zero, List.set_cons_succ, List.getElem_toArray, List.getElem_cons_zero, List.getElem_cons_succ]
                refine wpAnyH_done (by kernel_rfl) ?_ _
                have O11 := O10.put hT10 hiT hoT10
                have hb11 := below_set2 hb10 (by omega : w.heap.size ≤ g) (.int .i64 most) (.slice D6 T2.length d6)
                clear O10 hT10 z10 z11 hb10 hbV' hb9 z50 z51 e50 e51 y90 y91 z9d O9d hT9d hU9d
                go_wp2
                go_roundw
                case rel => exact ⟨k + 1, IN, O2, T2, _, by omega, by omega, by go_num, HE2, by omega, HG2, O11, hb11⟩
                case measure => simp [intOf]; omega
        case pos =>
          subst h0
          obtain ⟨hg, hq, hlm⟩ := putErr_ok hr
          have HG1 : Hid (QGood most (QW ++ [(n, v, x, t)])) := qgood_put hg hq hlm
          have hP := fun (w : World) hA => Lib.hid (queuePut_ok most Dq dq QW n v x t w hg (qfits_of hg) hx.1.1 hx.1.2 hA hq hlm)
          have HE1 : Hid (IN ++ [(n, v, x, t)] = OUT ++ (QW ++ [(n, v, x, t)])) := by show _ = _; rw [HE.out, List.append_assoc]
          have hll : IN.length = OUT.length + QW.length := by rw [HE.out, List.length_append]
          have hw : IntKind.i64.wrap ((IN.length : Int) - (OUT.length : Int)) = (QW.length : Int) := by rw [IntKind.wrap_i64]; omega
          have hsub : (IN.length : Int) - (OUT.length : Int) = (QW.length : Int) := by omega
          have hsm : (IN.length + [((n, v, x, t) : Ak)].length) * 48 ≤ 140737488355328 := by rw [List.length_singleton]; omega
          have hvi := fun k hk => (O.i.lt k hk).2
          obtain ⟨T, hT⟩ : ∃ T, QW ++ [((n, v, x, t) : Ak)] = T := ⟨_, rfl⟩
          obtain ⟨J, hJ'⟩ : ∃ J, IN ++ [((n, v, x, t) : Ak)] = J := ⟨_, rfl⟩
          rw [hT] at hP HE1 HG1
          rw [hJ'] at HE1
          have hJl : J.length ≤ k + 1 := by rw [← hJ', List.length_append, List.length_singleton]; omega
          have HJ := Lib.hid hJ'
          clear hr hg hq hlm hx hT hJ' hRq hll hbl q0 q1
          go_wp2_with fail
          refine (hP _ hRA).out.mono ?_
          rintro e w3 ⟨D3, d3, rfl, hown3, hb3⟩
          have hbX := below_chain hb3 (balloc (Below.refl _ _) (.cells #[.int .i64 most, .slice D3 T.length d3] 24))
          have hbV := below_chain hblA hbX
          have O4 := OA.below hbX
          have p4 := pA.below hbX
          have x4 := Bx.new w3 _ rfl _ [.int .i64 most, .slice D3 T.length d3] 24 rfl
          have hq4 : Rq (w3.alloc (.cells #[.int .i64 most, .slice D3 T.length d3] 24)) g (.slice D3 T.length d3) T := own_belowN (own_baseQ hown3 (by simp; omega)) (balloc (Below.refl _ _) _)
          have hai := Apart.fresh O.i hown3 (by simp)
          have hao := Apart.fresh O.o hown3 (by simp)
          have hsp := hb3.size
          have hpw : wr.heap.size < w3.heap.size := by rw [show (wr.alloc (.cells #[.string (S n), .string (S v), .int .u64 (x : Int), .int .u64 (t : Int)] 27)).heap.size = wr.heap.size + 1 by simp] at hsp; omega
          clear hP OA hRA a0 a1 a2 a3 qa0 qa1 j0 j1 j2 j3 hown3 hb3 hbX hblA pA hbA hsp O
          obtain ⟨a0, a1, a2, a3⟩ := p4.get4.1
          obtain ⟨x0, x1⟩ := x4.get2.1
          have hup := x4.lt
          go_wp2
          generalize hG4 : wr.heap.size = p at *
          generalize hG5 : w3.heap.size = u at *
          generalize w3.alloc (.cells #[.int .i64 most, .slice D3 T.length d3] 24) = v4 at *
          clear hG4 hG5
          refine wp_region_held_drew (S := fun W => W.cell? ⟨u, 0, none⟩ = some (.int .i64 most) ∧ W.cell? ⟨u, 1, none⟩ = some (.slice D3 T.length d3) ∧ W.cell? ⟨p, 0, none⟩ = some (.string (S n)) ∧ W.cell? ⟨p, 1, none⟩ = some (.string (S v)) ∧ W.cell? ⟨p, 2, none⟩ = some (.int .u64 (x : Int)) ∧ W.cell? ⟨p, 3, none⟩ = some (.int .u64 (t : Int))) (by kernel_rfl) ⟨x0, x1, a0, a1, a2, a3⟩ (fun hHeld => ?_)
          refine wpAnyH_take (i := 0) (v := ?_) rfl (by kernel_rfl) (by kernel_rfl) (by kernel_rfl) (fun _ _ _ h => h) (Or.inl ⟨by rfl, ?_⟩) (by assumption) ?_
          rotate_left
          · intro wt hSt
            try dsimp only at hSt
            first | (go_simp; done) | (go_simp; with_reducible rfl)
          simp only [Act.put, List.setIfInBounds_toArray, List.set_cons_zero, List.set_cons_succ, List.getElem_toArray, List.getElem_cons_zero]
          refine wpAnyH_take (i := 1) (v := ?_) rfl (by kernel_rfl) (by kernel_rfl) (by kernel_rfl) (fun _ _ _ h => h) (Or.inl ⟨by rfl, ?_⟩) (by assumption) ?_
          rotate_left
          · intro wt hSt
            try dsimp only at hSt
            first | (go_simp; done) | (go_simp; with_reducible rfl)
          simp only [Act.put, List.setIfInBounds_toArray, List.set_cons_zero, List.set_cons_succ, List.getElem_toArray, List.getElem_cons_zero, List.getElem_cons_succ]
          refine wpAnyH_take (i := 2) (v := ?_) rfl (by kernel_rfl) (by kernel_rfl) (by kernel_rfl) (fun _ _ _ h => h) (Or.inl ⟨by rfl, ?_⟩) (by assumption) ?_
          rotate_left
          · intro wt hSt
            try dsimp only at hSt
            first | (go_simp; done) | (go_simp; with_reducible rfl)
          simp only [Act.put, List.setIfInBounds_toArray, List.set_cons_zero, List.set_cons_succ, List.getElem_toArray, List.getElem_cons_zero, List.getElem_cons_succ]
          refine wpAnyH_ready (rs := [3]) (by kernel_rfl) (by simp) ?_
          refine AllReadyH.cons rfl (fun K hK => ?_) AllReadyH.nil
          go_simp
          have hbA : Below v4.heap.size v4 (v4.drew.alloc (.cells #[.string (S n), .string (S v), .int .u64 (x : Int), .int .u64 (t : Int)] 27)) := balloc (bdrew (Below.refl _ _)) _
          have OA := O4.below hbA
          have hqA := own_belowN hq4 hbA
          have xA := x4.below hbA
          have pA := p4.below hbA
          refine hK.out _ _ ⟨xA.get2.1.1, xA.get2.1.2, pA.get4.1⟩ (fun hHeld => ?_)
          clear hK K
          refine wpAnyH_ready (rs := [4]) (by kernel_rfl) (by simp) ?_
          refine AllReadyH.cons rfl (fun K hK => ?_) AllReadyH.nil
          refine step_app_asksAt rfl (.tmp 51) (.tmp 53) rfl (g + 1) _ IN ?_ OA.i (some ⟨v4.heap.size, 0, none⟩) 1 [(n, v, x, t)] ?_ (ask_one v4.drew (n, v, x, t) _) hsm ?_ ?_
          · first | rfl | simp [Act.eval, Act.put]
          · first | rfl | simp [Act.eval, Act.put]
          · exact OA.lt
          intro v5 w5 hown5 hgrow5 hat5
          rw [HJ.out] at hown5
          have O5 := OA.appI hown5 hgrow5 hat5
          have hq5 := hqA.kept hgrow5 hai.ne
          have hai5 := hai.app hat5 (fun k hk => (hqA.lt k hk).2)
          have x5 := xA.kept hgrow5 (fun e => by have := hvi _ e.symm; omega)
          have p5 := pA.kept hgrow5 (fun e => by have := hvi _ e.symm; omega)
          have hb5 : Below w.heap.size w w5 := (below_chain hbV hbA).grown hgrow5 (by have := OA.lt; omega) (fun j hj => by have := (OA.i.lt j hj).1; omega)
          obtain ⟨D5, d5, rfl⟩ := own_shape hown5
          obtain ⟨⟨z50, z51⟩, ⟨e50, e51⟩⟩ := O5.b.get2
          refine hK.out _ _ ⟨x5.get2.1.1, x5.get2.1.2, p5.get4.1⟩ (fun hHeld => ?_)
          clear hK K
          try simp only [Act.put, List.setIfInBounds_toArray, List.set_cons_zero, List.set_cons_succ, List.getElem_toArray, List.getElem_cons_zero, List.getElem_cons_succ]
          refine wpAnyH_ready (rs := [5]) (by kernel_rfl) (by simp) ?_
          refine AllReadyH.cons rfl (fun K hK => ?_) AllReadyH.nil
          go_simp
          have x9 := (x5.far (h := g) (by omega) 0 (.int .i64 most)).far (h := g) (by omega) 1 (.slice D3 T.length d3)
          have p9 := (p5.far (h := g) (by omega) 0 (.int .i64 most)).far (h := g) (by omega) 1 (.slice D3 T.length d3)
          refine hK.out _ _ ⟨x9.get2.1.1, x9.get2.1.2, p9.get4.1⟩ (fun hHeld => ?_)
          clear hK K
          refine wpAnyH_take (i := 6) (v := ?_) rfl (by kernel_rfl) (by kernel_rfl) (by kernel_rfl) (fun _ _ _ h => h) (Or.inl ⟨by rfl, ?_⟩) (by assumption) ?_
          rotate_left
          · intro wt hSt
            try dsimp only at hSt
            first | (go_simp; done) | (go_simp; with_reducible rfl)
          simp only [Act.put, List.setIfInBounds_toArray, List.set_cons_zero, List.set_cons_succ, List.getElem_toArray, List.getElem_cons_zero, List.getElem_cons_succ]
          refine wpAnyH_done (by kernel_rfl) ?_ _
          have O6 := O5.put hq5 hai5 hao
          have hb6 := below_set2 hb5 (by omega : w.heap.size ≤ g) (.int .i64 most) (.slice D3 T.length d3)
          obtain ⟨V, hV⟩ : ∃ V, (w5.setCell ⟨g, 0, none⟩ (.int .i64 most)).setCell ⟨g, 1, none⟩ (.slice D3 T.length d3) = V := ⟨_, rfl⟩
          rw [hV] at O6 hb6
          have HV := Lib.hid hV
          clear O4 OA O5 hq4 hqA hq5 hai hai5 hao xA pA x5 p5 x9 p9 x4 p4 x0 x1 a0 a1 a2 a3 hbA hb5 hbV hV z50 z51 e50 e51 hvi hup hgrow5 hat5 hown5
          have hbV' := hb6
          have OV' := O6
          clear hb6 O6
          have hBV := hB.below hbV'
          obtain ⟨y0, y1⟩ := OV'.b.get2.1
          have hRV : Row V D3 (qcells T) := Row.ownN OV'.q
          obtain ⟨hdV, hdm⟩ := OV'.q.cap
          have hQ1 : T.length ≤ 30 := by have := HG1.out.len; have := HG1.out.m30; omega
          clear hB
          by_cases hlz : k < zs.length
          case neg =>
            go_wp2
            rw [HV.out]
            go_roundw
            case rel => exact ⟨k + 1, J, OUT, T, _, by omega, by omega, by go_num, HE1, by omega, HG1, OV', hbV'⟩
            case measure => simp [intOf]; omega
          case pos =>
            obtain ⟨gz, oz, rfl, jz⟩ := hBV.int k hlz
            have hgz : g < V.heap.size := OV'.lt
            have hk0 : (0 : Int) ≤ (k : Int) := by omega
            have hk1 : (k : Int) < (zs.length : Int) := by omega
            have hOb := OV'.b
            generalize zs[k] = z at *
            obtain ⟨tr, htr⟩ : ∃ tr, takeErr most T z = tr := ⟨_, rfl⟩
            by_cases ht0 : tr = 0
            case neg =>
              have hTk := fun (w : World) hA => Lib.hid (queueTake_no most D3 d3 T z w (by unfold maxLen; omega) (qfits_of HG1.out) hA tr htr ht0)
              have ct : (tr == 0) = false := beq_eq_false_iff_ne.2 ht0
              clear htr ht0
              go_wp2
              rw [HV.out]
              refine wp_region_held_drew (S := fun W => W.cell? ⟨g, 0, none⟩ = some (.int .i64 most) ∧ W.cell? ⟨g, 1, none⟩ = some (.slice D3 T.length d3) ∧ W.cell? ⟨gz, oz + k, none⟩ = some (.int .i64 z)) (by kernel_rfl) ⟨y0, y1, jz⟩ (fun hHeld => ?_)
              refine wpAnyH_take (i := 0) (v := ?_) rfl (by kernel_rfl) (by kernel_rfl) (by kernel_rfl) (fun _ _ _ h => h) (Or.inl ⟨by rfl, ?_⟩) (by assumption) ?_
              rotate_left
              · intro wt hSt
                try dsimp only at hSt
                first | (go_simp; done) | (go_simp; with_reducible rfl)
              simp only [Act.put, List.setIfInBounds_toArray, List.set_cons_zero, List.set_cons_succ, List.getElem_toArray, List.getElem_cons_zero]
              refine wpAnyH_take (i := 1) (v := ?_) rfl (by kernel_rfl) (by kernel_rfl) (by kernel_rfl) (fun _ _ _ h => h) (Or.inl ⟨by rfl, ?_⟩) (by assumption) ?_
              rotate_left
              · intro wt hSt
                try dsimp only at hSt
                first | (go_simp; done) | (go_simp; with_reducible rfl)
              simp only [Act.put, List.setIfInBounds_toArray, List.set_cons_zero, List.set_cons_succ, List.getElem_toArray, List.getElem_cons_zero, List.getElem_cons_succ]
              refine wpAnyH_take (i := 2) (v := ?_) rfl (by kernel_rfl) (by kernel_rfl) (by kernel_rfl) (fun _ _ _ h => h) (Or.inl ⟨by rfl, ?_⟩) (by assumption) ?_
              rotate_left
              · intro wt hSt
                try dsimp only at hSt
                first | (go_simp; done) | (go_simp; with_reducible rfl)
              simp only [Act.put, List.setIfInBounds_toArray, List.set_cons_zero, List.set_cons_succ, List.getElem_toArray, List.getElem_cons_zero, List.getElem_cons_succ]
              refine wpAnyH_take (i := 3) (v := ?_) rfl (by kernel_rfl) (by kernel_rfl) (by kernel_rfl) (fun _ _ _ h => h) (Or.inl ⟨by rfl, ?_⟩) (by assumption) ?_
              rotate_left
              · intro wt hSt
                try dsimp only at hSt
                first | (go_simp; done) | (go_simp; with_reducible rfl)
              simp only [Act.put, List.setIfInBounds_toArray, List.set_cons_zero, List.set_cons_succ, List.getElem_toArray, List.getElem_cons_zero, List.getElem_cons_succ]
              refine wpAnyH_take (i := 4) (v := ?_) rfl (by kernel_rfl) (by kernel_rfl) (by kernel_rfl) (fun _ _ _ h => h) (Or.inl ⟨by rfl, ?_⟩) (by assumption) ?_
              rotate_left
              · intro wt hSt
                try dsimp only at hSt
                first | (go_simp; done) | (go_simp; with_reducible rfl)
              simp only [Act.put, List.setIfInBounds_toArray, List.set_cons_zero, List.set_cons_succ, List.getElem_toArray, List.getElem_cons_zero, List.getElem_cons_succ]
              refine wpAnyH_ready (rs := [5, 10]) (by kernel_rfl) (by simp) ?_
              refine AllReadyH.cons rfl (fun K hK => ?_) (AllReadyH.cons rfl (fun K hK => ?_) (AllReadyH.nil))
              · skip
                go_simp
                go_at_call 7
                refine (hTk _ (hRV.drewN 1)).out.mono ?_
                rintro e w6 ⟨rfl, hb6'⟩
                have hb6 : Below V.heap.size V w6 := below_chain (bdrew (Below.refl _ _)) hb6'
                go_wp2_with fail
                refine hK.out _ _ ⟨(hOb.below hb6).get2.1.1, (hOb.below hb6).get2.1.2, kept jz hb6⟩ (fun hHeld => ?_)
                clear hK K
                refine wpAnyH_take (i := 6) (v := ?_) rfl (by kernel_rfl) (by kernel_rfl) (by kernel_rfl) (fun _ _ _ h => h) (Or.inl ⟨by rfl, ?_⟩) (by assumption) ?_
                rotate_left
                · intro wt hSt
                  try dsimp only at hSt
                  first | (go_simp; done) | (go_simp; with_reducible rfl)
                simp only [Act.put, List.setIfInBounds_toArray, List.set_cons_zero, List.set_cons_succ, List.getElem_toArray, List.getElem_cons_zero, List.getElem_cons_succ]
                refine wpAnyH_take (i := 7) (v := ?_) rfl (by kernel_rfl) (by kernel_rfl) (by kernel_rfl) (fun _ _ _ h => h) (Or.inl ⟨by rfl, ?_⟩) (by assumption) ?_
                rotate_left
                · intro wt hSt
                  try dsimp only at hSt
                  first | (go_simp; done) | (go_simp; with_reducible rfl)
                simp only [Act.put, List.setIfInBounds_toArray, List.set_cons_zero, List.set_cons_succ, List.getElem_toArray, List.getElem_cons_zero, List.getElem_cons_succ]
                refine wpAnyH_take (i := 8) (v := ?_) rfl (by kernel_rfl) (by kernel_rfl) (by kernel_rfl) (fun _ _ _ h => h) (Or.inl ⟨by rfl, ?_⟩) (by assumption) ?_
                rotate_left
                · intro wt hSt
                  try dsimp only at hSt
                  first | (go_simp; done) | (go_simp; with_reducible rfl)
                simp only [Act.put, List.setIfInBounds_toArray, List.set_cons_zero, List.set_cons_succ, List.getElem_toArray, List.getElem_cons_zero, List.getElem_cons_succ]
                refine wpAnyH_take (i := 9) (v := ?_) rfl (by kernel_rfl) (by kernel_rfl) (by kernel_rfl) (fun _ _ _ h => h) (Or.inl ⟨by rfl, ?_⟩) (by assumption) ?_
                rotate_left
                · intro wt hSt
                  try dsimp only at hSt
                  first | (go_simp; done) | (go_simp; with_reducible rfl)
                simp only [Act.put, List.setIfInBounds_toArray, List.set_cons_zero, List.set_cons_succ, List.getElem_toArray, List.getElem_cons_zero, List.getElem_cons_succ]
                refine wpAnyH_ready (rs := [10]) (by kernel_rfl) (by simp) ?_
                refine AllReadyH.cons rfl (fun K hK => ?_) (AllReadyH.nil)
                go_simp
                have hb7 : Below V.heap.size V (w6.alloc (.cells #[.int .i64 0, .slice none 0 0] 24)) := balloc hb6 _
                have z7 := Bx.new w6 w6.heap.size rfl _ [.int .i64 0, .slice none 0 0] 24 rfl
                have hpz : V.heap.size ≤ w6.heap.size := hb6.size
                obtain ⟨⟨z70, z71⟩, ⟨f70, f71⟩⟩ := z7.get2
                refine hK.out _ _ ⟨(hOb.below hb7).get2.1.1, (hOb.below hb7).get2.1.2, kept jz hb7⟩ (fun hHeld => ?_)
                clear hK K
                refine wpAnyH_ready (rs := [11]) (by kernel_rfl) (by simp) ?_
                refine AllReadyH.cons rfl (fun K hK => ?_) (AllReadyH.nil)
                go_simp
                have hb9 : Below V.heap.size V (w6.alloc (.cells #[.int .i64 0, .slice none 0 0] 24)) := balloc hb6 _
                have z9 := Bx.new w6 w6.heap.size rfl _ [.int .i64 0, .slice none 0 0] 24 rfl
                refine hK.out _ _ ⟨(hOb.below hb9).get2.1.1, (hOb.below hb9).get2.1.2, kept jz hb9⟩ (fun hHeld => ?_)
                clear hK K
                refine wpAnyH_take (i := 12) (v := ?_) rfl (by kernel_rfl) (by kernel_rfl) (by kernel_rfl) (fun _ _ _ h => h) (Or.inl ⟨by rfl, ?_⟩) (by assumption) ?_
                rotate_left
                · intro wt hSt
                  try dsimp only at hSt
                  first | (go_simp; done) | (go_simp; with_reducible rfl)
                simp only [Act.put, List.setIfInBounds_toArray, List.set_cons_zero, List.set_cons_succ, List.getElem_toArray, List.getElem_cons_zero, List.getElem_cons_succ]
                refine wpAnyH_take (i := 13) (v := ?_) rfl (by kernel_rfl) (by kernel_rfl) (by kernel_rfl) (fun _ _ _ h => h) (Or.inl ⟨by rfl, ?_⟩) (by assumption) ?_
                rotate_left
                · intro wt hSt
                  try dsimp only at hSt
                  first | (go_simp; done) | (go_simp; with_reducible rfl)
                simp only [Act.put, List.setIfInBounds_toArray, List.set_cons_zero, List.set_cons_succ, List.getElem_toArray, List.getElem_cons_zero, List.getElem_cons_succ]
                refine wpAnyH_done (by kernel_rfl) ?_ _
                have O9 := OV'.below hb9
                have hb10 := below_chain hbV' hb9
                clear hbV' OV' hb6' hb6 hb7 hb9 z7 z70 z71 f70 f71 z9 hOb jz hBV hRV y0 y1
                go_wp2
                go_roundw
                case rel => exact ⟨k + 1, J, OUT, T, _, by omega, by omega, by go_num, HE1, by omega, HG1, O9, hb10⟩
                case measure => simp [intOf]; omega
              · skip
                go_simp
                have hbA : Below V.heap.size V (V.drew.alloc (.cells #[.int .i64 0, .slice none 0 0] 24)) := balloc (bdrew (Below.refl _ _)) _
                have zA := Bx.new V.drew V.heap.size rfl _ [.int .i64 0, .slice none 0 0] 24 rfl
                refine hK.out _ _ ⟨(hOb.below hbA).get2.1.1, (hOb.below hbA).get2.1.2, kept jz hbA⟩ (fun hHeld => ?_)
                clear hK K
                refine wpAnyH_ready (rs := [5]) (by kernel_rfl) (by simp) ?_
                refine AllReadyH.cons rfl (fun K hK => ?_) (AllReadyH.nil)
                go_simp
                go_at_call 7
                refine (hTk _ (hRV.below hbA)).out.mono ?_
                rintro e w6 ⟨rfl, hb6'⟩
                have hb6 : Below V.heap.size V w6 := below_chain hbA hb6'
                have z7 := zA.below hb6'
                have hb7 := hb6
                have hpz : V.heap.size ≤ V.heap.size := Nat.le_refl _
                obtain ⟨⟨z70, z71⟩, ⟨f70, f71⟩⟩ := z7.get2
                go_wp2_with fail
                refine hK.out _ _ ⟨(hOb.below hb6).get2.1.1, (hOb.below hb6).get2.1.2, kept jz hb6⟩ (fun hHeld => ?_)
                clear hK K
                refine wpAnyH_take (i := 6) (v := ?_) rfl (by kernel_rfl) (by kernel_rfl) (by kernel_rfl) (fun _ _ _ h => h) (Or.inl ⟨by rfl, ?_⟩) (by assumption) ?_
                rotate_left
                · intro wt hSt
                  try dsimp only at hSt
                  first | (go_simp; done) | (go_simp; with_reducible rfl)
                simp only [Act.put, List.setIfInBounds_toArray, List.set_cons_zero, List.set_cons_succ, List.getElem_toArray, List.getElem_cons_zero, List.getElem_cons_succ]
                refine wpAnyH_take (i := 7) (v := ?_) rfl (by kernel_rfl) (by kernel_rfl) (by kernel_rfl) (fun _ _ _ h => h) (Or.inl ⟨by rfl, ?_⟩) (by assumption) ?_
                rotate_left
                · intro wt hSt
                  try dsimp only at hSt
                  first | (go_simp; done) | (go_simp; with_reducible rfl)
                simp only [Act.put, List.setIfInBounds_toArray, List.set_cons_zero, List.set_cons_succ, List.getElem_toArray, List.getElem_cons_zero, List.getElem_cons_succ]
                refine wpAnyH_take (i := 8) (v := ?_) rfl (by kernel_rfl) (by kernel_rfl) (by kernel_rfl) (fun _ _ _ h => h) (Or.inl ⟨by rfl, ?_⟩) (by assumption) ?_
                rotate_left
                · intro wt hSt
                  try dsimp only at hSt
                  first | (go_simp; done) | (go_simp; with_reducible rfl)
                simp only [Act.put, List.setIfInBounds_toArray, List.set_cons_zero, List.set_cons_succ, List.getElem_toArray, List.getElem_cons_zero, List.getElem_cons_succ]
                refine wpAnyH_take (i := 9) (v := ?_) rfl (by kernel_rfl) (by kernel_rfl) (by kernel_rfl) (fun _ _ _ h => h) (Or.inl ⟨by rfl, ?_⟩) (by assumption) ?_
                rotate_left
                · intro wt hSt
                  try dsimp only at hSt
                  first | (go_simp; done) | (go_simp; with_reducible rfl)
                simp only [Act.put, List.setIfInBounds_toArray, List.set_cons_zero, List.set_cons_succ, List.getElem_toArray, List.getElem_cons_zero, List.getElem_cons_succ]
                refine wpAnyH_ready (rs := [11]) (by kernel_rfl) (by simp) ?_
                refine AllReadyH.cons rfl (fun K hK => ?_) (AllReadyH.nil)
                go_simp
                have hb9 := below_set2 hb7 hpz (.int .i64 0) (.slice none 0 0)
                have z9 := z7.set2 (.int .i64 0) (.slice none 0 0)
                refine hK.out _ _ ⟨(hOb.below hb9).get2.1.1, (hOb.below hb9).get2.1.2, kept jz hb9⟩ (fun hHeld => ?_)
                clear hK K
                refine wpAnyH_take (i := 12) (v := ?_) rfl (by kernel_rfl) (by kernel_rfl) (by kernel_rfl) (fun _ _ _ h => h) (Or.inl ⟨by rfl, ?_⟩) (by assumption) ?_
                rotate_left
                · intro wt hSt
                  try dsimp only at hSt
                  first | (go_simp; done) | (go_simp; with_reducible rfl)
                simp only [Act.put, List.setIfInBounds_toArray, List.set_cons_zero, List.set_cons_succ, List.getElem_toArray, List.getElem_cons_zero, List.getElem_cons_succ]
                refine wpAnyH_take (i := 13) (v := ?_) rfl (by kernel_rfl) (by kernel_rfl) (by kernel_rfl) (fun _ _ _ h => h) (Or.inl ⟨by rfl, ?_⟩) (by assumption) ?_
                rotate_left
                · intro wt hSt
                  try dsimp only at hSt
                  first | (go_simp; done) | (go_simp; with_reducible rfl)
                simp only [Act.put, List.setIfInBounds_toArray, List.set_cons_zero, List.set_cons_succ, List.getElem_toArray, List.getElem_cons_zero, List.getElem_cons_succ]
                refine wpAnyH_done (by kernel_rfl) ?_ _
                have O9 := OV'.below hb9
                have hb10 := below_chain hbV' hb9
                clear hbV' OV' hb6' hb6 hb7 hb9 z7 z70 z71 f70 f71 z9 hOb jz hBV hRV y0 y1
                go_wp2
                go_roundw
                case rel => exact ⟨k + 1, J, OUT, T, _, by omega, by omega, by go_num, HE1, by omega, HG1, O9, hb10⟩
                case measure => simp [intOf]; omega
            case pos =>
              subst ht0
              obtain ⟨hgT, hz0⟩ := takeErr_ok htr
              obtain ⟨mz, rfl⟩ : ∃ mz : Nat, z = (mz : Int) := ⟨z.toNat, by omega⟩
              obtain ⟨jj, hjj⟩ : ∃ jj, jj = min mz T.length := ⟨_, rfl⟩
              have hTk := fun (w : World) hA => Lib.hid (queueTake_ok most D3 d3 T mz jj w hgT (qfits_of hgT) hdV hA hjj)
              have HG2 : Hid (QGood most (T.drop jj)) := qgood_drop jj hgT
              have HE2 : Hid (J = (OUT ++ T.take jj) ++ T.drop jj) := by show _ = _; rw [List.append_assoc, List.take_append_drop]; exact HE1.out
              have hOl : OUT.length ≤ k + 1 := by have := congrArg List.length HE1.out; rw [List.length_append] at this; omega
              have hUl : (T.take jj).length ≤ 30 := by rw [List.length_take]; omega
              generalize T.drop jj = T2 at *
              generalize T.take jj = U2 at *
              have hsmU : (OUT.length + U2.length) * 48 ≤ 140737488355328 := by omega
              obtain ⟨O2, hO2⟩ : ∃ O2, OUT ++ U2 = O2 := ⟨_, rfl⟩
              rw [hO2] at HE2
              have HO2 := Lib.hid hO2
              clear hO2
              clear htr hgT hz0 hjj
              go_wp2
              rw [HV.out]
              refine wp_region_held_drew (S := fun W => W.cell? ⟨g, 0, none⟩ = some (.int .i64 most) ∧ W.cell? ⟨g, 1, none⟩ = some (.slice D3 T.length d3) ∧ W.cell? ⟨gz, oz + k, none⟩ = some (.int .i64 (mz : Int))) (by kernel_rfl) ⟨y0, y1, jz⟩ (fun hHeld => ?_)
              refine wpAnyH_take (i := 0) (v := ?_) rfl (by kernel_rfl) (by kernel_rfl) (by kernel_rfl) (fun _ _ _ h => h) (Or.inl ⟨by rfl, ?_⟩) (by assumption) ?_
              rotate_left
              · intro wt hSt
                try dsimp only at hSt
                first | (go_simp; done) | (go_simp; with_reducible rfl)
              simp only [Act.put, List.setIfInBounds_toArray, List.set_cons_zero, List.set_cons_succ, List.getElem_toArray, List.getElem_cons_zero]
              refine wpAnyH_take (i := 1) (v := ?_) rfl (by kernel_rfl) (by kernel_rfl) (by kernel_rfl) (fun _ _ _ h => h) (Or.inl ⟨by rfl, ?_⟩) (by assumption) ?_
              rotate_left
              · intro wt hSt
                try dsimp only at hSt
                first | (go_simp; done) | (go_simp; with_reducible rfl)
              simp only [Act.put, List.setIfInBounds_toArray, List.set_cons_zero, List.set_cons_succ, List.getElem_toArray, List.getElem_cons_zero, List.getElem_cons_succ]
              refine wpAnyH_take (i := 2) (v := ?_) rfl (by kernel_rfl) (by kernel_rfl) (by kernel_rfl) (fun _ _ _ h => h) (Or.inl ⟨by rfl, ?_⟩) (by assumption) ?_
              rotate_left
              · intro wt hSt
                try dsimp only at hSt
                first | (go_simp; done) | (go_simp; with_reducible rfl)
              simp only [Act.put, List.setIfInBounds_toArray, List.set_cons_zero, List.set_cons_succ, List.getElem_toArray, List.getElem_cons_zero, List.getElem_cons_succ]
              refine wpAnyH_take (i := 3) (v := ?_) rfl (by kernel_rfl) (by kernel_rfl) (by kernel_rfl) (fun _ _ _ h => h) (Or.inl ⟨by rfl, ?_⟩) (by assumption) ?_
              rotate_left
              · intro wt hSt
                try dsimp only at hSt
                first | (go_simp; done) | (go_simp; with_reducible rfl)
              simp only [Act.put, List.setIfInBounds_toArray, List.set_cons_zero, List.set_cons_succ, List.getElem_toArray, List.getElem_cons_zero, List.getElem_cons_succ]
              refine wpAnyH_take (i := 4) (v := ?_) rfl (by kernel_rfl) (by kernel_rfl) (by kernel_rfl) (fun _ _ _ h => h) (Or.inl ⟨by rfl, ?_⟩) (by assumption) ?_
              rotate_left
              · intro wt hSt
                try dsimp only at hSt
                first | (go_simp; done) | (go_simp; with_reducible rfl)
              simp only [Act.put, List.setIfInBounds_toArray, List.set_cons_zero, List.set_cons_succ, List.getElem_toArray, List.getElem_cons_zero, List.getElem_cons_succ]
              refine wpAnyH_ready (rs := [5, 10]) (by kernel_rfl) (by simp) ?_
              refine AllReadyH.cons rfl (fun K hK => ?_) (AllReadyH.cons rfl (fun K hK => ?_) (AllReadyH.nil))
              · skip
                go_simp
                go_at_call 7
                refine (hTk _ (hRV.drewN 1)).out.mono ?_
                rintro e w6 ⟨D6, d6, E6, f6, rfl, hT6, hU6, hb6'⟩
                have hb6 : Below V.heap.size V w6 := below_chain (bdrew (Below.refl _ _)) hb6'
                have hiT := Apart.fresh OV'.i hT6 (by simp)
                have hoT := Apart.fresh OV'.o hT6 (by simp)
                have hoU := Apart.fresh OV'.o hU6 (by simp)
                go_wp2_with fail
                refine hK.out _ _ ⟨(hOb.below hb6).get2.1.1, (hOb.below hb6).get2.1.2, kept jz hb6⟩ (fun hHeld => ?_)
                clear hK K
                refine wpAnyH_take (i := 6) (v := ?_) rfl (by kernel_rfl) (by kernel_rfl) (by kernel_rfl) (fun _ _ _ h => h) (Or.inl ⟨by rfl, ?_⟩) (by assumption) ?_
                rotate_left
                · intro wt hSt
                  try dsimp only at hSt
                  first | (go_simp; done) | (go_simp; with_reducible rfl)
                simp only [Act.put, List.setIfInBounds_toArray, List.set_cons_zero, List.set_cons_succ, List.getElem_toArray, List.getElem_cons_zero, List.getElem_cons_succ]
                refine wpAnyH_take (i := 7) (v := ?_) rfl (by kernel_rfl) (by kernel_rfl) (by kernel_rfl) (fun _ _ _ h => h) (Or.inl ⟨by rfl, ?_⟩) (by assumption) ?_
                rotate_left
                · intro wt hSt
                  try dsimp only at hSt
                  first | (go_simp; done) | (go_simp; with_reducible rfl)
                simp only [Act.put, List.setIfInBounds_toArray, List.set_cons_zero, List.set_cons_succ, List.getElem_toArray, List.getElem_cons_zero, List.getElem_cons_succ]
                refine wpAnyH_take (i := 8) (v := ?_) rfl (by kernel_rfl) (by kernel_rfl) (by kernel_rfl) (fun _ _ _ h => h) (Or.inl ⟨by rfl, ?_⟩) (by assumption) ?_
                rotate_left
                · intro wt hSt
                  try dsimp only at hSt
                  first | (go_simp; done) | (go_simp; with_reducible rfl)
                simp only [Act.put, List.setIfInBounds_toArray, List.set_cons_zero, List.set_cons_succ, List.getElem_toArray, List.getElem_cons_zero, List.getElem_cons_succ]
                refine wpAnyH_take (i := 9) (v := ?_) rfl (by kernel_rfl) (by kernel_rfl) (by kernel_rfl) (fun _ _ _ h => h) (Or.inl ⟨by rfl, ?_⟩) (by assumption) ?_
                rotate_left
                · intro wt hSt
                  try dsimp only at hSt
                  first | (go_simp; done) | (go_simp; with_reducible rfl)
                simp only [Act.put, List.setIfInBounds_toArray, List.set_cons_zero, List.set_cons_succ, List.getElem_toArray, List.getElem_cons_zero, List.getElem_cons_succ]
                refine wpAnyH_ready (rs := [10]) (by kernel_rfl) (by simp) ?_
                refine AllReadyH.cons rfl (fun K hK => ?_) (AllReadyH.nil)
                go_simp
                have hb7 : Below V.heap.size V (w6.alloc (.cells #[.int .i64 0, .slice none 0 0] 24)) := balloc hb6 _
                have z7 := Bx.new w6 w6.heap.size rfl _ [.int .i64 0, .slice none 0 0] 24 rfl
                have hpz : V.heap.size ≤ w6.heap.size := hb6.size
                obtain ⟨⟨z70, z71⟩, ⟨f70, f71⟩⟩ := z7.get2
                have hT7 : Rq w6 g (.slice D6 T2.length d6) T2 := own_baseQ hT6 (by simp; omega)
                have hU7 : Rq w6 g (.slice E6 U2.length f6) U2 := own_baseQ hU6 (by simp; omega)
                have hnT := hT6
                have hnU := hU6
                refine hK.out _ _ ⟨(hOb.below hb7).get2.1.1, (hOb.below hb7).get2.1.2, kept jz hb7⟩ (fun hHeld => ?_)
                clear hK K
                refine wpAnyH_ready (rs := [11]) (by kernel_rfl) (by simp) ?_
                refine AllReadyH.cons rfl (fun K hK => ?_) (AllReadyH.nil)
                go_simp
                have hb9 : Below V.heap.size V (w6.alloc (.cells #[.int .i64 most, .slice D6 T2.length d6] 24)) := balloc hb6 _
                have z9 := Bx.new w6 w6.heap.size rfl _ [.int .i64 most, .slice D6 T2.length d6] 24 rfl
                have hT9 := own_belowN hT7 (balloc (Below.refl _ _) (.cells #[.int .i64 most, .slice D6 T2.length d6] 24))
                have hU9 := own_belowN hU7 (balloc (Below.refl _ _) (.cells #[.int .i64 most, .slice D6 T2.length d6] 24))
                have hvo : ∀ q, (Value.slice Do OUT.length do').ownBlock = some q → q ≠ w6.heap.size := fun q hq => by have := (OV'.o.lt q hq).2; omega
                obtain ⟨X, hX⟩ : ∃ X, w6.alloc (.cells #[.int .i64 most, .slice D6 T2.length d6] 24) = X := ⟨_, rfl⟩
                obtain ⟨pz, hpzz⟩ : ∃ pz, w6.heap.size = pz := ⟨_, rfl⟩
                have HPZ := Lib.hid hpzz
                clear hpzz
                refine hK.out _ _ ⟨(hOb.below hb9).get2.1.1, (hOb.below hb9).get2.1.2, kept jz hb9⟩ (fun hHeld => ?_)
                clear hK K
                refine wpAnyH_take (i := 12) (v := ?_) rfl (by kernel_rfl) (by kernel_rfl) (by kernel_rfl) (fun _ _ _ h => h) (Or.inl ⟨by rfl, ?_⟩) (by assumption) ?_
                rotate_left
                · intro wt hSt
                  try dsimp only at hSt
                  first | (go_simp; done) | (go_simp; with_reducible rfl)
                simp only [Act.put, List.setIfInBounds_toArray, List.set_cons_zero, List.set_cons_succ, List.getElem_toArray, List.getElem_cons_zero, List.getElem_cons_succ]
                refine wpAnyH_take (i := 13) (v := ?_) rfl (by kernel_rfl) (by kernel_rfl) (by kernel_rfl) (fun _ _ _ h => h) (Or.inl ⟨by rfl, ?_⟩) (by assumption) ?_
                rotate_left
                · intro wt hSt
                  try dsimp only at hSt
                  first | (go_simp; done) | (go_simp; with_reducible rfl)
                simp only [Act.put, List.setIfInBounds_toArray, List.set_cons_zero, List.set_cons_succ, List.getElem_toArray, List.getElem_cons_zero, List.getElem_cons_succ]
                refine wpAnyH_done (by kernel_rfl) ?_ _
                rw [hX] at hb9 z9 hT9 hU9
                have HX := Lib.hid hX
                have O9 := OV'.below hb9
                clear hX OV' hb6' hb6 hb7 z7 z70 z71 f70 f71 hOb jz hBV hRV y0 y1 hT7 hU7 hnT hnU hT6 hU6 hTk
                go_wp2
                rw [HX.out]
                have hgp : g < pz := by have := HPZ.out; omega
                rw [HPZ.out] at z9 hvo hpz ⊢
                clear HPZ HX HV
                obtain ⟨y90, y91⟩ := z9.get2.1
                have O9d := O9.below (bdrew (Below.refl _ _))
                have hT9d := own_belowN hT9 (bdrew (Below.refl _ _))
                have hU9d := own_belowN hU9 (bdrew (Below.refl _ _))
                have z9d := z9.below (bdrew (Below.refl _ _))
                clear O9 hT9 hU9 z9
                refine wp_region_held_drew (S := fun W => W.cell? ⟨pz, 0, none⟩ = some (.int .i64 most) ∧ W.cell? ⟨pz, 1, none⟩ = some (.slice D6 T2.length d6)) (by kernel_rfl) ⟨y90, y91⟩ (fun hHeld => ?_)
                refine wpAnyH_take (i := 0) (v := ?_) rfl (by kernel_rfl) (by kernel_rfl) (by kernel_rfl) (fun _ _ _ h => h) (Or.inl ⟨by rfl, ?_⟩) (by assumption) ?_
                rotate_left
                · intro wt hSt
                  try dsimp only at hSt
                  first | (go_simp; done) | (go_simp; with_reducible rfl)
                simp only [Act.put, List.setIfInBounds_toArray, List.set_cons_zero, List.set_cons_succ, List.getElem_toArray, List.getElem_cons_zero]
                refine wpAnyH_take (i := 1) (v := ?_) rfl (by kernel_rfl) (by kernel_rfl) (by kernel_rfl) (fun _ _ _ h => h) (Or.inl ⟨by rfl, ?_⟩) (by assumption) ?_
                rotate_left
                · intro wt hSt
                  try dsimp only at hSt
                  first | (go_simp; done) | (go_simp; with_reducible rfl)
                simp only [Act.put, List.setIfInBounds_toArray, List.set_cons_zero, List.set_cons_succ, List.getElem_toArray, List.getElem_cons_zero, List.getElem_cons_succ]
                refine wpAnyH_take (i := 2) (v := ?_) rfl (by kernel_rfl) (by kernel_rfl) (by kernel_rfl) (fun _ _ _ h => h) (Or.inl ⟨by rfl, ?_⟩) (by assumption) ?_
                rotate_left
                · intro wt hSt
                  try dsimp only at hSt
                  first | (go_simp; done) | (go_simp; with_reducible rfl)
                simp only [Act.put, List.setIfInBounds_toArray, List.set_cons_zero, List.set_cons_succ, List.getElem_toArray, List.getElem_cons_zero, List.getElem_cons_succ]
                refine wpAnyH_ready (rs := [3]) (by kernel_rfl) (by simp) ?_
                refine AllReadyH.cons rfl (fun K hK => ?_) AllReadyH.nil
                refine step_app_asksAt rfl (.tmp 72) (.tmp 73) rfl (g + 1) _ OUT ?_ O9d.o E6 f6 U2 ?_ (Row.ownN hU9d) hsmU ?_ ?_
                · first | rfl | simp [Act.eval, Act.put]
                · first | rfl | simp [Act.eval, Act.put]
                · exact O9d.lt
                intro v10 w10 hown10 hgrow10 hat10
                rw [HO2.out] at hown10
                have O10 := O9d.appO hown10 hgrow10 hat10
                have hT10 := hT9d.kept hgrow10 hoT.ne
                have hoT10 := hoT.app hat10 (fun k hk => (hT9d.lt k hk).2)
                have z10 := z9d.kept hgrow10 (fun e => hvo _ e.symm rfl)
                have hb10 : Below w.heap.size w w10 := (below_chain (below_chain hbV' hb9) (bdrew (Below.refl _ _))).grown hgrow10 (by have := O9d.lt; omega) (fun j hj => by have := (O9d.o.lt j hj).1; omega)
                obtain ⟨D10, d10, rfl⟩ := own_shape hown10
                obtain ⟨⟨z50, z51⟩, ⟨e50, e51⟩⟩ := O10.b.get2
                refine hK.out _ _ z10.get2.1 (fun hHeld => ?_)
                clear hK K
                try simp only [Act.put, List.setIfInBounds_toArray, List.set_cons_zero, List.set_cons_succ, List.getElem_toArray, List.getElem_cons_zero, List.getElem_cons_succ]
                refine wpAnyH_ready (rs := [4]) (by kernel_rfl) (by simp) ?_
                refine AllReadyH.cons rfl (fun K hK => ?_) AllReadyH.nil
                go_simp
                have z11 := (z10.far (h := g) (by omega) 0 (.int .i64 most)).far (h := g) (by omega) 1 (.slice D6 T2.length d6)
                refine hK.out _ _ z11.get2.1 (fun hHeld => ?_)
                clear hK K
                refine wpAnyH_take (i := 5) (v := ?_) rfl (by kernel_rfl) (by kernel_rfl) (by kernel_rfl) (fun _ _ _ h => h) (Or.inl ⟨by rfl, ?_⟩) (by assumption) ?_
                rotate_left
                · intro wt hSt
                  try dsimp only at hSt
                  first | (go_simp; done) | (go_simp; with_reducible rfl)
                simp only [Act.put, List.setIfInBounds_toArray, List.set_cons_zero, List.set_cons_succ, List.getElem_toArray, List.getElem_cons_zero, List.getElem_cons_succ]
                refine wpAnyH_done (by kernel_rfl) ?_ _
                have O11 := O10.put hT10 hiT hoT10
                have hb11 := below_set2 hb10 (by omega : w.heap.size ≤ g) (.int .i64 most) (.slice D6 T2.length d6)
                clear O10 hT10 z10 z11 hb10 hbV' hb9 z50 z51 e50 e51 y90 y91 z9d O9d hT9d hU9d
                go_wp2
                go_roundw
                case rel => exact ⟨k + 1, J, O2, T2, _, by omega, by omega, by go_num, HE2, by omega, HG2, O11, hb11⟩
                case measure => simp [intOf]; omega
              · skip
                go_simp
                have hbA : Below V.heap.size V (V.drew.alloc (.cells #[.int .i64 0, .slice none 0 0] 24)) := balloc (bdrew (Below.refl _ _)) _
                have zA := Bx.new V.drew V.heap.size rfl _ [.int .i64 0, .slice none 0 0] 24 rfl
                refine hK.out _ _ ⟨(hOb.below hbA).get2.1.1, (hOb.below hbA).get2.1.2, kept jz hbA⟩ (fun hHeld => ?_)
                clear hK K
                refine wpAnyH_ready (rs := [5]) (by kernel_rfl) (by simp) ?_
                refine AllReadyH.cons rfl (fun K hK => ?_) (AllReadyH.nil)
                go_simp
                go_at_call 7
                refine (hTk _ (hRV.below hbA)).out.mono ?_
                rintro e w6 ⟨D6, d6, E6, f6, rfl, hT6, hU6, hb6'⟩
                have hb6 : Below V.heap.size V w6 := below_chain hbA hb6'
                have hiT := Apart.fresh OV'.i hT6 (by simp)
                have hoT := Apart.fresh OV'.o hT6 (by simp)
                have hoU := Apart.fresh OV'.o hU6 (by simp)
                have z7 := zA.below hb6'
                have hb7 := hb6
                have hpz : V.heap.size ≤ V.heap.size := Nat.le_refl _
                obtain ⟨⟨z70, z71⟩, ⟨f70, f71⟩⟩ := z7.get2
                have hT7 : Rq w6 g (.slice D6 T2.length d6) T2 := own_baseQ hT6 (by simp; omega)
                have hU7 : Rq w6 g (.slice E6 U2.length f6) U2 := own_baseQ hU6 (by simp; omega)
                have hnT : ∀ q, (Value.slice D6 T2.length d6).ownBlock = some q → q ≠ V.heap.size := fun q hq => by have := (hT6.lt q hq).1; simp at this; omega
                have hnU : ∀ q, (Value.slice E6 U2.length f6).ownBlock = some q → q ≠ V.heap.size := fun q hq => by have := (hU6.lt q hq).1; simp at this; omega
                go_wp2_with fail
                refine hK.out _ _ ⟨(hOb.below hb6).get2.1.1, (hOb.below hb6).get2.1.2, kept jz hb6⟩ (fun hHeld => ?_)
                clear hK K
                refine wpAnyH_take (i := 6) (v := ?_) rfl (by kernel_rfl) (by kernel_rfl) (by kernel_rfl) (fun _ _ _ h => h) (Or.inl ⟨by rfl, ?_⟩) (by assumption) ?_
                rotate_left
                · intro wt hSt
                  try dsimp only at hSt
                  first | (go_simp; done) | (go_simp; with_reducible rfl)
                simp only [Act.put, List.setIfInBounds_toArray, List.set_cons_zero, List.set_cons_succ, List.getElem_toArray, List.getElem_cons_zero, List.getElem_cons_succ]
                refine wpAnyH_take (i := 7) (v := ?_) rfl (by kernel_rfl) (by kernel_rfl) (by kernel_rfl) (fun _ _ _ h => h) (Or.inl ⟨by rfl, ?_⟩) (by assumption) ?_
                rotate_left
                · intro wt hSt
                  try dsimp only at hSt
                  first | (go_simp; done) | (go_simp; with_reducible rfl)
                simp only [Act.put, List.setIfInBounds_toArray, List.set_cons_zero, List.set_cons_succ, List.getElem_toArray, List.getElem_cons_zero, List.getElem_cons_succ]
                refine wpAnyH_take (i := 8) (v := ?_) rfl (by kernel_rfl) (by kernel_rfl) (by kernel_rfl) (fun _ _ _ h => h) (Or.inl ⟨by rfl, ?_⟩) (by assumption) ?_
                rotate_left
                · intro wt hSt
                  try dsimp only at hSt
                  first | (go_simp; done) | (go_simp; with_reducible rfl)
                simp only [Act.put, List.setIfInBounds_toArray, List.set_cons_zero, List.set_cons_succ, List.getElem_toArray, List.getElem_cons_zero, List.getElem_cons_succ]
                refine wpAnyH_take (i := 9) (v := ?_) rfl (by kernel_rfl) (by kernel_rfl) (by kernel_rfl) (fun _ _ _ h => h) (Or.inl ⟨by rfl, ?_⟩) (by assumption) ?_
                rotate_left
                · intro wt hSt
                  try dsimp only at hSt
                  first | (go_simp; done) | (go_simp; with_reducible rfl)
                simp only [Act.put, List.setIfInBounds_toArray, List.set_cons_zero, List.set_cons_succ, List.getElem_toArray, List.getElem_cons_zero, List.getElem_cons_succ]
                refine wpAnyH_ready (rs := [11]) (by kernel_rfl) (by simp) ?_
                refine AllReadyH.cons rfl (fun K hK => ?_) (AllReadyH.nil)
                go_simp
                have hb9 := below_set2 hb7 hpz (.int .i64 most) (.slice D6 T2.length d6)
                have z9 := z7.set2 (.int .i64 most) (.slice D6 T2.length d6)
                have hT9 := hT7.kept ((grown_setQ w6 ⟨V.heap.size, 0, none⟩ (.int .i64 most)).trans (grown_setQ _ ⟨V.heap.size, 1, none⟩ (.slice D6 T2.length d6))) (.inr fun e => hnT _ e rfl)
                have hU9 := hU7.kept ((grown_setQ w6 ⟨V.heap.size, 0, none⟩ (.int .i64 most)).trans (grown_setQ _ ⟨V.heap.size, 1, none⟩ (.slice D6 T2.length d6))) (.inr fun e => hnU _ e rfl)
                have hvo : ∀ q, (Value.slice Do OUT.length do').ownBlock = some q → q ≠ V.heap.size := fun q hq => by have := (OV'.o.lt q hq).2; omega
                obtain ⟨X, hX⟩ : ∃ X, (w6.setCell ⟨V.heap.size, 0, none⟩ (.int .i64 most)).setCell ⟨V.heap.size, 1, none⟩ (.slice D6 T2.length d6) = X := ⟨_, rfl⟩
                obtain ⟨pz, hpzz⟩ : ∃ pz, V.heap.size = pz := ⟨_, rfl⟩
                have HPZ := Lib.hid hpzz
                clear hpzz
                refine hK.out _ _ ⟨(hOb.below hb9).get2.1.1, (hOb.below hb9).get2.1.2, kept jz hb9⟩ (fun hHeld => ?_)
                clear hK K
                refine wpAnyH_take (i := 12) (v := ?_) rfl (by kernel_rfl) (by kernel_rfl) (by kernel_rfl) (fun _ _ _ h => h) (Or.inl ⟨by rfl, ?_⟩) (by assumption) ?_
                rotate_left
                · intro wt hSt
                  try dsimp only at hSt
                  first | (go_simp; done) | (go_simp; with_reducible rfl)
                simp only [Act.put, List.setIfInBounds_toArray, List.set_cons_zero, List.set_cons_succ, List.getElem_toArray, List.getElem_cons_zero, List.getElem_cons_succ]
                refine wpAnyH_take (i := 13) (v := ?_) rfl (by kernel_rfl) (by kernel_rfl) (by kernel_rfl) (fun _ _ _ h => h) (Or.inl ⟨by rfl, ?_⟩) (by assumption) ?_
                rotate_left
                · intro wt hSt
                  try dsimp only at hSt
                  first | (go_simp; done) | (go_simp; with_reducible rfl)
                simp only [Act.put, List.setIfInBounds_toArray, List.set_cons_zero, List.set_cons_succ, List.getElem_toArray, List.getElem_cons_zero, List.getElem_cons_succ]
                refine wpAnyH_done (by kernel_rfl) ?_ _
                rw [hX] at hb9 z9 hT9 hU9
                have HX := Lib.hid hX
                have O9 := OV'.below hb9
                clear hX OV' hb6' hb6 hb7 z7 z70 z71 f70 f71 hOb jz hBV hRV y0 y1 hT7 hU7 hnT hnU hT6 hU6 hTk
                go_wp2
                rw [HX.out]
                have hgp : g < pz := by have := HPZ.out; omega
                rw [HPZ.out] at z9 hvo hpz ⊢
                clear HPZ HX HV
                obtain ⟨y90, y91⟩ := z9.get2.1
                have O9d := O9.below (bdrew (Below.refl _ _))
                have hT9d := own_belowN hT9 (bdrew (Below.refl _ _))
                have hU9d := own_belowN hU9 (bdrew (Below.refl _ _))
                have z9d := z9.below (bdrew (Below.refl _ _))
                clear O9 hT9 hU9 z9
                refine wp_region_held_drew (S := fun W => W.cell? ⟨pz, 0, none⟩ = some (.int .i64 most) ∧ W.cell? ⟨pz, 1, none⟩ = some (.slice D6 T2.length d6)) (by kernel_rfl) ⟨y90, y91⟩ (fun hHeld => ?_)
                refine wpAnyH_take (i := 0) (v := ?_) rfl (by kernel_rfl) (by kernel_rfl) (by kernel_rfl) (fun _ _ _ h => h) (Or.inl ⟨by rfl, ?_⟩) (by assumption) ?_
                rotate_left
                · intro wt hSt
                  try dsimp only at hSt
                  first | (go_simp; done) | (go_simp; with_reducible rfl)
                simp only [Act.put, List.setIfInBounds_toArray, List.set_cons_zero, List.set_cons_succ, List.getElem_toArray, List.getElem_cons_zero]
                refine wpAnyH_take (i := 1) (v := ?_) rfl (by kernel_rfl) (by kernel_rfl) (by kernel_rfl) (fun _ _ _ h => h) (Or.inl ⟨by rfl, ?_⟩) (by assumption) ?_
                rotate_left
                · intro wt hSt
                  try dsimp only at hSt
                  first | (go_simp; done) | (go_simp; with_reducible rfl)
                simp only [Act.put, List.setIfInBounds_toArray, List.set_cons_zero, List.set_cons_succ, List.getElem_toArray, List.getElem_cons_zero, List.getElem_cons_succ]
                refine wpAnyH_take (i := 2) (v := ?_) rfl (by kernel_rfl) (by kernel_rfl) (by kernel_rfl) (fun _ _ _ h => h) (Or.inl ⟨by rfl, ?_⟩) (by assumption) ?_
                rotate_left
                · intro wt hSt
                  try dsimp only at hSt
                  first | (go_simp; done) | (go_simp; with_reducible rfl)
                simp only [Act.put, List.setIfInBounds_toArray, List.set_cons_zero, List.set_cons_succ, List.getElem_toArray, List.getElem_cons_zero, List.getElem_cons_succ]
                refine wpAnyH_ready (rs := [3]) (by kernel_rfl) (by simp) ?_
                refine AllReadyH.cons rfl (fun K hK => ?_) AllReadyH.nil
                refine step_app_asksAt rfl (.tmp 72) (.tmp 73) rfl (g + 1) _ OUT ?_ O9d.o E6 f6 U2 ?_ (Row.ownN hU9d) hsmU ?_ ?_
                · first | rfl | simp [Act.eval, Act.put]
                · first | rfl | simp [Act.eval, Act.put]
                · exact O9d.lt
                intro v10 w10 hown10 hgrow10 hat10
                rw [HO2.out] at hown10
                have O10 := O9d.appO hown10 hgrow10 hat10
                have hT10 := hT9d.kept hgrow10 hoT.ne
                have hoT10 := hoT.app hat10 (fun k hk => (hT9d.lt k hk).2)
                have z10 := z9d.kept hgrow10 (fun e => hvo _ e.symm rfl)
                have hb10 : Below w.heap.size w w10 := (below_chain (below_chain hbV' hb9) (bdrew (Below.refl _ _))).grown hgrow10 (by have := O9d.lt; omega) (fun j hj => by have := (O9d.o.lt j hj).1; omega)
                obtain ⟨D10, d10, rfl⟩ := own_shape hown10
                obtain ⟨⟨z50, z51⟩, ⟨e50, e51⟩⟩ := O10.b.get2
                refine hK.out _ _ z10.get2.1 (fun hHeld => ?_)
                clear hK K
                try simp only [Act.put, List.setIfInBounds_toArray, List.set_cons_zero, List.set_cons_succ, List.getElem_toArray, List.getElem_cons_zero, List.getElem_cons_succ]
                refine wpAnyH_ready (rs := [4]) (by kernel_rfl) (by simp) ?_
                refine AllReadyH.cons rfl (fun K hK => ?_) AllReadyH.nil
                go_simp
                have z11 := (z10.far (h := g) (by omega) 0 (.int .i64 most)).far (h := g) (by omega) 1 (.slice D6 T2.length d6)
                refine hK.out _ _ z11.get2.1 (fun hHeld => ?_)
                clear hK K
                refine wpAnyH_take (i := 5) (v := ?_) rfl (by kernel_rfl) (by kernel_rfl) (by kernel_rfl) (fun _ _ _ h => h) (Or.inl ⟨by rfl, ?_⟩) (by assumption) ?_
                rotate_left
                · intro wt hSt
                  try dsimp only at hSt
                  first | (go_simp; done) | (go_simp; with_reducible rfl)
                simp only [Act.put, List.setIfInBounds_toArray, List.set_cons_zero, List.set_cons_succ, List.getElem_toArray, List.getElem_cons_zero, List.getElem_cons_succ]
                refine wpAnyH_done (by kernel_rfl) ?_ _
                have O11 := O10.put hT10 hiT hoT10
                have hb11 := below_set2 hb10 (by omega : w.heap.size ≤ g) (.int .i64 most) (.slice D6 T2.length d6)
                clear O10 hT10 z10 z11 hb10 hbV' hb9 z50 z51 e50 e51 y90 y91 z9d O9d hT9d hU9d
                go_wp2
                go_roundw
                case rel => exact ⟨k + 1, J, O2, T2, _, by omega, by omega, by go_num, HE2, by omega, HG2, O11, hb11⟩
                case measure => simp [intOf]; omega
set_option maxRecDepth 100000 in
theorem queueOrder_lifted (os : Os) (started : os.Started) (H : Type) (enc : TypeId × Value → H) :
    ReturnsInHanded {} Try.checked os 4 .any (Rows.queueOrderSpec.pre6 enc Try.prog Try.f4 Rows.queueOrderRow.domain false) (Rows.queueOrderSpec.post enc Try.prog Try.f4 false true false false) := by
  refine returnsInHanded_of_change (C := Try.checked) own started (by kernel_rfl) Try.func4
    (ChangeSpec.witness6 (enc := enc) (C := Try.checked) false ⟨#[], #[.int .i64 0, .slice none 0 0, .slice none 0 0], []⟩ 8 (by kernel_rfl) (by kernel_rfl) (by kernel_rfl) (by kernel_rfl)) ?_
  intro W base args ds gs before hval0 hW hcnd _
  have hval : ∀ (j : Nat) t v, Try.f4.params[j]? = some t → args[j]? = some v → Value.okWide Try.prog W .any base t v := hval0
  have hW' := hW
  obtain ⟨p, q, hA0, hV, rfl, hfz, hnd⟩ := hW
  have hA : DataW.TrodAll enc Try.prog W 0 (fun _ => true) true Try.f4.params.toList args.toList ds p := hA0
  rw [Try.params4] at hA hval
  obtain ⟨v0, vs0, d0, ds0, p0, q0, hargs, rfl, rfl, h0, r0⟩ := trodAll_cons hA
  obtain ⟨v1, vs1, d1, ds1, p1, q1, rfl, rfl, rfl, h1, r1⟩ := trodAll_cons r0
  obtain ⟨v2, vs2, d2, ds2, p2, q2, rfl, rfl, rfl, h2, r2⟩ := trodAll_cons r1
  obtain ⟨rfl, rfl, rfl⟩ := trodAll_nil r2
  obtain rfl : args = #[v0, v1, v2] := by cases args; simp_all
  obtain ⟨rfl, rfl⟩ := trodVars_none hV
  obtain ⟨x0, rfl, hx0, hy0⟩ := arg_i64 (hval 0 3 v0 rfl rfl) h0
  obtain ⟨A1, c1, s1, rfl, hm1, hr1, hc1, hd1, hs1, -⟩ := arg_asks (hval 1 22 v1 rfl rfl) h1
  obtain ⟨A2, c2, s2, rfl, hm2, hr2, hc2⟩ := arg_ints (hval 2 41 v2 rfl rfl) h2
  refine (queueOrder_walk x0 A1 c1 s1 A2 c2 s2 W hm1 hs1 hr1 hm2 hr2).mono fun e W' ⟨he, hb⟩ => ?_
  subst he
  exact ⟨_, rfl, post_law laidOut (by decide +kernel) rfl Try.underlying4 (by kernel_rfl) hW' rfl hb⟩

/-- The statement. -/
theorem queueOrder_said : Rows.QueueOrderSaid :=
  OpenClaim.holds_of_wide 4 Try.f4 rfl rfl rfl rfl rfl rfl rfl ⟨rfl, rfl, rfl, rfl, rfl⟩ rfl rfl rfl rfl rfl (by kernel_rfl) Try.func4 (by kernel_rfl)
    (of_decide_eq_true (by kernel_rfl)) (by unfold Func.isWrapper; first | (rw [if_pos (by decide +kernel)]; kernel_rfl) | (rw [if_neg (by decide +kernel)]; exact ⟨rfl, rfl⟩))
    (fun os started H enc _ => queueOrder_lifted os started H enc)
#print axioms queueOrder_said
end Go.Proofs.Ytknhohlpjhkmfaa
