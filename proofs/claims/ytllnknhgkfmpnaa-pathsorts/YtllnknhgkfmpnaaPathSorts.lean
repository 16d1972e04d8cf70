/- The law PathSorts returns true: names that are sorted stand so for good, each once, in the order of their paths and byte by byte, and are those that there were; where one is no name, no list is returned; nothing that was there is written. No conditions. -/
import Derived.Test.YtllnknhgkfmpnaaLaw
import Derived.Test.YtllnknhgkfmpnaaPathSort
import Derived.Test.YtllnknhgkfmpnaaPathLive
import Derived.Test.YtllnknhgkfmpnaaOutside
import Derived.Test.YtllnknhgkfmpnaaEqStrs
namespace Go.Proofs.Ytllnknhgkfmpnaa
open Go.ChangeShapes Go.WideShapes Go.ChangeAt Go.RowKit

/-- The path of the name before place k. -/
def lastP (T : List Bytes) : Nat → Bytes
  | 0 => []
  | k + 1 => (T[k]?.map Bin.of).getD []
theorem lastP_at (T : List Bytes) (k : Nat) (h : k < T.length) : lastP T (k + 1) = Bin.of T[k] := by simp [lastP, h]

theorem kept {w w1 : World} {p : Addr} {v : Value} (hc : w.cell? p = some v) (hb : Below w.heap.size w w1) : w1.cell? p = some v := by
  rw [hb.cell (World.block_lt_of_cell? _ _ hc), hc]
theorem new_cell (w : World) (v : Value) (t : TypeId) : (w.alloc (.cells #[v] t)).cell? ⟨w.heap.size, 0, none⟩ = some v := by
  rw [World.cell?_alloc_new]
  rfl

theorem pathSort_again (A : Option Addr) (c : Nat) (ss : List Bytes) (w : World) (hm : ss.length * 16 ≤ 140737488351232) (hn : ∀ s ∈ ss, Bin.name s = true) (hA : Row w A (scells (Bin.srt ss))) :
    Calls Try.prog 8 #[.slice A (Bin.srt ss).length c] w fun e w' =>
      ∃ D d, e = .returned (.tuple #[.slice D (Bin.srt ss).length d, .int .i64 0]) ∧ Row w' D (scells (Bin.srt ss)) ∧ Below w.heap.size w w' := by
  have hle := Bin.srt_le ss
  have hn' : ∀ s ∈ Bin.srt ss, Bin.name s = true := fun s hs => hn s ((Bin.srt_mem ss s).1 hs)
  refine (pathSort A c (Bin.srt ss) w (by omega) (fun s hs => by have := Bin.name_len (hn' s hs); unfold maxLen; omega) hA).mono ?_
  rintro e w' (⟨_, D, d, he, hr, hb⟩ | ⟨⟨s, hs, hx⟩, _⟩)
  · rw [Bin.srt_srt] at he hr
    exact ⟨D, d, he, hr, hb⟩
  · rw [hn' s hs] at hx
    cases hx

set_option maxRecDepth 100000 in
set_option maxHeartbeats 800000 in
theorem pathSorts_walk (A : Option Addr) (c : Nat) (ss : List Bytes) (w : World) (hm : ss.length * 16 ≤ 140737488351232) (hs : ∀ s ∈ ss, s.length ≤ maxLen) (hA : Row w A (scells ss)) :
    Calls Try.prog 4 #[.slice A ss.length c] w fun e w' => e = .returned (.bool true) ∧ Below w.heap.size w w' := by
  have hL := fun w => Lib.hid (pathsLive w)
  go_enter Try.func4, Try.ntmps4
  go_wp2_with fail
  refine (hL _).out.mono ?_
  rintro e w1 ⟨rfl, hb1⟩
  clear hL
  have hS := Lib.hid (pathSort A c ss w1 hm hs (hA.below hb1))
  go_wp2_with fail
  refine hS.out.mono ?_
  rintro e w2 (⟨hn, D, d, rfl, hr2, hb2⟩ | ⟨hx, rfl, hb2⟩)
  · have hb0 := below_chain hb1 hb2
    clear hS hb1 hb2
    have HN := Lib.hid hn
    have hle := Bin.srt_le ss
    have hG := fun D c w hA => Lib.hid (pathSort_again D c ss w hm hn hA)
    have HM : Hid (∀ x, x ∈ Bin.srt ss ↔ x ∈ ss) := fun x => Bin.srt_mem ss x
    have HP : Hid ((Bin.srt ss).Pairwise Bin.R) := Bin.srt_pairwise ss
    clear hn
    generalize Bin.srt ss = T at *
    go_wp2_with fail
    refine (hG D d _ (hr2.alloc _)).out.mono ?_
    rintro e w3 ⟨E, e, rfl, hr3, hb3⟩
    have hc3 : w3.cell? ⟨w2.heap.size, 0, none⟩ = some (.slice D T.length d) := kept (new_cell w2 _ _) hb3
    have hrD := (hr2.alloc (.cells #[.slice D T.length d] 22)).below hb3
    have hb03 := below_chain (hb0.alloc hb0.size _) hb3
    have HF : Hid (∀ w', Below w3.heap.size w3 w' → w'.cell? ⟨w2.heap.size, 0, none⟩ = some (.slice D T.length d) ∧ Row w' D (scells T) ∧ Row w' A (scells ss)) := fun w' hb => ⟨kept hc3 hb, hrD.below hb, (hA.below hb03).below hb⟩
    clear hG hr2 hb3 hb0 hrD hA
    generalize w2.heap.size = g0 at *
    go_wp2
    go_loopw [7, 31] (fun l i wr => ∃ k : Nat, k ≤ T.length ∧ i = .int .i64 k ∧ l = .string (S (lastP T k)) ∧ Below w3.heap.size w3 wr) (fun _ i _ => T.length - (intOf i).toNat)
    case atStart => exact ⟨0, Nat.zero_le _, rfl, rfl, Below.refl _ _⟩
    case round =>
      obtain ⟨k, hk, rfl, rfl, hbl⟩ := hrel
      by_cases hlt : k < T.length
      · obtain ⟨hc, hrT, -⟩ := HF.out _ hbl
        obtain ⟨g, off, rfl, hcs⟩ := hrT (by rw [scells_length]; omega)
        have h1 := hcs k (by rw [scells_length]; exact hlt)
        simp only [scells, List.getElem_map] at h1
        have hi0 : (0 : Int) ≤ (k : Int) := by omega
        have hi1 : (k : Int) < (T.length : Int) := by omega
        have hmem : T[k] ∈ ss := (HM.out _).1 (List.getElem_mem hlt)
        have hO := fun w => Lib.hid (pathOf_yes T[k] w (HN.out _ hmem))
        have hC := fun w h => Lib.hid (containsStrs A c ss T[k] w (by unfold maxLen; omega) true (decide_eq_true hmem) h)
        clear hmem hcs hrT
        go_wp2_with fail
        refine (hO _).out.mono ?_
        rintro e w4 ⟨rfl, hb4⟩
        have hbl4 := below_chain hbl hb4
        obtain ⟨hc4, hrT4, hrA4⟩ := HF.out _ hbl4
        have hC4 := hC _ hrA4
        have HL := Lib.hid (lastP_at T k hlt)
        clear hO hC hrA4 hc hbl hb4 h1
        cases k with
        | zero =>
          go_wp2_with fail
          refine hC4.out.mono ?_
          rintro e w5 ⟨rfl, rfl⟩
          go_wp2
          go_roundw
          case rel => exact ⟨1, by omega, by go_num, by rw [← HL.out], hbl4⟩
          case measure => simp [intOf]; omega
        | succ j =>
          obtain ⟨g', off', e', hcs⟩ := hrT4 (by rw [scells_length]; omega)
          injection e' with e'
          injection e' with e1 e2
          subst e1; subst e2
          have h1 := hcs j (by rw [scells_length]; omega)
          simp only [scells, List.getElem_map] at h1
          have hj : j < T.length := by omega
          have hR := (Bin.R_iff _ _).1 (List.pairwise_iff_getElem.1 HP.out j (j + 1) hj hlt (by omega))
          rw [lastP_at T j hj]
          clear hcs hrT4
          generalize Bin.of T[j] = x at *
          generalize Bin.of T[j + 1] = y at *
          generalize T[j] = s at *
          generalize T[j + 1] = t at *
          have hr : j + 2 ≤ T.length := by omega
          rcases hR with hR | ⟨rfl, hR⟩
          · have c1 : Op.bytesLess y x = false := by rw [bytesLess_eq]; exact decide_eq_false fun h => Bin.bs_lt_irrefl _ (Bin.bs_lt_trans h hR)
            have c2 : (y == x) = false := by
              rw [beq_eq_false_iff_ne]
              rintro rfl
              exact Bin.bs_lt_irrefl _ hR
            clear hR
            go_wp2_with fail
            refine hC4.out.mono ?_
            rintro e w5 ⟨rfl, rfl⟩
            go_wp2
            go_roundw
            case rel => exact ⟨j + 2, hr, by go_num, by rw [← HL.out], hbl4⟩
            case measure => simp [intOf]; omega
          · have c1 : Op.bytesLess x x = false := by rw [bytesLess_eq]; exact decide_eq_false (Bin.bs_lt_irrefl _)
            have c2 : (x == x) = true := by simp
            have c3 : Op.bytesLess t s = false := by rw [bytesLess_eq]; exact decide_eq_false fun h => Bin.bs_lt_irrefl _ (Bin.bs_lt_trans h hR)
            have c4 : (t == s) = false := by
              rw [beq_eq_false_iff_ne]
              rintro rfl
              exact Bin.bs_lt_irrefl _ hR
            clear hR
            go_wp2_with fail
            refine hC4.out.mono ?_
            rintro e w5 ⟨rfl, rfl⟩
            go_wp2
            go_roundw
            case rel => exact ⟨j + 2, hr, by go_num, by rw [← HL.out], hbl4⟩
            case measure => simp [intOf]; omega
      · obtain rfl : k = T.length := by omega
        obtain ⟨hc, hrT, hrA⟩ := HF.out _ hbl
        have hE := Lib.hid (eqStrs D E d e T T wr (by unfold maxLen; omega) true (by simp) hrT (hr3.below hbl))
        have hU : ∀ w' : World, (∃ m, w' = wr.drewN m) → Hid (Calls Try.prog 14 #[.slice A ss.length c, .func (.func 20) #[] #[.pointer (some ⟨g0, 0, none⟩)]] w' fun e w'' => e = .returned (.bool false) ∧ w' = w'') := by
          rintro w' ⟨m, rfl⟩
          refine outside A c ss g0 D d T (wr.drewN m) (by unfold maxLen; omega) hs (show (wr.drewN m).cell? _ = _ from hc) (by unfold maxLen; omega) (hrT.drewN m) false ?_ (hrA.drewN m)
          rw [List.any_eq_false]
          intro x hx
          simp [(HM.out x).2 hx]
        clear hrT hrA
        go_wp2_with fail
        refine hE.out.mono ?_
        rintro e w5 ⟨rfl, m, rfl⟩
        go_wp2_with fail
        refine (hU _ ⟨m, rfl⟩).out.mono ?_
        rintro e w5 ⟨rfl, rfl⟩
        go_wp2
        go_ret
        exact ⟨rfl, below_drewN (below_chain hb03 hbl) m⟩
  · have hb0 := below_chain hb1 hb2
    go_wp2
    go_ret
    exact ⟨rfl, hb0.alloc hb0.size _⟩

set_option maxRecDepth 100000 in
theorem pathSorts_lifted (os : Os) (started : os.Started) (H : Type) (enc : TypeId × Value → H) :
    ReturnsInHanded {} Try.checked os 4 .any (Rows.pathSortsSpec.pre6 enc Try.prog Try.f4 Rows.pathSortsRow.domain false) (Rows.pathSortsSpec.post enc Try.prog Try.f4 false true false false) := by
  refine returnsInHanded_of_change_sized (C := Try.checked) own started (by kernel_rfl) Try.func4
    (ChangeSpec.witness6 (enc := enc) (C := Try.checked) false ⟨#[], #[.slice none 0 0], []⟩ 8 (by kernel_rfl) (by kernel_rfl) (by kernel_rfl) (by kernel_rfl)) ?_
  intro W base args ds gs before hval0 hW hcnd hsz _
  have hval : ∀ (j : Nat) t v, Try.f4.params[j]? = some t → args[j]? = some v → Value.okWide Try.prog W .any base t v := hval0
  have hW' := hW
  obtain ⟨p, q, hA0, hV, rfl, hfz, hnd⟩ := hW
  have hA : DataW.TrodAll enc Try.prog W 0 (fun _ => true) true Try.f4.params.toList args.toList ds p := hA0
  rw [Try.params4] at hA hval
  obtain ⟨v0, vs0, d0, ds0, p0, q0, hargs, rfl, rfl, h0, r0⟩ := trodAll_cons hA
  obtain ⟨rfl, rfl, rfl⟩ := trodAll_nil r0
  obtain rfl : args = #[v0] := by cases args; simp_all
  obtain ⟨rfl, rfl⟩ := trodVars_none hV
  rw [Try.params4] at hsz
  obtain ⟨A0, c0, s0, rfl, hm0, hr0, hs0⟩ := arg_strs_sized (j := 0) hsz rfl rfl (hval 0 22 v0 rfl rfl) h0
  refine (pathSorts_walk A0 c0 s0 W hm0 hs0 hr0).mono fun e W' ⟨he, hb⟩ => ?_
  subst he
  exact ⟨_, rfl, post_law laidOut (by decide +kernel) rfl Try.underlying4 (by kernel_rfl) hW' rfl hb⟩

/-- The statement. -/
theorem pathSorts_said : Rows.PathSortsSaid :=
  OpenClaim.holds_of_wide 4 Try.f4 rfl rfl rfl rfl rfl rfl rfl ⟨rfl, rfl, rfl, rfl, rfl⟩ rfl rfl rfl rfl rfl (by kernel_rfl) Try.func4 (by kernel_rfl)
    (of_decide_eq_true (by kernel_rfl)) (by unfold Func.isWrapper; first | (rw [if_pos (by decide +kernel)]; kernel_rfl) | (rw [if_neg (by decide +kernel)]; exact ⟨rfl, rfl⟩))
    (fun os started H enc _ => pathSorts_lifted os started H enc)
#print axioms pathSorts_said
end Go.Proofs.Ytllnknhgkfmpnaa
