/- The reference's Ordered returns the distinct names in their order; it writes nothing that was there. -/
import Derived.Test.YtmmmolbejfdamaaRefPath
import Derived.Test.YtmmmolbejfdamaaApps
namespace Go.Proofs.Ytmmmolbejfdamaa
open Go.RowKit

/-- A list of strings of the call's own. -/
def ListGives (T : List Bytes) (w : World) (e : Ending) (w' : World) : Prop := ∃ D d, e = .returned (.slice D T.length d) ∧ Row w' D (scells T) ∧ Below w.heap.size w w'
def sliceLen : Value → Nat | .slice _ n _ => n | _ => 0

set_option maxRecDepth 100000 in
set_option maxHeartbeats 1600000 in
theorem refOrdered (A : Option Addr) (c : Nat) (ss : List Bytes) (w : World) (hm : ss.length * 16 ≤ 140737488351232) (hs : ∀ s ∈ ss, s.length ≤ maxLen) (hA : Row w A (scells ss)) :
    Calls Try.prog 38 #[.slice A ss.length c] w (ListGives (Bin.srt ss) w) := by
  have hle := Bin.srt_le ss
  have HS := Lib.hid hs
  clear hs
  go_enter Try.func38, Try.ntmps38
  go_wp2
  go_loopw [3] (fun o wr => ∃ (k : Nat) (qs : List Bytes), k ≤ (Bin.srt ss).length ∧ Hid (qs.length = k) ∧ Hid (qs = (Bin.srt ss).take k) ∧ wr.ownsRow w.heap.size 9 1 o qs.length (scells qs) ∧ Below w.heap.size w wr) (fun o _ => (Bin.srt ss).length - sliceLen o)
  case atStart => exact ⟨0, [], Nat.zero_le _, rfl, rfl, World.ownsRow_nil _ _ _ _, Below.refl _ _⟩
  case round =>
    obtain ⟨k, qs, hk, HK, HQ, hown, hbl⟩ := hrel
    have hsz := hbl.size
    have hql : qs.length ≤ k := by rw [HK.out]; exact Nat.le_refl _
    have hrA := hA.below hbl
    clear hA
    cases k with
    | zero =>
      obtain ⟨B, cb, rfl⟩ := own_shape hown
      obtain rfl : qs = [] := List.eq_nil_of_length_eq_zero HK.out
      rw [List.length_nil]
      clear hql
      go_wp2
      go_loop [4, 5, 10] (fun b a i => ∃ (n : Nat) (any : Bool) (best : Bytes), n ≤ ss.length ∧ i = .int .i64 n ∧ a = .bool any ∧ b = .string (S best) ∧ best.length ≤ maxLen ∧ Hid (Bin.Best ss (0) (ss.take n) any best)) (fun _ _ i => ss.length - (intOf i).toNat)
      case atStart =>
        refine ⟨0, false, [], Nat.zero_le _, rfl, rfl, rfl, by simp, ?_⟩
        show Bin.Best ss (0) (ss.take 0) false []
        exact ⟨fun _ s hs => by simp at hs, fun h => by simp at h⟩
      case round =>
        obtain ⟨n, any, best, hn, rfl, rfl, rfl, hbm, HB⟩ := hrel
        by_cases hlt : n < ss.length
        · obtain ⟨g, off, rfl, hcs⟩ := hrA (by rw [scells_length]; omega)
          have h1 := hcs n (by rw [scells_length]; exact hlt)
          simp only [scells, List.getElem_map] at h1
          have hi0 : (0 : Int) ≤ (n : Int) := by omega
          have hi1 : (n : Int) < (ss.length : Int) := by omega
          have hsm := HS.out _ (List.getElem_mem hlt)
          have HSk : Hid ((¬ Bin.After ss (0) ss[n] ∨ any = true ∧ ¬ Bin.R ss[n] best) → Bin.Best ss (0) (ss.take (n + 1)) any best) := by
            show _ → _
            intro h
            rw [List.take_succ_eq_append_getElem hlt]
            exact HB.out.skip h
          have HTk : Hid (Bin.After ss (0) ss[n] → (any = true → Bin.R ss[n] best) → Bin.Best ss (0) (ss.take (n + 1)) true ss[n]) := by
            show _ → _ → _
            intro h1 h2
            rw [List.take_succ_eq_append_getElem hlt]
            exact HB.out.take h1 h2
          have hAh := fun w => Lib.hid (refAhead ss[n] best w hsm hbm _ rfl)
          clear hcs hrA HB
          have haf : Bin.After ss 0 ss[n] := .inl rfl
          cases any with
          | false =>
            have HN := Lib.hid (HTk.out haf (by simp))
            clear HTk HSk haf hAh
            generalize ss[n] = s at *
            go_wp2
            go_round
            case rel => exact ⟨n + 1, true, s, by omega, by go_num, rfl, rfl, hsm, HN⟩
            case measure => simp [intOf]; omega
          | true =>
            cases hr : decide (Bin.R ss[n] best) with
            | true =>
              rw [hr] at hAh
              have HN := Lib.hid (HTk.out haf (fun _ => of_decide_eq_true hr))
              clear HTk HSk haf hr
              generalize ss[n] = s at *
              go_wp2_with fail
              refine (hAh _).out.mono ?_
              rintro e w1 ⟨rfl, rfl⟩
              go_wp2
              go_round
              case rel => exact ⟨n + 1, true, s, by omega, by go_num, rfl, rfl, hsm, HN⟩
              case measure => simp [intOf]; omega
            | false =>
              rw [hr] at hAh
              have HN := Lib.hid (HSk.out (.inr ⟨rfl, of_decide_eq_false hr⟩))
              clear HTk HSk haf hr
              generalize ss[n] = s at *
              go_wp2_with fail
              refine (hAh _).out.mono ?_
              rintro e w1 ⟨rfl, rfl⟩
              go_wp2
              go_round
              case rel => exact ⟨n + 1, true, best, by omega, by go_num, rfl, rfl, hbm, HN⟩
              case measure => simp [intOf]; omega
        · obtain rfl : n = ss.length := by omega
          rw [List.take_length] at HB
          cases any with
          | false =>
            have hkk := Bin.Best.none HB.out hk
            have HQ' : Hid ([] = Bin.srt ss) := by
              show [] = Bin.srt ss
              rw [HQ.out, hkk, List.take_length]
            clear HQ HB hrA hkk
            go_wp2
            go_ret
            rw [← HQ'.out]
            exact ⟨_, cb, rfl, Row.own hown, hbl⟩
          | true =>
            obtain ⟨hkl, hkb⟩ := Bin.Best.some HB.out hk
            have HQ' : Hid ([] ++ [best] = (Bin.srt ss).take (0 + 1)) := by
              show [] ++ [best] = (Bin.srt ss).take (0 + 1)
              rw [List.take_succ_eq_append_getElem hkl, hkb, ← HQ.out]
            have HM : Hid ((Bin.srt ss).length - ([] ++ [best]).length < (Bin.srt ss).length - 0) := by
              show _ < _
              have := HK.out
              simp only [List.length_append, List.length_cons, List.length_nil] at this ⊢
              omega
            clear HQ HB hrA hkb
            go_wp2_with (first
              | (at_builtin; refine app_strs _ rfl _ _ rfl w.heap.size _ [] rfl (hown.alloc _) ⟨wr.heap.size, 0, none⟩ 1 [best] 1 rfl rfl (str_one wr best _) (by simp <;> omega) (by simp <;> omega) ?_; intro v1 w3 hown3 hgrow3))
            have hb3 : Below w.heap.size w w3 := (hbl.alloc hsz _).grown hgrow3 (by simp; omega) (fun g' hg' => (hown.lt g' hg').1)
            obtain ⟨B', cb', rfl⟩ := own_shape hown3
            go_roundw
            case rel => exact ⟨0 + 1, [] ++ [best], by omega, by rfl, HQ', hown3, hb3⟩
            case measure => exact HM.out
    | succ j =>
      obtain ⟨B, cb, rfl⟩ := own_shape hown
      have hj : j < (Bin.srt ss).length := by omega
      have hq1 : ((qs.length : Int) == 0) = false := by
        rw [beq_eq_false_iff_ne]
        have := HK.out
        omega
      have hq0 : (0 : Int) ≤ (qs.length : Int) - 1 := by have := HK.out; omega
      obtain ⟨g1, o1, rfl, hqc⟩ := (Row.own hown) (by rw [scells_length, HK.out]; omega)
      have hq2 := hqc (qs.length - 1) (by rw [scells_length, HK.out]; omega)
      have hqe : ∀ h : qs.length - 1 < (scells qs).length, (scells qs)[qs.length - 1] = .string (S (Bin.srt ss)[j]) := by
        intro h
        simp only [scells, List.getElem_map]
        congr 2
        have e1 := HQ.out
        have e2 := HK.out
        have e3 : qs.length - 1 = j := by omega
        simp only [e1, List.getElem_take]
        congr 1
        rw [← e1]
        exact e3
      rw [hqe] at hq2
      have hlm := HS.out _ ((Bin.srt_mem ss _).1 (List.getElem_mem hj))
      clear hqc hqe
      go_wp2
      go_loop [4, 5, 10] (fun b a i => ∃ (n : Nat) (any : Bool) (best : Bytes), n ≤ ss.length ∧ i = .int .i64 n ∧ a = .bool any ∧ b = .string (S best) ∧ best.length ≤ maxLen ∧ Hid (Bin.Best ss (j + 1) (ss.take n) any best)) (fun _ _ i => ss.length - (intOf i).toNat)
      case atStart =>
        refine ⟨0, false, [], Nat.zero_le _, rfl, rfl, rfl, by simp, ?_⟩
        show Bin.Best ss (j + 1) (ss.take 0) false []
        exact ⟨fun _ s hs => by simp at hs, fun h => by simp at h⟩
      case round =>
        obtain ⟨n, any, best, hn, rfl, rfl, rfl, hbm, HB⟩ := hrel
        by_cases hlt : n < ss.length
        · obtain ⟨g, off, rfl, hcs⟩ := hrA (by rw [scells_length]; omega)
          have h1 := hcs n (by rw [scells_length]; exact hlt)
          simp only [scells, List.getElem_map] at h1
          have hi0 : (0 : Int) ≤ (n : Int) := by omega
          have hi1 : (n : Int) < (ss.length : Int) := by omega
          have hsm := HS.out _ (List.getElem_mem hlt)
          have HSk : Hid ((¬ Bin.After ss (j + 1) ss[n] ∨ any = true ∧ ¬ Bin.R ss[n] best) → Bin.Best ss (j + 1) (ss.take (n + 1)) any best) := by
            show _ → _
            intro h
            rw [List.take_succ_eq_append_getElem hlt]
            exact HB.out.skip h
          have HTk : Hid (Bin.After ss (j + 1) ss[n] → (any = true → Bin.R ss[n] best) → Bin.Best ss (j + 1) (ss.take (n + 1)) true ss[n]) := by
            show _ → _ → _
            intro h1 h2
            rw [List.take_succ_eq_append_getElem hlt]
            exact HB.out.take h1 h2
          have hAh := fun w => Lib.hid (refAhead ss[n] best w hsm hbm _ rfl)
          clear hcs hrA HB
          have hAl := fun w => Lib.hid (refAhead (Bin.srt ss)[j] ss[n] w hlm hsm _ rfl)
          cases hr1 : decide (Bin.R (Bin.srt ss)[j] ss[n]) with
          | false =>
            rw [hr1] at hAl
            have HN := Lib.hid (HSk.out (.inl fun h => of_decide_eq_false hr1 (h.elim (fun h => absurd h (by omega)) fun ⟨_, h⟩ => h)))
            clear HTk HSk hAh hr1
            generalize (Bin.srt ss)[j] = t at *
            generalize ss[n] = s at *
            go_wp2_with fail
            refine (hAl _).out.mono ?_
            rintro e w1 ⟨rfl, rfl⟩
            go_wp2
            go_round
            case rel => exact ⟨n + 1, any, best, by omega, by go_num, rfl, rfl, hbm, HN⟩
            case measure => simp [intOf]; omega
          | true =>
            rw [hr1] at hAl
            have haf : Bin.After ss (j + 1) ss[n] := .inr ⟨hj, of_decide_eq_true hr1⟩
            clear hr1
            generalize (Bin.srt ss)[j] = t at *
            cases any with
            | false =>
              have HN := Lib.hid (HTk.out haf (by simp))
              clear HTk HSk haf hAh
              generalize ss[n] = s at *
              go_wp2_with fail
              refine (hAl _).out.mono ?_
              rintro e w1 ⟨rfl, rfl⟩
              go_wp2
              go_round
              case rel => exact ⟨n + 1, true, s, by omega, by go_num, rfl, rfl, hsm, HN⟩
              case measure => simp [intOf]; omega
            | true =>
              cases hr : decide (Bin.R ss[n] best) with
              | true =>
                rw [hr] at hAh
                have HN := Lib.hid (HTk.out haf (fun _ => of_decide_eq_true hr))
                clear HTk HSk haf hr
                generalize ss[n] = s at *
                go_wp2_with fail
                refine (hAl _).out.mono ?_
                rintro e w1 ⟨rfl, rfl⟩
                go_wp2_with fail
                refine (hAh _).out.mono ?_
                rintro e w1 ⟨rfl, rfl⟩
                go_wp2
                go_round
                case rel => exact ⟨n + 1, true, s, by omega, by go_num, rfl, rfl, hsm, HN⟩
                case measure => simp [intOf]; omega
              | false =>
                rw [hr] at hAh
                have HN := Lib.hid (HSk.out (.inr ⟨rfl, of_decide_eq_false hr⟩))
                clear HTk HSk haf hr
                generalize ss[n] = s at *
                go_wp2_with fail
                refine (hAl _).out.mono ?_
                rintro e w1 ⟨rfl, rfl⟩
                go_wp2_with fail
                refine (hAh _).out.mono ?_
                rintro e w1 ⟨rfl, rfl⟩
                go_wp2
                go_round
                case rel => exact ⟨n + 1, true, best, by omega, by go_num, rfl, rfl, hbm, HN⟩
                case measure => simp [intOf]; omega
        · obtain rfl : n = ss.length := by omega
          rw [List.take_length] at HB
          cases any with
          | false =>
            have hkk := Bin.Best.none HB.out hk
            have HQ' : Hid (qs = Bin.srt ss) := by
              show qs = Bin.srt ss
              rw [HQ.out, hkk, List.take_length]
            clear HQ HB hrA hkk
            go_wp2
            go_ret
            rw [← HQ'.out]
            exact ⟨_, cb, rfl, Row.own hown, hbl⟩
          | true =>
            obtain ⟨hkl, hkb⟩ := Bin.Best.some HB.out hk
            have HQ' : Hid (qs ++ [best] = (Bin.srt ss).take (j + 1 + 1)) := by
              show qs ++ [best] = (Bin.srt ss).take (j + 1 + 1)
              rw [List.take_succ_eq_append_getElem hkl, hkb, ← HQ.out]
            have HM : Hid ((Bin.srt ss).length - (qs ++ [best]).length < (Bin.srt ss).length - qs.length) := by
              show _ < _
              have := HK.out
              simp only [List.length_append, List.length_cons, List.length_nil] at this ⊢
              omega
            clear HQ HB hrA hkb
            go_wp2_with (first
              | (at_builtin; refine app_strs _ rfl _ _ rfl w.heap.size _ qs rfl (hown.alloc _) ⟨wr.heap.size, 0, none⟩ 1 [best] 1 rfl rfl (str_one wr best _) (by simp <;> omega) (by simp <;> omega) ?_; intro v1 w3 hown3 hgrow3))
            have hb3 : Below w.heap.size w w3 := (hbl.alloc hsz _).grown hgrow3 (by simp; omega) (fun g' hg' => (hown.lt g' hg').1)
            obtain ⟨B', cb', rfl⟩ := own_shape hown3
            go_roundw
            case rel => exact ⟨j + 1 + 1, qs ++ [best], by omega, by show (qs ++ [best]).length = _; rw [List.length_append, HK.out]; rfl, HQ', hown3, hb3⟩
            case measure => exact HM.out
end Go.Proofs.Ytmmmolbejfdamaa
