/- The reference's Ordered returns the distinct names in their order; it writes nothing that was there. -/
import Derived.Test.YtjcockcilkiggaaGreatJ05
import Derived.Test.YtjcockcilkiggaaGreatJ01
import Derived.Test.YtjcockcilkiggaaGreatJ10
namespace Go.Proofs.YtjcockcilkiggaaGreat
open Go.RowKit

/-- A list of strings of the call's own. -/
def ListGives (T : List Bytes) (w : World) (e : Ending) (w' : World) : Prop := ∃ D d, e = .returned (.slice D T.length d) ∧ Row w' D (scells T) ∧ Below w.heap.size w w'
def sliceLen : Value → Nat | .slice _ n _ => n | _ => 0

set_option maxRecDepth 100000 in
set_option maxHeartbeats 1600000 in
theorem refOrdered (A : Option Addr) (c : Nat) (ss : List Bytes) (w : World) (hm : ss.length * 16 ≤ 140737488351232) (hs : ∀ s ∈ ss, s.length ≤ maxLen) (hA : Row w A (scells ss)) :
    Calls Tryz.prog 60 #[.slice A ss.length c] w (ListGives (Bin.srt ss) w) := by
  have hle := Bin.srt_le ss
  have HS := Lib.hid hs
  clear hs
  go_enter Tryz.func60, Tryz.ntmps60
  go_wp2
  go_loopw [3] (fun o wr => ∃ (k : Nat) (qs : List Bytes), k ≤ (Bin.srt ss).length ∧ Hid (qs.length = k) ∧ Hid (qs = (Bin.srt ss).take k) ∧ wr.ownsRow w.heap.size 9 1 o qs.length (scells qs) ∧ Below w.heap.size w wr) (fun o _ => (Bin.srt ss).length - sliceLen o)
  case atStart => exact ⟨0, [], Nat.zero_le _, rfl, rfl, World.ownsRow_nil _ _ _ _, Below.refl _ _⟩
  case round =>
    obtain ⟨k, qs, hk, HK, HQ, hown, hbl⟩ := hrel
    have hsz := hbl.size
    have hql : qs.length ≤ k := by rw [HK.out]; exact Nat.le_refl _
    have hrA := hA.below hbl
    clear hA
    cases k with
    | zero =>
      obtain ⟨B, cb, rfl⟩ := own_shape hown
      obtain rfl : qs = [] := List.eq_nil_of_length_eq_zero HK.out
      rw [List.length_nil]
      clear hql
      go_wp2
      go_loop [4, 5, 10] (fun b a i => ∃ (n : Nat) (any : Bool) (best : Bytes), n ≤ ss.length ∧ i = .int .i64 n ∧ a = .bool any ∧ b = .string (S best) ∧ best.length ≤ maxLen ∧ Hid (Bin.Best ss (0) (ss.take n) any best)) (fun _ _ i => ss.length - (intOf i).toNat)
      case atStart =>
        refine ⟨0, false, [], Nat.zero_le _, rfl, rfl, rfl, by simp, ?_⟩
        show Bin.Best ss (0) (ss.take 0) false []
        exact ⟨fun _ s hs => by simp at hs, fun h => by simp at h⟩
      case round =>
        obtain ⟨n, any, best, hn, rfl, rfl, rfl, hbm, HB⟩ := hrel
        by_cases hlt : n < ss.length
        · obtain ⟨g, off, rfl, hcs⟩ := hrA (by rw [scells_length]; omega)
          have h1 := hcs n (by rw [scells_length]; exact hlt)
          simp only [scells, List.getElem_map] at h1
          have hi0 : (0 : Int) ≤ (n : Int) := by omega
          have hi1 : (n : Int) < (ss.length : Int) := by omega
          have hsm := HS.out _ (List.getElem_mem hlt)
          have HSk : Hid ((¬ Bin.After ss (0) ss[n] ∨ any = true ∧ ¬ Bin.R ss[n] best) → Bin.Best ss (0) (ss.take (n + 1)) any best) := by
            show _ → _
            intro h
            rw [List.take_succ_eq_append_getElem hlt]
            exact HB.out.skip h
          have HTk : Hid (Bin.After ss (0) ss[n] → (any = true → Bin.R ss[n] best) → Bin.Best ss (0) (ss.take (n + 1)) true ss[n]) := by
            show _ → _ → _
            intro h1 h2
            rw [List.take_succ_eq_append_getElem hlt]
            exact HB.out.take h1 h2
          have hAh := fun w => Lib.hid (refAhead ss[n] best w hsm hbm _ rfl)
          clear hcs hrA HB
          have haf : Bin.After ss 0 ss[n] := .inl rfl
          cases any with
          | false =>
            have HN := Lib.hid (HTk.out haf (by simp))
            clear HTk HSk haf hAh
            generalize ss[n] = s at *
            go_wp2
            go_round
            case rel => exact ⟨n + 1, true, s, by omega, by go_num, rfl, rfl, hsm, HN⟩
            case measure => simp [intOf]; omega
          | true =>
            cases hr : decide (Bin.R ss[n] best) with
            | true =>
              rw [hr] at hAh
              have HN := Lib.hid (HTk.out haf (fun _ => of_decide_eq_true hr))
              clear HTk HSk haf hr
              generalize ss[n] = s at *
              go_wp2_with fail
              refine (hAh _).out.mono ?_
              rintro e w1 ⟨rfl, rfl⟩
              go_wp2
              go_round
              case rel => exact ⟨n + 1, true, s, by omega, by go_num, rfl, rfl, hsm, HN⟩
              case measure => simp [intOf]; omega
            | false =>
              rw [hr] at hAh
              have HN := Lib.hid (HSk.out (.inr ⟨rfl, of_decide_eq_false hr⟩))
              clear HTk HSk haf hr
              generalize ss[n] = s at *
              go_wp2_with fail
              refine (hAh _).out.mono ?_
              rintro e w1 ⟨rfl, rfl⟩
              go_wp2
              go_round
              case rel => exact ⟨n + 1, true, best, by omega, by go_num, rfl, rfl, hbm, HN⟩
              case measure => simp [intOf]; omega
        · obtain rfl : n = ss.length := by omega
          rw [List.take_length] at HB
          cases any with
          | false =>
            have hkk := Bin.Best.none HB.out hk
            have HQ' : Hid ([] = Bin.srt ss) := by
              show [] = Bin.srt ss
              rw [HQ.out, hkk, List.take_length]
            clear HQ HB hrA hkk
            go_wp2
            go_ret
            rw [← HQ'.out]
            exact ⟨_, cb, rfl, Row.own hown, hbl⟩
          | true =>
            obtain ⟨hkl, hkb⟩ := Bin.Best.some HB.out hk
            have HQ' : Hid ([] ++ [best] = (Bin.srt ss).take (0 + 1)) := by
              show [] ++ [best] = (Bin.srt ss).take (0 + 1)
              rw [List.take_succ_eq_append_getElem hkl, hkb, ← HQ.out]
            have HM : Hid ((Bin.srt ss).length - ([] ++ [best]).length < (Bin.srt ss).length - 0) := by
              show _ < _
              have := HK.out
              simp only [List.length_append, List.length_cons, List.length_nil] at this ⊢
              omega
            clear HQ HB hrA hkb
            go_wp2_with (first
              | (at_builtin; refine app_strs _ rfl _ _ rfl w.heap.size _ [] rfl (hown.alloc _) ⟨wr.heap.size, 0, none⟩ 1 [best] 1 rfl rfl (str_one wr best _) (by simp <;> omega) (by simp <;> omega) ?_; intro v1 w3 hown3 hgrow3))
            have hb3 : Below w.heap.size w w3 := (hbl.alloc hsz _).grown hgrow3 (by simp; omega) (fun g' hg' => (hown.lt g' hg').1)
            obtain ⟨B', cb', rfl⟩ := own_shape hown3
            go_roundw
            case rel => exact ⟨0 + 1, [] ++ [best], by omega, by rfl, HQ', hown3, hb3⟩
            case measure => exact HM.out
    | succ j =>
      obtain ⟨B, cb, rfl⟩ := own_shape hown
      have hj : j < (Bin.srt ss).length := by omega
      have hq1 : ((qs.length : Int) == 0) = false := by
        rw [beq_eq_false_iff_ne]
        have := HK.out
        omega
      have hq0 : (0 : Int) ≤ (qs.length : Int) - 1 := by have := HK.out; omega
      obtain ⟨g1, o1, rfl, hqc⟩ := (Row.own hown) (by rw [scells_length, HK.out]; omega)
      have hq2 := hqc (qs.length - 1) (by rw [scells_length, HK.out]; omega)
      have hqe : ∀ h : qs.length - 1 < (scells qs).length, (scells qs)[qs.length - 1] = .string (S (Bin.srt ss)[j]) := by
        intro h
        simp only [scells, List.getElem_map]
        congr 2
        have e1 := HQ.out
        have e2 := HK.out
        have e3 : qs.length - 1 = j := by omega
        simp only [e1, List.getElem_take]
        congr 1
        rw [← e1]
        exact e3
      rw [hqe] at hq2
      have hlm := HS.out _ ((Bin.srt_mem ss _).1 (List.getElem_mem hj))
      clear hqc hqe
      go_wp2
      go_loop [4, 5, 10] (fun b a i => ∃ (n : Nat) (any : Bool) (best : Bytes), n ≤ ss.length ∧ i = .int .i64 n ∧ a = .bool any ∧ b = .string (S best) ∧ best.length ≤ maxLen ∧ Hid (Bin.Best ss (j + 1) (ss.take n) any best)) (fun _ _ i => ss.length - (intOf i).toNat)
      case atStart =>
        refine ⟨0, false, [], Nat.zero_le _, rfl, rfl, rfl, by simp, ?_⟩
        show Bin.Best ss (j + 1) (ss.take 0) false []
        exact ⟨fun _ s hs => by simp at hs, fun h => by simp at h⟩
      case round =>
        obtain ⟨n, any, best, hn, rfl, rfl, rfl, hbm, HB⟩ := hrel
        by_cases hlt : n < ss.length
        · obtain ⟨g, off, rfl, hcs⟩ := hrA (by rw [scells_length]; omega)
          have h1 := hcs n (by rw [scells_length]; exact hlt)
          simp only [scells, List.getElem_map] at h1
          have hi0 : (0 : Int) ≤ (n : Int) := by omega
          have hi1 : (n : Int) < (ss.length : Int) := by omega
          have hsm := HS.out _ (List.getElem_mem hlt)
          have HSk : Hid ((¬ Bin.After ss (j + 1) ss[n] ∨ any = true ∧ ¬ Bin.R ss[n] best) → Bin.Best ss (j + 1) (ss.take (n + 1)) any best) := by
            show _ → _
            intro h
            rw [List.take_succ_eq_append_getElem hlt]
            exact HB.out.skip h
          have HTk : Hid (Bin.After ss (j + 1) ss[n] → (any = true → Bin.R ss[n] best) → Bin.Best ss (j + 1) (ss.take (n + 1)) true ss[n]) := by
            show _ → _ → _
            intro h1 h2
            rw [List.take_succ_eq_append_getElem hlt]
            exact HB.out.take h1 h2
          have hAh := fun w => Lib.hid (refAhead ss[n] best w hsm hbm _ rfl)
          clear hcs hrA HB
          have hAl := fun w => Lib.hid (refAhead (Bin.srt ss)[j] ss[n] w hlm hsm _ rfl)
          cases hr1 : decide (Bin.R (Bin.srt ss)[j] ss[n]) with
          | false =>
            rw [hr1] at hAl
            have HN := Lib.hid (HSk.out (.inl fun h => of_decide_eq_false hr1 (h.elim (fun h => absurd h (by omega)) fun ⟨_, h⟩ => h)))
            clear HTk HSk hAh hr1
            generalize (Bin.srt ss)[j] = t at *
            generalize ss[n] = s at *
            go_wp2_with fail
            refine (hAl _).out.mono ?_
            rintro e w1 ⟨rfl, rfl⟩
            go_wp2
            go_round
            case rel => exact ⟨n + 1, any, best, by omega, by go_num, rfl, rfl, hbm, HN⟩
            case measure => simp [intOf]; omega
          | true =>
            rw [hr1] at hAl
            have haf : Bin.After ss (j + 1) ss[n] := .inr ⟨hj, of_decide_eq_true hr1⟩
            clear hr1
            generalize (Bin.srt ss)[j] = t at *
            cases any with
            | false =>
              have HN := Lib.hid (HTk.out haf (by simp))
              clear HTk HSk haf hAh
              generalize ss[n] = s at *
              go_wp2_with fail
              refine (hAl _).out.mono ?_
              rintro e w1 ⟨rfl, rfl⟩
              go_wp2
              go_round
              case rel => exact ⟨n + 1, true, s, by omega, by go_num, rfl, rfl, hsm, HN⟩
              case measure => simp [intOf]; omega
            | true =>
              cases hr : decide (Bin.R ss[n] best) with
              | true =>
                rw [hr] at hAh
                have HN := Lib.hid (HTk.out haf (fun _ => of_decide_eq_true hr))
                clear HTk HSk haf hr
                generalize ss[n] = s at *
                go_wp2_with fail
                refine (hAl _).out.mono ?_
                rintro e w1 ⟨rfl, rfl⟩
                go_wp2_with fail
                refine (hAh _).out.mono ?_
                rintro e w1 ⟨rfl, rfl⟩
                go_wp2
                go_round
                case rel => exact ⟨n + 1, true, s, by omega, by go_num, rfl, rfl, hsm, HN⟩
                case measure => simp [intOf]; omega
              | false =>
                rw [hr] at hAh
                have HN := Lib.hid (HSk.out (.inr ⟨rfl, of_decide_eq_false hr⟩))
                clear HTk HSk haf hr
                generalize ss[n] = s at *
                go_wp2_with fail
                refine (hAl _).out.mono ?_
                rintro e w1 ⟨rfl, rfl⟩
                go_wp2_with fail
                refine (hAh _).out.mono ?_
                rintro e w1 ⟨rfl, rfl⟩
                go_wp2
                go_round
                case rel => exact ⟨n + 1, true, best, by omega, by go_num, rfl, rfl, hbm, HN⟩
                case measure => simp [intOf]; omega
        · obtain rfl : n = ss.length := by omega
          rw [List.take_length] at HB
          cases any with
          | false =>
            have hkk := Bin.Best.none HB.out hk
            have HQ' : Hid (qs = Bin.srt ss) := by
              show qs = Bin.srt ss
              rw [HQ.out, hkk, List.take_length]
            clear HQ HB hrA hkk
            go_wp2
            go_ret
            rw [← HQ'.out]
            exact ⟨_, cb, rfl, Row.own hown, hbl⟩
          | true =>
            obtain ⟨hkl, hkb⟩ := Bin.Best.some HB.out hk
            have HQ' : Hid (qs ++ [best] = (Bin.srt ss).take (j + 1 + 1)) := by
              show qs ++ [best] = (Bin.srt ss).take (j + 1 + 1)
              rw [List.take_succ_eq_append_getElem hkl, hkb, ← HQ.out]
            have HM : Hid ((Bin.srt ss).length - (qs ++ [best]).length < (Bin.srt ss).length - qs.length) := by
              show _ < _
              have := HK.out
              simp only [List.length_append, List.length_cons, List.length_nil] at this ⊢
              omega
            clear HQ HB hrA hkb
            go_wp2_with (first
              | (at_builtin; refine app_strs _ rfl _ _ rfl w.heap.size _ qs rfl (hown.alloc _) ⟨wr.heap.size, 0, none⟩ 1 [best] 1 rfl rfl (str_one wr best _) (by simp <;> omega) (by simp <;> omega) ?_; intro v1 w3 hown3 hgrow3))
            have hb3 : Below w.heap.size w w3 := (hbl.alloc hsz _).grown hgrow3 (by simp; omega) (fun g' hg' => (hown.lt g' hg').1)
            obtain ⟨B', cb', rfl⟩ := own_shape hown3
            go_roundw
            case rel => exact ⟨j + 1 + 1, qs ++ [best], by omega, by show (qs ++ [best]).length = _; rw [List.length_append, HK.out]; rfl, HQ', hown3, hb3⟩
            case measure => exact HM.out
end Go.Proofs.YtjcockcilkiggaaGreat
/- The reference: NamesOf counts the names of a clerk's last book, of the requests that wait, and one more; Closed. They write nothing that was there. -/
namespace Go.Proofs.YtjcockcilkiggaaGreat
set_option maxRecDepth 100000
open Go.RowKit

/-- The names of a book, of requests, and one more if it is one. -/
def namesOf (bk : List Ent) (l : List Ak) (more : Bytes) : List Bytes := bk.map (·.1) ++ l.map (·.1) ++ if more = [] then [] else [more]
theorem namesOf_length (bk : List Ent) (l : List Ak) (more : Bytes) : (namesOf bk l more).length ≤ bk.length + l.length + 1 := by
  unfold namesOf
  split <;> simp <;> omega

set_option maxHeartbeats 2000000 in
theorem refNamesOf (most ba ev nw : Int) (l : List Ak) (hs : List Hd) (ps : List Bp) (A H B : Option Addr) (c d e : Nat) (more : Bytes) (w : World) (m : Nat) (hpm : ps.length = m + 1) (hp : ps.length ≤ 1000) (hl : l.length ≤ 1000) (bk : List Ent) (hbk : ∀ h : m < ps.length, ps[m].2.2 = bk) (hbl : bk.length ≤ 1000)
    (hb : ∀ x ∈ bk, x.1.length ≤ maxLen) (hn : ∀ x ∈ l, x.1.length ≤ maxLen) (hmo : more.length ≤ maxLen)
    (hA : Row w A (qcells l)) (hB : Books w B ps) (r : Nat) (hr : (Bin.srt (namesOf bk l more)).length = r) :
    Calls Tryz.prog 31 #[.agg #[.int .i64 most, .slice A l.length c, .int .i64 ba, .int .i64 ev, .int .i64 nw, .slice H hs.length d, .slice B ps.length e], .string (S more)] w fun x w' => x = .returned (.int .i64 (r : Int)) ∧ Below w.heap.size w w' := by
  have hO := fun (D : Option Addr) (f : Nat) (ss : List Bytes) (h1 : ss.length * 16 ≤ 140737488351232) (h2 : ∀ s ∈ ss, s.length ≤ maxLen) (w : World) h3 => Lib.hid (refOrdered D f ss w h1 h2 h3)
  have x0 := Bx.new w _ rfl _ [.int .i64 most, .slice A l.length c, .int .i64 ba, .int .i64 ev, .int .i64 nw, .slice H hs.length d, .slice B ps.length e] 28 rfl
  have hb0 := (Below.refl w.heap.size w).alloc (Nat.le_refl _) (.cells #[.int .i64 most, .slice A l.length c, .int .i64 ba, .int .i64 ev, .int .i64 nw, .slice H hs.length d, .slice B ps.length e] 28)
  have hA0 := hA.alloc (.cells #[.int .i64 most, .slice A l.length c, .int .i64 ba, .int .i64 ev, .int .i64 nw, .slice H hs.length d, .slice B ps.length e] 28)
  have hB0 := hB.alloc (.cells #[.int .i64 most, .slice A l.length c, .int .i64 ba, .int .i64 ev, .int .i64 nw, .slice H hs.length d, .slice B ps.length e] 28)
  obtain ⟨a0, a1, a2, a3, a4, a5, a6⟩ := x0.get7
  have hmp : m < ps.length := by omega
  obtain ⟨gB, oB, rfl, jB, rB⟩ := hB0.get m hmp
  rw [hbk hmp] at jB rB
  have HE := Lib.hid hb
  have HN := Lib.hid hn
  have HM := Lib.hid hmo
  have HR : Hid ((Bin.srt (namesOf bk l more)).length = r) := hr
  have HPM := Lib.hid hpm
  have i0 : (0 : Int) ≤ (m : Int) := by omega
  have i1 : (m : Int) < (m : Int) + 1 := by omega
  have hm1 : m + 1 ≤ 1000 := by omega
  rw [hpm] at hb0 hA0 x0 jB rB a0 a1 a2 a3 a4 a5 a6 ⊢
  generalize ps[m].1 = P1 at *
  generalize ps[m].2.1 = P2 at *
  clear hb hn hr hbk hA hB hB0 hp hmp hpm
  go_enter Tryz.func31, Tryz.ntmps31
  go_wp2
  generalize w.alloc (.cells #[.int .i64 most, .slice A l.length c, .int .i64 ba, .int .i64 ev, .int .i64 nw, .slice H hs.length d, .slice (some ⟨gB, oB, none⟩) (m + 1) e] 28) = v0 at *
  clear a0 a1 a2 a3 a4 a5 a6 jB
  go_loopw [5, 19] (fun v i wr => ∃ (k : Nat) (L : List Bytes), k ≤ bk.length ∧ i = .int .i64 k ∧ Hid ((bk.take k).map (·.1) = L) ∧ L.length ≤ k ∧ wr.ownsRow v0.heap.size 9 1 v L.length (scells L) ∧ Below v0.heap.size v0 wr) (fun _ i _ => bk.length - (intOf i).toNat)
  case atStart => exact ⟨0, [], Nat.zero_le _, rfl, rfl, Nat.le_refl _, World.ownsRow_nil _ _ _ _, Below.refl _ _⟩
  case round =>
    obtain ⟨k, L, hk, rfl, HL, hLk, hown, hbw⟩ := hrel
    have hsz := hbw.size
    by_cases hlt : k < bk.length
    · obtain ⟨g, off, rfl, h1, h2⟩ := (rB.below hbw).ent k hlt
      have hi0 : (0 : Int) ≤ (k : Int) := by omega
      have hi1 : (k : Int) < (bk.length : Int) := by omega
      have HL2 : Hid ((bk.take (k + 1)).map (·.1) = L ++ [bk[k].1]) := by show _ = _; rw [List.take_succ_eq_append_getElem hlt, List.map_append, HL.out]; rfl
      have hb1 := hbw.alloc hsz (.cells #[.string (S bk[k].1), .string (S bk[k].2)] 51)
      have hown1 := hown.alloc (.cells #[.string (S bk[k].1), .string (S bk[k].2)] 51)
      generalize bk[k].1 = na at *
      generalize bk[k].2 = va at *
      have hs1 := hb1.size
      clear HL hown hbw
      go_wp2_with (at_builtin; refine app_strs _ rfl _ _ rfl v0.heap.size _ L rfl (hown1.alloc _) ⟨wr.heap.size + 1, 0, none⟩ 1 [na] 1 rfl (by simp [Act.eval]) (cells_new _ _ [.string (S na)] _ (by simp)) (by simp; omega) (by simp; omega) ?_; intro v3 w3 hown3 hgrow3)
      have hb3 : Below v0.heap.size v0 w3 := (hb1.alloc hs1 (.cells #[.string (S na)] 9)).grown hgrow3 (by simp; omega) (fun j hj => ((hown1.alloc (.cells #[.string (S na)] 9)).lt j hj).1)
      go_roundw
      case rel => exact ⟨k + 1, L ++ [na], by omega, by go_num, HL2, by simp; omega, hown3, hb3⟩
      case measure => simp [intOf]; omega
    · have HL2 : Hid (bk.map (·.1) = L) := by show _ = _; rw [← HL.out, List.take_of_length_le (by omega)]
      clear HL rB
      have hLb : L.length ≤ 1000 := by omega
      have x2 := x0.below hbw
      clear x0
      obtain ⟨a0, a1, a2, a3, a4, a5, a6⟩ := x2.get7
      go_wp2
      clear a0 a1 a2 a3 a4 a5 a6 x2
      go_loopw [5, 33] (fun v i wr => ∃ (k : Nat) (K : List Bytes), k ≤ l.length ∧ i = .int .i64 k ∧ Hid (L ++ (l.take k).map (·.1) = K) ∧ K.length ≤ 1000 + k ∧ wr.ownsRow v0.heap.size 9 1 v K.length (scells K) ∧ Below v0.heap.size v0 wr) (fun _ i _ => l.length - (intOf i).toNat)
      case atStart => exact ⟨0, L, Nat.zero_le _, rfl, by show _ = _; simp, by omega, hown, hbw⟩
      case round =>
        obtain ⟨k, K, hk', rfl, HK, hKk, hownK, hbk⟩ := hrel
        clear hown hbw hsz
        have hsz := hbk.size
        by_cases hlt : k < l.length
        · obtain ⟨g, off, rfl, h1, h2, h3, h4⟩ := (hA0.below hbk).ask k hlt
          have hi0 : (0 : Int) ≤ (k : Int) := by omega
          have hi1 : (k : Int) < (l.length : Int) := by omega
          have HK2 : Hid (L ++ (l.take (k + 1)).map (·.1) = K ++ [l[k].1]) := by show _ = _; rw [List.take_succ_eq_append_getElem hlt, List.map_append, ← List.append_assoc, HK.out]; rfl
          have hb1 := hbk.alloc hsz (.cells #[.string (S l[k].1), .string (S l[k].2.1), .int .u64 (l[k].2.2.1 : Int), .int .u64 (l[k].2.2.2 : Int)] 31)
          have hown1 := hownK.alloc (.cells #[.string (S l[k].1), .string (S l[k].2.1), .int .u64 (l[k].2.2.1 : Int), .int .u64 (l[k].2.2.2 : Int)] 31)
          generalize l[k].1 = na at *
          generalize l[k].2.1 = va at *
          generalize l[k].2.2.1 = vb at *
          generalize l[k].2.2.2 = vc at *
          have hs1 := hb1.size
          clear HK hownK
          go_wp2_with (at_builtin; refine app_strs _ rfl _ _ rfl v0.heap.size _ K rfl (hown1.alloc _) ⟨wr.heap.size + 1, 0, none⟩ 1 [na] 1 rfl (by simp [Act.eval]) (cells_new _ _ [.string (S na)] _ (by simp)) (by simp; omega) (by simp; omega) ?_; intro v3 w3 hown3 hgrow3)
          have hb3 : Below v0.heap.size v0 w3 := (hb1.alloc hs1 (.cells #[.string (S na)] 9)).grown hgrow3 (by simp; omega) (fun j hj => ((hown1.alloc (.cells #[.string (S na)] 9)).lt j hj).1)
          go_roundw
          case rel => exact ⟨k + 1, K ++ [na], by omega, by go_num, HK2, by simp; omega, hown3, hb3⟩
          case measure => simp [intOf]; omega
        · have HK2 : Hid (bk.map (·.1) ++ l.map (·.1) = K) := by show _ = _; rw [← HK.out, List.take_of_length_le (by omega), HL2.out]
          obtain ⟨D, f, rfl⟩ := own_shape hownK
          have hKs : ∀ s ∈ K, s.length ≤ maxLen := fun s hs => by
            rw [← HK2.out] at hs
            rcases List.mem_append.1 hs with h | h
            · obtain ⟨y, hy, rfl⟩ := List.mem_map.1 h; exact HE.out y hy
            · obtain ⟨y, hy, rfl⟩ := List.mem_map.1 h; exact HN.out y hy
          clear HK HL2 HE HN hA0
          by_cases h0 : more = []
          · subst h0
            have HF : Hid (Bin.srt K = Bin.srt (namesOf bk l [])) := by show _ = _; rw [namesOf, if_pos rfl, List.append_nil, HK2.out]
            have hO' := fun (w : World) h => hO D f K (by omega) hKs w h
            clear hO hKs HK2
            go_wp2_with fail
            refine (hO' _ (Row.own hownK)).out.mono ?_
            rintro x w3 ⟨D3, d3, rfl, hr3, hb3⟩
            rw [HF.out, HR.out] at *
            go_wp2
            go_ret
            exact ⟨rfl, below_chain hb0 (below_chain hbk hb3)⟩
          · have HF : Hid (Bin.srt (K ++ [more]) = Bin.srt (namesOf bk l more)) := by show _ = _; rw [namesOf, if_neg h0, HK2.out]
            have c1 : List.isEmpty more = false := by rw [List.isEmpty_eq_false_iff]; exact h0
            have hKm : ∀ s ∈ K ++ [more], s.length ≤ maxLen := fun s hs => by
              rcases List.mem_append.1 hs with h | h
              · exact hKs s h
              · rw [List.mem_singleton.1 h]; exact HM.out
            have hO' := fun (D : Option Addr) (f : Nat) (w : World) h => hO D f (K ++ [more]) (by rw [List.length_append, List.length_singleton]; omega) hKm w h
            obtain ⟨T, hT⟩ : ∃ T, K ++ [more] = T := ⟨_, rfl⟩
            rw [hT] at hO' HF
            have HT := Lib.hid hT
            clear hO hKs HK2 hKm hT
            go_wp2_with (at_builtin; refine app_strs _ rfl _ _ rfl v0.heap.size _ K rfl (hownK.alloc _) ⟨wr.heap.size, 0, none⟩ 1 [more] 1 rfl (by simp [Act.eval]) (cells_new _ _ [.string (S more)] _ rfl) (by simp; omega) (by simp; omega) ?_; intro v3 w3 hown3 hgrow3; rw [HT.out] at hown3; obtain ⟨D3, d3, rfl⟩ := own_shape hown3)
            have hb3 : Below v0.heap.size v0 w3 := (hbk.alloc hsz (.cells #[.string (S more)] 9)).grown hgrow3 (by simp; omega) (fun j hj => ((hownK.alloc (.cells #[.string (S more)] 9)).lt j hj).1)
            refine (hO' _ _ _ (Row.own hown3)).out.mono ?_
            rintro x w4 ⟨D4, d4, rfl, hr4, hb4⟩
            rw [HF.out, HR.out] at *
            go_wp2
            go_ret
            exact ⟨rfl, below_chain hb0 (below_chain hb3 hb4)⟩
end Go.Proofs.YtjcockcilkiggaaGreat
