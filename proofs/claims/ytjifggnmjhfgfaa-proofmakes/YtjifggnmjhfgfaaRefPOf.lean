/- The reference: ProofOf returns the proof of a book for a name. It writes nothing that was there. -/
import Derived.Test.YtjifggnmjhfgfaaRefProof
import Derived.Test.YtjifggnmjhfgfaaOBox
import Derived.Test.YtjifggnmjhfgfaaLevels
namespace Go.Proofs.Ytjifggnmjhfgfaa
set_option maxRecDepth 100000
open Go.RowKit Go.Maps

theorem MapOf.obj {w : World} {b n : Nat} {f : Bytes → Option Value} (h : MapOf w b n f) : ∃ es k, w.heap[b]? = some (.map es k) := by
  obtain ⟨D, ⟨es, clock, hb, _⟩, _⟩ := h
  exact ⟨es, clock, hb⟩
theorem OBox.ne_map {w : World} {g b m : Nat} {v0 v1 v2 : Value} {f : Bytes → Option Value} (h : OBox w g v0 v1 v2) (hm : MapOf w b m f) : b ≠ g := by
  rintro rfl
  obtain ⟨es, k, hb⟩ := hm.obj
  have := h.o0
  simp [World.cell?, hb] at this
theorem own_ne_map {w : World} {base e size n b m : Nat} {v : Value} {xs : List Value} {f : Bytes → Option Value} (h : w.ownsRow base e size v n xs) (hm : MapOf w b m f) : some b ≠ v.ownBlock := by
  obtain ⟨es, k, hb⟩ := hm.obj
  rcases h.2 with ⟨rfl, _⟩ | ⟨g, cap, cur, rfl, _, hg, _⟩
  · simp [Value.ownBlock]
  · intro e
    have e : b = g := by simpa [Value.ownBlock] using e
    subst e
    rw [hb] at hg
    cases hg
theorem own_apartP {w : World} {b b' : Nat} {e e' : TypeId} {s s' n n' : Nat} {v v' : Value} {xs xs' : List Value} (h : w.ownsRow b e s v n xs) (h' : w.ownsRow b' e' s' v' n' xs') (hne : e ≠ e') : v.ownBlock = none ∨ v.ownBlock ≠ v'.ownBlock := by
  rcases h.2 with ⟨rfl, _⟩ | ⟨g, cap, cur, rfl, _, hg, _⟩
  · exact .inl rfl
  · rcases h'.2 with ⟨rfl, _⟩ | ⟨g', cap', cur', rfl, _, hg', _⟩
    · exact .inr (by simp [Value.ownBlock])
    · refine .inr fun k => ?_
      have k : g = g' := by simpa [Value.ownBlock] using k
      subst k
      rw [hg] at hg'
      injection hg' with hg'
      injection hg' with _ hg'
      exact hne hg'

/-- What ProofOf leaves. -/
def POfGives (n : Bytes) (L : List Ent) (M : List Nat) (w : World) (e : Ending) (w' : World) : Prop :=
  ∃ A c B d, e = .returned (.agg #[.string (S n), .slice A L.length c, .slice B M.length d]) ∧ Row w' A (encells L) ∧ Row w' B (mcells M) ∧ Below w.heap.size w w'

set_option maxRecDepth 100000 in
set_option maxHeartbeats 4000000 in
theorem refPOf (A : Option Addr) (c : Nat) (es : List Ent) (n : Bytes) (w : World) (hm : es.length ≤ 1000) (hes : ∀ x ∈ es, x.1.length + x.2.length ≤ 596) (hn : n.length ≤ maxLen) (hA : Row w A (encells es)) :
    Calls Try.prog 15 #[.slice A es.length c, .string (S n)] w (POfGives n (at16 es (Bin.of n)) (sidesOf es n) w) := by
  have hLv := fun (w : World) hA => Lib.hid (refLevels A c es w hm hes hA)
  have hP := fun w => Lib.hid (refPath n w hn)
  have HE : Hid (∀ y ∈ es, y.1.length ≤ maxLen) := fun y hy => by have := hes y hy; unfold maxLen; omega
  have HT : ∀ k (h : k < es.length), Hid (at16 (es.take (k + 1)) (Bin.of n) = at16 (es.take k) (Bin.of n) ++ if Bin.of es[k].1 = Bin.of n then [(es[k].1, es[k].2)] else []) := fun k h => by
    show _ = _
    rw [List.take_succ_eq_append_getElem h, at16_snoc]
  have hT0 : Hid (at16 (es.take 0) (Bin.of n) = []) := rfl
  clear hes
  go_enter Try.func15, Try.ntmps15
  go_wp2_with fail
  refine (hP _).out.mono ?_
  rintro e w1 ⟨rfl, rfl⟩
  go_wp2
  have hz0 := (OBox.new w (.string ⟨#[]⟩) (.slice none 0 0) (.slice none 0 0) 25).alloc (.cells #[.string (S n), .slice none 0 0, .slice none 0 0] 25)
  have hx0 := OBox.new (w.alloc (.cells #[.string ⟨#[]⟩, .slice none 0 0, .slice none 0 0] 25)) (.string (S n)) (.slice none 0 0) (.slice none 0 0) 25
  rw [show (w.alloc (.cells #[.string ⟨#[]⟩, .slice none 0 0, .slice none 0 0] 25)).heap.size = w.heap.size + 1 from by simp] at hx0
  have hb0 : Below w.heap.size w ((w.alloc (.cells #[.string ⟨#[]⟩, .slice none 0 0, .slice none 0 0] 25)).alloc (.cells #[.string (S n), .slice none 0 0, .slice none 0 0] 25)) := balloc (balloc (Below.refl _ _) _) _
  go_loopw [20] (fun i wr => ∃ (k : Nat) (v1 : Value) (L : List Ent), k ≤ es.length ∧ i = .int .i64 k ∧ Hid (L = at16 (es.take k) (Bin.of n)) ∧ L.length ≤ k ∧ wr.ownsRow (w.heap.size + 2) 63 2 v1 L.length (encells L) ∧ OBox wr (w.heap.size + 1) (.string (S n)) v1 (.slice none 0 0) ∧ OBox wr w.heap.size (.string ⟨#[]⟩) (.slice none 0 0) (.slice none 0 0) ∧ Below w.heap.size w wr) (fun i _ => es.length - (intOf i).toNat)
  case atStart => exact ⟨0, _, [], Nat.zero_le _, rfl, rfl, by simp, World.ownsRow_nil _ _ _ _, hx0, hz0, hb0⟩
  case round =>
    obtain ⟨k, v1, L, hk, rfl, HL, hLl, hown, hx, hz, hbl⟩ := hrel
    obtain ⟨D1, d1, rfl⟩ := own_shapeE hown
    have hsz := hbl.size
    have hs2 : w.heap.size + 2 ≤ wr.heap.size := by have := World.block_lt_of_cell? _ _ hx.o0; exact this
    clear hx0 hz0 hb0
    by_cases hlt : k < es.length
    · obtain ⟨g, off, hAe, h1, h2⟩ := (hA.below hbl).ent k hlt
      have hi0 : (0 : Int) ≤ (k : Int) := by omega
      have hi1 : (k : Int) < (es.length : Int) := by omega
      have hpk := fun w => Lib.hid (refPath es[k].1 w (HE.out _ (List.getElem_mem hlt)))
      have HT' := HT k hlt
      rw [← HL.out] at HT'
      have hx1 := hx.alloc (.cells #[.string (S es[k].1), .string (S es[k].2)] 63)
      have hz1 := hz.alloc (.cells #[.string (S es[k].1), .string (S es[k].2)] 63)
      have hown1 := hown.alloc (.cells #[.string (S es[k].1), .string (S es[k].2)] 63)
      have hbw : Below w.heap.size w (wr.alloc (.cells #[.string (S es[k].1), .string (S es[k].2)] 63)) := hbl.alloc hsz _
      generalize Bin.of es[k].1 = pk at *
      generalize hpn : Bin.of n = pn at *
      generalize es[k].1 = a at *
      generalize es[k].2 = b at *
      have k4 : (wr.alloc (.cells #[.string (S a), .string (S b)] 63)).cell? ⟨wr.heap.size, 0, none⟩ = some (.string (S a)) := by rw [World.cell?_alloc_new]; rfl
      have k5 : (wr.alloc (.cells #[.string (S a), .string (S b)] 63)).cell? ⟨wr.heap.size, 1, none⟩ = some (.string (S b)) := by rw [World.cell?_alloc_new]; rfl
      subst hAe
      clear HL HT hA hx hz hown hT0
      by_cases he : pk = pn
      · have c1 : (pk == pn) = true := beq_iff_eq.2 he
        rw [if_pos he] at HT'
        go_wp2_with fail
        refine (hpk _).out.mono ?_
        rintro e w2 ⟨rfl, hw2⟩
        rw [hw2] at hx1 hz1 hown1 hbw k4 k5
        clear hw2
        have hs22 : w.heap.size + 2 ≤ w2.heap.size := by have := World.block_lt_of_cell? _ _ hx1.o0; exact this
        have hbs := hbw.size
        have hxx := hx1
        obtain ⟨x0, x1, x2, f0, f1, f2⟩ := hx1
        have hne : ∀ (j : Nat), j < w.heap.size + 2 → some j ≠ (Value.slice D1 L.length d1).ownBlock := fun j hj e => by have := (hown1.lt _ e.symm).1; omega
        go_wp2_with (at_builtin; refine app_ents _ rfl _ _ rfl (w.heap.size + 2) _ L rfl (hown1.alloc _) ⟨w2.heap.size, 0, none⟩ 1 [(a, b)] 1 rfl rfl (ent_one w2 a b _) (by simp; omega) (by simp; omega) ?_; intro v3 w3 hown3 hgrow3; obtain ⟨D3, d3, rfl⟩ := own_shapeE hown3; have hx3 := (hxx.alloc (.cells #[.string (S a), .string (S b)] 63)).kept hgrow3 (hne _ (by omega)); have y1 := hx3.o1; have e1 := hx3.f1)
        have hz3 := (hz1.alloc (.cells #[.string (S a), .string (S b)] 63)).kept hgrow3 (hne _ (by omega))
        have hb3 : Below w.heap.size w w3 := (hbw.alloc hbs (.cells #[.string (S a), .string (S b)] 63)).grown hgrow3 (by simp; omega) (fun j hj => by have := (hown1.lt j hj).1; omega)
        go_roundw
        case rel =>
          have hL1 : (L ++ [(a, b)]).length = L.length + 1 := by simp
          have hk3 := hown3.kept (grown_set w3 ⟨w.heap.size + 1, 1, none⟩ (.slice D3 (L.length + 1) d3)) (.inr fun e => by have := (hown3.lt _ e).1; simp at this)
          rw [hL1] at hk3
          exact ⟨k + 1, .slice D3 (L.length + 1) d3, L ++ [(a, b)], by omega, by go_num, HT'.out.symm, by rw [hL1]; omega, by rw [hL1]; exact hk3, hx3.set1 _, hz3.kept (grown_set w3 ⟨w.heap.size + 1, 1, none⟩ _) (by simp), hb3.setCell (by simp) _⟩
        case measure => simp [intOf]; omega
      · have c1 : (pk == pn) = false := beq_eq_false_iff_ne.2 he
        rw [if_neg he, List.append_nil] at HT'
        go_wp2_with fail
        refine (hpk _).out.mono ?_
        rintro e w2 ⟨rfl, hw2⟩
        rw [hw2] at hx1 hz1 hown1 hbw
        clear hw2
        go_wp2
        go_roundw
        case rel => exact ⟨k + 1, _, L, by omega, by go_num, HT'.out.symm, by omega, hown1, hx1, hz1, hbw⟩
        case measure => simp [intOf]; omega
    · have HL' : Hid (at16 es (Bin.of n) = L) := by
        show _ = L
        rw [HL.out, List.take_of_length_le (by omega)]
      clear HL HT hT0
      go_wp2_with fail
      refine (hLv _ (hA.below hbl)).out.mono ?_
      rintro e w2 ⟨b, nn, f, rfl, hmap, hlev, hb2⟩
      have hown2 := own_belowE hown hb2
      have hx2 := hx.below hb2
      have hz2 := hz.below hb2
      have hb02 := below_chain hbl hb2
      have HV : ∀ q : Bytes, q.length ≤ 16 → Hid (f q = some (.int .u64 (prefMark es q : Int)) ∨ f q = none ∧ prefMark es q = nil0) := fun q hq => hlev.look q hq (Nat.zero_le _)
      clear hown hx hz hbl hb2 hLv hlev hlt
      go_wp2
      go_loopw [10] (fun i wr => ∃ (j : Nat) (v2 : Value) (M : List Nat), j ≤ 16 ∧ i = .int .i64 (15 - (j : Int)) ∧ Hid (M = (List.range j).map fun t => prefMark es (flipAt n (15 - t))) ∧ Hid (M.length = j) ∧ wr.ownsRow (w.heap.size + 2) 63 2 (.slice D1 L.length d1) L.length (encells L) ∧ wr.ownsRow (w.heap.size + 2) 35 1 v2 M.length (mcells M) ∧ OBox wr (w.heap.size + 1) (.string (S n)) (.slice D1 L.length d1) v2 ∧ OBox wr w.heap.size (.string ⟨#[]⟩) (.slice none 0 0) (.slice none 0 0) ∧ MapOf wr b nn f ∧ Below w.heap.size w wr) (fun i _ => (intOf i + 1).toNat)
      case atStart => exact ⟨0, _, [], Nat.zero_le _, rfl, rfl, rfl, hown2, World.ownsRow_nil _ _ _ _, hx2, hz2, hmap, hb02⟩
      case round =>
        obtain ⟨j, v2, M, hj, rfl, HM, HMl, hown, hownM, hx, hz, hmp, hbl⟩ := hrel
        obtain ⟨D2, d2, rfl⟩ := own_shape hownM
        by_cases hjt : j < 16
        · have hp0 : (0 : Int) ≤ 15 - (j : Int) := by omega
          have hol := Bin.of_length n
          have hpl : 15 - j < (Bin.of n).length := by omega
          have hp1 : (15 - (j : Int)) ≤ ((Bin.of n).length : Int) := by omega
          have hp2 : (15 - (j : Int)) < ((Bin.of n).length : Int) := by omega
          have hp3 : (15 - (j : Int)).toNat = 15 - j := by omega
          have hjj : (j : Int) ≤ 15 := by omega
          have hMl : M.length ≤ 16 := by rw [HMl.out]; exact hj
          have hs2 : w.heap.size + 2 ≤ wr.heap.size := by have := World.block_lt_of_cell? _ _ hx.o0; exact this
          have hne : ∀ (j : Nat), j < w.heap.size + 2 → some j ≠ (Value.slice D2 M.length d2).ownBlock := fun j hj e => by have := (hownM.lt _ e.symm).1; omega
          have hzU := zeroU
          have hfl : flipAt n (15 - j) = (Bin.of n).take (15 - j) ++ [if (Bin.of n)[15 - j]? = some 49 then 48 else 49] := rfl
          have hptl : ((Bin.of n).take (15 - j)).length ≤ 15 := by rw [List.length_take]; omega
          have hgb := List.getElem?_eq_getElem hpl
          have hx0' := hx
          obtain ⟨x0, x1, x2, f0, f1, f2⟩ := hx0'
          clear hP HE hA hmap hx2 hz2 hown2 hb02
          generalize Bin.of n = pn at *
          generalize hpt : pn.take (15 - j) = pt at *
          by_cases hc : pn[15 - j] = 49
          · have hq : flipAt n (15 - j) = pt ++ [48] := by rw [hfl, if_pos (by rw [hgb, hc])]
            have hv := (HV (pt ++ [48]) (by rw [List.length_append, List.length_singleton]; omega)).out
            have hql : (pt ++ [(48 : UInt8)]).length ≤ maxLen := by rw [List.length_append, List.length_singleton]; unfold maxLen; omega
            have HM' : Hid (M ++ [prefMark es (pt ++ [48])] = (List.range (j + 1)).map fun t => prefMark es (flipAt n (15 - t))) := by
              show _ = _
              rw [List.range_succ, List.map_append, ← HM.out, List.map_cons, List.map_nil, hq]
            have c1 : ((pn[15 - j].toNat : Int) == 49) = true := by rw [hc]; rfl
            clear hq HM HV hfl hgb hc
            rcases hv with hf | ⟨hf, hpz⟩
            · generalize prefMark es (pt ++ [48]) = x at *
              go_wp2_with (first
                | (at_lookup; refine map_look_some _ rfl _ _ 71 rfl 35 Try.underlying71 _ (hzU _) b nn f rfl hmp (pt ++ [48]) hql (congrArg Value.string (S_append pt [48])) _ hf ?_)
                | (at_builtin; refine app_marks _ rfl _ _ rfl (w.heap.size + 2) _ M rfl (hownM.alloc _) ⟨wr.heap.size, 0, none⟩ 1 [x] 1 rfl rfl (mark_one wr x _) (by simp; omega) (by simp; omega) ?_; intro v3 w3 hown3 hgrow3; obtain ⟨D3, d3, rfl⟩ := own_shape hown3; have hx3 := (hx.alloc (.cells #[.int .u64 (x : Int)] 35)).kept hgrow3 (hne _ (by omega)); have y1 := hx3.o2; have e1 := hx3.f2))
              have hz3 := (hz.alloc (.cells #[.int .u64 (x : Int)] 35)).kept hgrow3 (hne _ (by omega))
              have hb3 : Below w.heap.size w w3 := (hbl.alloc hbl.size (.cells #[.int .u64 (x : Int)] 35)).grown hgrow3 (by simp; omega) (fun j hj => by have := (hownM.lt j hj).1; omega)
              have hmp3 := (hmp.alloc (.cells #[.int .u64 (x : Int)] 35)).kept hgrow3 (own_ne_map (hownM.alloc (.cells #[.int .u64 (x : Int)] 35)) (hmp.alloc (.cells #[.int .u64 (x : Int)] 35)))
              have hoe3 := (hown.alloc (.cells #[.int .u64 (x : Int)] 35)).kept hgrow3 (own_apartP (hown.alloc (.cells #[.int .u64 (x : Int)] 35)) (hownM.alloc (.cells #[.int .u64 (x : Int)] 35)) (by decide))
              have hL1 : (M ++ [x]).length = M.length + 1 := by simp
              have hg3 := grown_set w3 ⟨w.heap.size + 1, 2, none⟩ (.slice D3 (M.length + 1) d3)
              have hk3 := hown3.kept hg3 (.inr fun e => by have := (hown3.lt _ e).1; simp at this)
              rw [hL1] at hk3
              go_roundw
              case rel => exact ⟨j + 1, .slice D3 (M.length + 1) d3, M ++ [x], by omega, by go_num, HM', by show _ = _; rw [hL1, HMl.out], hoe3.kept hg3 (.inr fun e => by have := (hoe3.lt _ e).1; simp at this), by rw [hL1]; exact hk3, hx3.set2 _, hz3.kept hg3 (by simp), hmp3.kept hg3 (by have := hx3.ne_map hmp3; simpa using this), hb3.setCell (by simp) _⟩
              case measure => simp [intOf]; omega
            · have hM0 := fun w => Lib.hid (refMark_0 w)
              rw [← hpz] at hM0
              clear hpz
              generalize prefMark es (pt ++ [48]) = x at *
              go_wp2_with (first
                | (at_lookup; refine map_look_none _ rfl _ _ 71 rfl 35 Try.underlying71 _ (hzU _) b nn f rfl hmp (pt ++ [48]) hql (congrArg Value.string (S_append pt [48])) hf ?_)
                | (go_at_call 44; refine (hM0 _).out.mono ?_; rintro e _ ⟨rfl, rfl⟩)
                | (at_builtin; refine app_marks _ rfl _ _ rfl (w.heap.size + 2) _ M rfl (hownM.alloc _) ⟨wr.heap.size, 0, none⟩ 1 [x] 1 rfl rfl (mark_one wr x _) (by simp; omega) (by simp; omega) ?_; intro v3 w3 hown3 hgrow3; obtain ⟨D3, d3, rfl⟩ := own_shape hown3; have hx3 := (hx.alloc (.cells #[.int .u64 (x : Int)] 35)).kept hgrow3 (hne _ (by omega)); have y1 := hx3.o2; have e1 := hx3.f2))
              have hz3 := (hz.alloc (.cells #[.int .u64 (x : Int)] 35)).kept hgrow3 (hne _ (by omega))
              have hb3 : Below w.heap.size w w3 := (hbl.alloc hbl.size (.cells #[.int .u64 (x : Int)] 35)).grown hgrow3 (by simp; omega) (fun j hj => by have := (hownM.lt j hj).1; omega)
              have hmp3 := (hmp.alloc (.cells #[.int .u64 (x : Int)] 35)).kept hgrow3 (own_ne_map (hownM.alloc (.cells #[.int .u64 (x : Int)] 35)) (hmp.alloc (.cells #[.int .u64 (x : Int)] 35)))
              have hoe3 := (hown.alloc (.cells #[.int .u64 (x : Int)] 35)).kept hgrow3 (own_apartP (hown.alloc (.cells #[.int .u64 (x : Int)] 35)) (hownM.alloc (.cells #[.int .u64 (x : Int)] 35)) (by decide))
              have hL1 : (M ++ [x]).length = M.length + 1 := by simp
              have hg3 := grown_set w3 ⟨w.heap.size + 1, 2, none⟩ (.slice D3 (M.length + 1) d3)
              have hk3 := hown3.kept hg3 (.inr fun e => by have := (hown3.lt _ e).1; simp at this)
              rw [hL1] at hk3
              go_roundw
              case rel => exact ⟨j + 1, .slice D3 (M.length + 1) d3, M ++ [x], by omega, by go_num, HM', by show _ = _; rw [hL1, HMl.out], hoe3.kept hg3 (.inr fun e => by have := (hoe3.lt _ e).1; simp at this), by rw [hL1]; exact hk3, hx3.set2 _, hz3.kept hg3 (by simp), hmp3.kept hg3 (by have := hx3.ne_map hmp3; simpa using this), hb3.setCell (by simp) _⟩
              case measure => simp [intOf]; omega
          · have hq : flipAt n (15 - j) = pt ++ [49] := by rw [hfl, if_neg (by rw [hgb]; exact fun e => hc (by injection e))]
            have hv := (HV (pt ++ [49]) (by rw [List.length_append, List.length_singleton]; omega)).out
            have hql : (pt ++ [(49 : UInt8)]).length ≤ maxLen := by rw [List.length_append, List.length_singleton]; unfold maxLen; omega
            have HM' : Hid (M ++ [prefMark es (pt ++ [49])] = (List.range (j + 1)).map fun t => prefMark es (flipAt n (15 - t))) := by
              show _ = _
              rw [List.range_succ, List.map_append, ← HM.out, List.map_cons, List.map_nil, hq]
            have c1 : ((pn[15 - j].toNat : Int) == 49) = false := by rw [beq_eq_false_iff_ne]; intro e; exact hc (UInt8.toNat_inj.1 (show pn[15 - j].toNat = 49 by omega))
            clear hq HM HV hfl hgb hc
            rcases hv with hf | ⟨hf, hpz⟩
            · generalize prefMark es (pt ++ [49]) = x at *
              go_wp2_with (first
                | (at_lookup; refine map_look_some _ rfl _ _ 71 rfl 35 Try.underlying71 _ (hzU _) b nn f rfl hmp (pt ++ [49]) hql (congrArg Value.string (S_append pt [49])) _ hf ?_)
                | (at_builtin; refine app_marks _ rfl _ _ rfl (w.heap.size + 2) _ M rfl (hownM.alloc _) ⟨wr.heap.size, 0, none⟩ 1 [x] 1 rfl rfl (mark_one wr x _) (by simp; omega) (by simp; omega) ?_; intro v3 w3 hown3 hgrow3; obtain ⟨D3, d3, rfl⟩ := own_shape hown3; have hx3 := (hx.alloc (.cells #[.int .u64 (x : Int)] 35)).kept hgrow3 (hne _ (by omega)); have y1 := hx3.o2; have e1 := hx3.f2))
              have hz3 := (hz.alloc (.cells #[.int .u64 (x : Int)] 35)).kept hgrow3 (hne _ (by omega))
              have hb3 : Below w.heap.size w w3 := (hbl.alloc hbl.size (.cells #[.int .u64 (x : Int)] 35)).grown hgrow3 (by simp; omega) (fun j hj => by have := (hownM.lt j hj).1; omega)
              have hmp3 := (hmp.alloc (.cells #[.int .u64 (x : Int)] 35)).kept hgrow3 (own_ne_map (hownM.alloc (.cells #[.int .u64 (x : Int)] 35)) (hmp.alloc (.cells #[.int .u64 (x : Int)] 35)))
              have hoe3 := (hown.alloc (.cells #[.int .u64 (x : Int)] 35)).kept hgrow3 (own_apartP (hown.alloc (.cells #[.int .u64 (x : Int)] 35)) (hownM.alloc (.cells #[.int .u64 (x : Int)] 35)) (by decide))
              have hL1 : (M ++ [x]).length = M.length + 1 := by simp
              have hg3 := grown_set w3 ⟨w.heap.size + 1, 2, none⟩ (.slice D3 (M.length + 1) d3)
              have hk3 := hown3.kept hg3 (.inr fun e => by have := (hown3.lt _ e).1; simp at this)
              rw [hL1] at hk3
              go_roundw
              case rel => exact ⟨j + 1, .slice D3 (M.length + 1) d3, M ++ [x], by omega, by go_num, HM', by show _ = _; rw [hL1, HMl.out], hoe3.kept hg3 (.inr fun e => by have := (hoe3.lt _ e).1; simp at this), by rw [hL1]; exact hk3, hx3.set2 _, hz3.kept hg3 (by simp), hmp3.kept hg3 (by have := hx3.ne_map hmp3; simpa using this), hb3.setCell (by simp) _⟩
              case measure => simp [intOf]; omega
            · have hM0 := fun w => Lib.hid (refMark_0 w)
              rw [← hpz] at hM0
              clear hpz
              generalize prefMark es (pt ++ [49]) = x at *
              go_wp2_with (first
                | (at_lookup; refine map_look_none _ rfl _ _ 71 rfl 35 Try.underlying71 _ (hzU _) b nn f rfl hmp (pt ++ [49]) hql (congrArg Value.string (S_append pt [49])) hf ?_)
                | (go_at_call 44; refine (hM0 _).out.mono ?_; rintro e _ ⟨rfl, rfl⟩)
                | (at_builtin; refine app_marks _ rfl _ _ rfl (w.heap.size + 2) _ M rfl (hownM.alloc _) ⟨wr.heap.size, 0, none⟩ 1 [x] 1 rfl rfl (mark_one wr x _) (by simp; omega) (by simp; omega) ?_; intro v3 w3 hown3 hgrow3; obtain ⟨D3, d3, rfl⟩ := own_shape hown3; have hx3 := (hx.alloc (.cells #[.int .u64 (x : Int)] 35)).kept hgrow3 (hne _ (by omega)); have y1 := hx3.o2; have e1 := hx3.f2))
              have hz3 := (hz.alloc (.cells #[.int .u64 (x : Int)] 35)).kept hgrow3 (hne _ (by omega))
              have hb3 : Below w.heap.size w w3 := (hbl.alloc hbl.size (.cells #[.int .u64 (x : Int)] 35)).grown hgrow3 (by simp; omega) (fun j hj => by have := (hownM.lt j hj).1; omega)
              have hmp3 := (hmp.alloc (.cells #[.int .u64 (x : Int)] 35)).kept hgrow3 (own_ne_map (hownM.alloc (.cells #[.int .u64 (x : Int)] 35)) (hmp.alloc (.cells #[.int .u64 (x : Int)] 35)))
              have hoe3 := (hown.alloc (.cells #[.int .u64 (x : Int)] 35)).kept hgrow3 (own_apartP (hown.alloc (.cells #[.int .u64 (x : Int)] 35)) (hownM.alloc (.cells #[.int .u64 (x : Int)] 35)) (by decide))
              have hL1 : (M ++ [x]).length = M.length + 1 := by simp
              have hg3 := grown_set w3 ⟨w.heap.size + 1, 2, none⟩ (.slice D3 (M.length + 1) d3)
              have hk3 := hown3.kept hg3 (.inr fun e => by have := (hown3.lt _ e).1; simp at this)
              rw [hL1] at hk3
              go_roundw
              case rel => exact ⟨j + 1, .slice D3 (M.length + 1) d3, M ++ [x], by omega, by go_num, HM', by show _ = _; rw [hL1, HMl.out], hoe3.kept hg3 (.inr fun e => by have := (hoe3.lt _ e).1; simp at this), by rw [hL1]; exact hk3, hx3.set2 _, hz3.kept hg3 (by simp), hmp3.kept hg3 (by have := hx3.ne_map hmp3; simpa using this), hb3.setCell (by simp) _⟩
              case measure => simp [intOf]; omega
        · obtain rfl : j = 16 := by omega
          have HM' : Hid (sidesOf es n = M) := HM.out.symm
          have H16 := HMl
          have hzz := hz
          have hxx := hx
          obtain ⟨x0, x1, x2, f0, f1, f2⟩ := hx
          obtain ⟨z0, z1, z2, e0, e1, e2⟩ := hz
          clear HM HMl hP HE hA hmap hx2 hz2 hown2 hb02 HV hj hjt
          have hz9 := ((hzz.set0 (.string (S n))).set1 (.slice D1 L.length d1)).set2 (.slice D2 M.length d2)
          have hb9 := ((hbl.setCell (p := ⟨w.heap.size, 0, none⟩) (Nat.le_refl _) (.string (S n))).setCell (p := ⟨w.heap.size, 1, none⟩) (Nat.le_refl _) (.slice D1 L.length d1)).setCell (p := ⟨w.heap.size, 2, none⟩) (Nat.le_refl _) (.slice D2 M.length d2)
          have hg9 := ((grown_set wr ⟨w.heap.size, 0, none⟩ (.string (S n))).trans (grown_set _ ⟨w.heap.size, 1, none⟩ (.slice D1 L.length d1))).trans (grown_set _ ⟨w.heap.size, 2, none⟩ (.slice D2 M.length d2))
          have hrA := Row.ownE (hown.kept hg9 (.inr fun e => absurd (hown.lt _ e).1 (by show ¬ w.heap.size + 2 ≤ w.heap.size; omega)))
          have hrB := Row.own (hownM.kept hg9 (.inr fun e => absurd (hownM.lt _ e).1 (by show ¬ w.heap.size + 2 ≤ w.heap.size; omega)))
          go_wp2
          generalize (((wr.setCell ⟨w.heap.size, 0, none⟩ (.string (S n))).setCell ⟨w.heap.size, 1, none⟩ (.slice D1 L.length d1)).setCell ⟨w.heap.size, 2, none⟩ (.slice D2 M.length d2)) = w9 at *
          have r0 := hz9.o0
          have r1 := hz9.o1
          have r2 := hz9.o2
          rw [HL'.out, HM'.out]
          refine bodyPost_ret (v := .agg #[.string (S n), .slice D1 L.length d1, .slice D2 M.length d2]) ?_ rfl ⟨D1, d1, D2, d2, rfl, hrA, hrB, hb9⟩
          rw [results_cell1 rfl]
          go_simp
end Go.Proofs.Ytjifggnmjhfgfaa
