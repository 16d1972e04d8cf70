/- The reference: BookSet returns the book with a name set, in a row of the call's own. It writes nothing that was there. -/
import Derived.Test.YtjcockcilkiggaaGreatJ47
import Derived.Test.YtjcockcilkiggaaGreatJ17
import Derived.Test.YtjcockcilkiggaaGreatJ36
import Derived.Test.YtjcockcilkiggaaGreatJ32
namespace Go.Proofs.YtjcockcilkiggaaGreat
open Go.RowKit

def EntsOwn (T : List Ent) (w : World) (e : Ending) (w' : World) : Prop := ∃ D d, e = .returned (.slice D T.length d) ∧ w'.ownsRow w.heap.size 51 2 (.slice D T.length d) T.length (encells T) ∧ Below w.heap.size w w'
set_option maxRecDepth 100000 in
set_option maxHeartbeats 800000 in
theorem refSetO (A : Option Addr) (c : Nat) (es : List Ent) (n v : Bytes) (w : World) (hm : es.length ≤ 1000) (hn : n.length ≤ maxLen) (hes : ∀ x ∈ es, x.1.length ≤ maxLen) (hA : Row w A (encells es)) :
    Calls Tryz.prog 41 #[.slice A es.length c, .string (S n), .string (S v)] w (EntsOwn (setTo n v es) w) := by
  have HE := Lib.hid hes
  clear hes
  go_enter Tryz.func41, Tryz.ntmps41
  go_wp2
  go_loopw [7, 17] (fun o i wr => ∃ (k : Nat) (qs : List Bytes), k ≤ es.length ∧ i = .int .i64 k ∧ Hid (qs = (es.take k).map (·.1)) ∧ wr.ownsRow w.heap.size 9 1 o qs.length (scells qs) ∧ Below w.heap.size w wr) (fun _ i _ => es.length - (intOf i).toNat)
  case atStart => exact ⟨0, [], Nat.zero_le _, rfl, rfl, World.ownsRow_nil _ _ _ _, Below.refl _ _⟩
  case round =>
    obtain ⟨k, qs, hk, rfl, HQ, hown, hbl⟩ := hrel
    have hsz := hbl.size
    obtain ⟨B, cb, rfl⟩ := own_shape hown
    have hql : qs.length ≤ k := by
      rw [HQ.out, List.length_map, List.length_take]
      omega
    by_cases hlt : k < es.length
    · obtain ⟨g, off, rfl, h1, h2⟩ := (hA.below hbl).ent k hlt
      have hi0 : (0 : Int) ≤ (k : Int) := by omega
      have hi1 : (k : Int) < (es.length : Int) := by omega
      have HQ' : Hid (qs ++ [es[k].1] = (es.take (k + 1)).map (·.1)) := by
        show qs ++ _ = _
        rw [List.take_succ_eq_append_getElem hlt, List.map_append, ← HQ.out]
        rfl
      clear hA HQ
      generalize es[k].1 = a at *
      generalize es[k].2 = b at *
      go_wp2_with (first
        | (at_builtin; refine app_strs _ rfl _ _ rfl w.heap.size _ qs rfl ((hown.alloc _).alloc _) ⟨wr.heap.size + 1, 0, none⟩ 1 [a] 1 rfl rfl (by have := str_one (wr.alloc (.cells #[.string (S a), .string (S b)] 51)) a 9; simpa using this) (by simp; omega) (by simp; omega) ?_; intro v1 w3 hown3 hgrow3))
      have hb3 : Below w.heap.size w w3 := ((hbl.alloc hsz _).alloc (by simp; omega) _).grown hgrow3 (by simp; omega) (fun g' hg' => (hown.lt g' hg').1)
      go_roundw
      case rel => exact ⟨k + 1, qs ++ [a], by omega, by go_num, HQ', hown3, hb3⟩
      case measure => simp [intOf]; omega
    · have HQ' : Hid (qs = es.map (·.1)) := by
        show qs = _
        rw [HQ.out, List.take_of_length_le (by omega)]
      have HM : Hid (∀ s ∈ qs ++ [n], s.length ≤ maxLen) := by
        show ∀ s ∈ qs ++ [n], s.length ≤ maxLen
        intro s hs
        rcases List.mem_append.1 hs with hs | hs
        · rw [HQ'.out] at hs
          obtain ⟨x, hx, rfl⟩ := List.mem_map.1 hs
          exact HE.out x hx
        · rw [List.mem_singleton.1 hs]; exact hn
      have HT : Hid (setTo n v es = (Bin.srt (qs ++ [n])).map fun x => (x, if x = n then v else (stands es x).getD [])) := by
        show _ = _
        rw [HQ'.out]
        rfl
      have hTl := setTo_le n v es
      clear HQ HQ' HE
      go_wp2_with (first
        | (at_builtin; refine app_strs _ rfl _ _ rfl w.heap.size _ qs rfl (hown.alloc _) ⟨wr.heap.size, 0, none⟩ 1 [n] 1 rfl rfl (str_one wr n _) (by simp; omega) (by simp; omega) ?_; intro v1 w3 hown3 hgrow3))
      have hb3 : Below w.heap.size w w3 := (hbl.alloc hsz _).grown hgrow3 (by simp; omega) (fun g' hg' => (hown.lt g' hg').1)
      obtain ⟨B3, c3, rfl⟩ := own_shape hown3
      have hO := Lib.hid (refOrdered B3 c3 (qs ++ [n]) w3 (by rw [List.length_append, List.length_singleton]; omega) HM.out (Row.own hown3))
      have hlen : (Bin.srt (qs ++ [n])).length ≤ es.length + 1 := by
        have h5 := Bin.srt_le (qs ++ [n])
        rw [List.length_append, List.length_singleton] at h5
        omega
      clear hown3 hgrow3 hown hbl hsz HM hql hk hlt hTl
      generalize Bin.srt (qs ++ [n]) = T at *
      refine hO.out.mono ?_
      rintro e w4 ⟨D, d, rfl, hr4, hb4⟩
      have hb0 := below_chain hb3 hb4
      have hA4 := hA.below hb0
      clear hO hb3 hb4 hA
      go_wp2
      go_loopw [10, 33] (fun o i wr => ∃ (k : Nat) (qs : List Ent), k ≤ T.length ∧ i = .int .i64 k ∧ Hid (qs = (T.take k).map fun x => (x, if x = n then v else (stands es x).getD [])) ∧ wr.ownsRow w4.heap.size 51 2 o qs.length (encells qs) ∧ Below w4.heap.size w4 wr) (fun _ i _ => T.length - (intOf i).toNat)
      case atStart => exact ⟨0, [], Nat.zero_le _, rfl, rfl, World.ownsRow_nil _ _ _ _, Below.refl _ _⟩
      case round =>
        obtain ⟨k, rs, hk, rfl, HQ, hown, hbl⟩ := hrel
        obtain ⟨E, ce, rfl⟩ := own_shapeE hown
        by_cases hlt : k < T.length
        · obtain ⟨g, off, rfl, hc⟩ := (hr4.below hbl) (by rw [scells_length]; omega)
          have h1 := hc k (by rw [scells_length]; exact hlt)
          simp only [scells, List.getElem_map] at h1
          have hi0 : (0 : Int) ≤ (k : Int) := by omega
          have hi1 : (k : Int) < (T.length : Int) := by omega
          have hrl : rs.length ≤ k := by
            rw [HQ.out, List.length_map, List.length_take]
            omega
          have HQ' : Hid (rs ++ [(T[k], if T[k] = n then v else (stands es T[k]).getD [])] = (T.take (k + 1)).map fun x => (x, if x = n then v else (stands es x).getD [])) := by
            show rs ++ _ = _
            rw [List.take_succ_eq_append_getElem hlt, List.map_append, ← HQ.out]
            rfl
          have hSt := fun w h => Lib.hid (refStands A c es T[k] w (by unfold maxLen; omega) h _ rfl)
          clear hc HQ
          generalize T[k] = x at *
          generalize (stands es x).isSome = sb at *
          generalize (stands es x).getD [] = sv at *
          go_wp2_with fail
          refine (hSt _ (hA4.below hbl)).out.mono ?_
          rintro e w5 ⟨rfl, hb5⟩
          have hown5 := own_belowE hown hb5
          have hbl5 := below_chain hbl hb5
          have hsz5 := hbl5.size
          clear hSt hown hbl hb5
          by_cases he : x = n
          · have hbe : (x == n) = true := by simp [he]
            rw [if_pos he] at HQ'
            clear he
            go_wp2_with (first
              | (at_builtin; refine app_ents _ rfl _ _ rfl w4.heap.size _ rs rfl (hown5.alloc _) ⟨w5.heap.size, 0, none⟩ 1 [(x, v)] 1 rfl rfl (ent_one w5 x v _) (by simp; omega) (by simp; omega) ?_; intro v1 w6 hown6 hgrow6))
            have hb6 : Below w4.heap.size w4 w6 := (hbl5.alloc hsz5 _).grown hgrow6 (by simp; omega) (fun g' hg' => (hown5.lt g' hg').1)
            go_roundw
            case rel => exact ⟨k + 1, _, by omega, by go_num, HQ', hown6, hb6⟩
            case measure => simp [intOf]; omega
          · have hbe : (x == n) = false := by simp [he]
            rw [if_neg he] at HQ'
            clear he
            go_wp2_with (first
              | (at_builtin; refine app_ents _ rfl _ _ rfl w4.heap.size _ rs rfl (hown5.alloc _) ⟨w5.heap.size, 0, none⟩ 1 [(x, sv)] 1 rfl rfl (ent_one w5 x sv _) (by simp; omega) (by simp; omega) ?_; intro v1 w6 hown6 hgrow6))
            have hb6 : Below w4.heap.size w4 w6 := (hbl5.alloc hsz5 _).grown hgrow6 (by simp; omega) (fun g' hg' => (hown5.lt g' hg').1)
            go_roundw
            case rel => exact ⟨k + 1, _, by omega, by go_num, HQ', hown6, hb6⟩
            case measure => simp [intOf]; omega
        · have HR : Hid (rs = setTo n v es) := by
            show rs = _
            rw [HQ.out, HT.out, List.take_of_length_le (by omega)]
          go_wp2
          go_ret
          rw [← HR.out]
          exact ⟨E, ce, rfl, own_baseQ hown hb0.size, below_chain hb0 hbl⟩
end Go.Proofs.YtjcockcilkiggaaGreat
/- A clerk that a tick works on: its struct, the rows behind it, the book that grows; what keeps them. -/
namespace Go.Proofs.YtjcockcilkiggaaGreat
set_option maxRecDepth 100000
open Go.RowKit

/-- A row that is not a clerk's lies outside the clerk's block. -/
theorem apart_clerk {W : World} {b b' s' n' p : Nat} {e' : TypeId} {v' : Value} {xs' vs : List Value} (h : W.ownsRow b' e' s' v' n' xs') (r : W.ownsRow b 28 7 (.slice (some ⟨p, 0, none⟩) 1 1) 1 vs) (hne : e' ≠ 28) : ∀ k, v'.ownBlock = some k → k ≠ p := fun k hk e => by
  rcases own_apart h r hne with h | h
  · rw [h] at hk; cases hk
  · rw [hk, e] at h; exact h rfl
theorem grown_into {w w' : World} {row : Option Nat} (h : w.grownBy w' row) {g : Nat} (hg : row = some g) (j : Nat) (u : Value) : w.grownBy (w'.setCell ⟨g, j, none⟩ u) row :=
  ⟨h.os, h.tape, h.output, Nat.le_trans h.size (by simp [World.setCell]), fun k hk hr => (Below.heap_setCell _ _ _ k (fun e => hr (by rw [hg, e]))).trans (h.block k hk hr)⟩

structure TS (b0 p zz cc : Nat) (zs cs : List Value) (most ba ev nw : Int) (l : List Ak) (Dq : Option Addr) (dq : Nat) (D : Option Addr) (nr d : Nat) (hs : List Hd) (E : Option Addr) (f : Nat) (qs : List Bp) (F : Option Addr) (m : Nat) (X : List Ent) (P : Option Addr) (px : Nat) (W : World) : Prop where
  o : Bx W p [.int .i64 most, .slice D nr d, .int .i64 ba, .int .i64 ev, .int .i64 nw, .slice E hs.length f, .slice F qs.length m]
  r : ∃ vs, W.ownsRow b0 28 7 (.slice (some ⟨p, 0, none⟩) 1 1) 1 vs
  z : Bx W zz zs
  c : Bx W cc cs
  k : OwnCk W b0 l hs Dq E F dq f m qs
  x : W.ownsRow b0 51 2 (.slice P X.length px) X.length (encells X)
  zlt : zz < b0
  clt : cc < b0
  plt : b0 ≤ p
section
variable {b0 p zz cc : Nat} {zs cs : List Value} {most ba ev nw : Int} {l : List Ak} {Dq : Option Addr} {dq : Nat} {D : Option Addr} {nr d : Nat} {hs : List Hd} {E : Option Addr} {f : Nat} {qs : List Bp} {F : Option Addr} {m : Nat} {X : List Ent} {P : Option Addr} {px : Nat} {W W' : World}
theorem TS.below (h : TS b0 p zz cc zs cs most ba ev nw l Dq dq D nr d hs E f qs F m X P px W) (hb : Below W.heap.size W W') : TS b0 p zz cc zs cs most ba ev nw l Dq dq D nr d hs E f qs F m X P px W' :=
  ⟨h.o.below hb, h.r.imp fun _ r => own_belowN r hb, h.z.below hb, h.c.below hb, h.k.below hb, own_belowN h.x hb, h.zlt, h.clt, h.plt⟩
theorem TS.book (h : TS b0 p zz cc zs cs most ba ev nw l Dq dq D nr d hs E f qs F m X P px W) {X2 : List Ent} {P2 : Option Addr} {p2 : Nat} (hx : W.ownsRow b0 51 2 (.slice P2 X2.length p2) X2.length (encells X2)) : TS b0 p zz cc zs cs most ba ev nw l Dq dq D nr d hs E f qs F m X2 P2 p2 W :=
  ⟨h.o, h.r, h.z, h.c, h.k, hx, h.zlt, h.clt, h.plt⟩
theorem TS.setD (h : TS b0 p zz cc zs cs most ba ev nw l Dq dq D nr d hs E f qs F m X P px W) (D2 : Option Addr) (n2 d2 : Nat) : TS b0 p zz cc zs cs most ba ev nw l Dq dq D2 n2 d2 hs E f qs F m X P px (W.setCell ⟨p, 1, none⟩ (.slice D2 n2 d2)) := by
  obtain ⟨vs, r⟩ := h.r
  have hz := h.zlt
  have hc := h.clt
  have hp := h.plt
  exact ⟨h.o.set 1 (.slice D2 n2 d2), ⟨_, (r.stored 1 (.slice D2 n2 d2)).1⟩, h.z.far (h := p) (by omega) 1 _, h.c.far (h := p) (by omega) 1 _,
    ⟨own_far h.k.q (apart_clerk h.k.q r (by decide)) 1 _, own_far h.k.hd (apart_clerk h.k.hd r (by decide)) 1 _, own_far h.k.bk (apart_clerk h.k.bk r (by decide)) 1 _, fun q hq => own_far (h.k.each q hq) (apart_clerk (h.k.each q hq) r (by decide)) 1 _⟩,
    own_far h.x (apart_clerk h.x r (by decide)) 1 _, h.zlt, h.clt, h.plt⟩
theorem TS.growH (h : TS b0 p zz cc zs cs most ba ev nw l Dq dq D nr d hs E f qs F m X P px W) {hn : List Hd} {E2 : Option Addr} {f2 : Nat} (hg : W.grownBy W' (Value.slice E hs.length f).ownBlock) (ho : W'.ownsRow b0 45 4 (.slice E2 hn.length f2) hn.length (hcells hn)) :
    TS b0 p zz cc zs cs most ba ev nw l Dq dq D nr d hn E2 f2 qs F m X P px (W'.setCell ⟨p, 5, none⟩ (.slice E2 hn.length f2)) := by
  obtain ⟨vs, r⟩ := h.r
  have hz := h.zlt
  have hc := h.clt
  have hp := h.plt
  have r2 := own_other r h.k.hd (by decide) hg
  have q2 := own_other h.k.q h.k.hd (by decide) hg
  have b2 := own_other h.k.bk h.k.hd (by decide) hg
  have x2 := own_other h.x h.k.hd (by decide) hg
  have e2 := fun q hq => own_other (h.k.each q hq) h.k.hd (by decide) hg
  have hlt := fun k hk => (h.k.hd.lt k hk).1
  refine ⟨(h.o.kept hg fun e => apart_clerk h.k.hd r (by decide) p e.symm rfl).set 5 (.slice E2 hn.length f2), ⟨_, (r2.stored 5 (.slice E2 hn.length f2)).1⟩, (h.z.kept hg fun e => ?_).far (h := p) (by omega) 5 _, (h.c.kept hg fun e => ?_).far (h := p) (by omega) 5 _,
    ⟨own_far q2 (apart_clerk q2 r2 (by decide)) 5 _, own_far ho (apart_clerk ho r2 (by decide)) 5 _, own_far b2 (apart_clerk b2 r2 (by decide)) 5 _, fun q hq => own_far (e2 q hq) (apart_clerk (e2 q hq) r2 (by decide)) 5 _⟩,
    own_far x2 (apart_clerk x2 r2 (by decide)) 5 _, h.zlt, h.clt, h.plt⟩
  · have := hlt _ e.symm; omega
  · have := hlt _ e.symm; omega
theorem TS.growB (h : TS b0 p zz cc zs cs most ba ev nw l Dq dq D nr d hs E f qs F m X P px W) {qn : List Bp} {F2 : Option Addr} {m2 : Nat} (hg : W.grownBy W' (Value.slice F qs.length m).ownBlock) (ho : W'.ownsRow b0 39 1 (.slice F2 qn.length m2) qn.length (bkcells qn))
    (hq : ∀ q ∈ qn, q ∈ qs ∨ W.ownsRow b0 51 2 (.slice q.1 q.2.2.length q.2.1) q.2.2.length (encells q.2.2)) :
    TS b0 p zz cc zs cs most ba ev nw l Dq dq D nr d hs E f qn F2 m2 X P px (W'.setCell ⟨p, 6, none⟩ (.slice F2 qn.length m2)) := by
  obtain ⟨vs, r⟩ := h.r
  have hz := h.zlt
  have hc := h.clt
  have hp := h.plt
  have r2 := own_other r h.k.bk (by decide) hg
  have q2 := own_other h.k.q h.k.bk (by decide) hg
  have h2 := own_other h.k.hd h.k.bk (by decide) hg
  have x2 := own_other h.x h.k.bk (by decide) hg
  have e1 : ∀ q ∈ qn, W.ownsRow b0 51 2 (.slice q.1 q.2.2.length q.2.1) q.2.2.length (encells q.2.2) := fun q hm => (hq q hm).elim (h.k.each q) id
  have e2 := fun q hq => own_other (e1 q hq) h.k.bk (by decide) hg
  have hlt := fun k hk => (h.k.bk.lt k hk).1
  refine ⟨(h.o.kept hg fun e => apart_clerk h.k.bk r (by decide) p e.symm rfl).set 6 (.slice F2 qn.length m2), ⟨_, (r2.stored 6 (.slice F2 qn.length m2)).1⟩, (h.z.kept hg fun e => ?_).far (h := p) (by omega) 6 _, (h.c.kept hg fun e => ?_).far (h := p) (by omega) 6 _,
    ⟨own_far q2 (apart_clerk q2 r2 (by decide)) 6 _, own_far h2 (apart_clerk h2 r2 (by decide)) 6 _, own_far ho (apart_clerk ho r2 (by decide)) 6 _, fun q hq => own_far (e2 q hq) (apart_clerk (e2 q hq) r2 (by decide)) 6 _⟩,
    own_far x2 (apart_clerk x2 r2 (by decide)) 6 _, h.zlt, h.clt, h.plt⟩
  · have := hlt _ e.symm; omega
  · have := hlt _ e.symm; omega
theorem TS.oH (h : TS b0 p zz cc zs cs most ba ev nw l Dq dq D nr d hs E f qs F m X P px W) (hg : W.grownBy W' (Value.slice E hs.length f).ownBlock) :
    Bx W' p [.int .i64 most, .slice D nr d, .int .i64 ba, .int .i64 ev, .int .i64 nw, .slice E hs.length f, .slice F qs.length m] := by
  obtain ⟨vs, r⟩ := h.r
  exact h.o.kept hg fun e => apart_clerk h.k.hd r (by decide) p e.symm rfl
theorem TS.oB (h : TS b0 p zz cc zs cs most ba ev nw l Dq dq D nr d hs E f qs F m X P px W) (hg : W.grownBy W' (Value.slice F qs.length m).ownBlock) :
    Bx W' p [.int .i64 most, .slice D nr d, .int .i64 ba, .int .i64 ev, .int .i64 nw, .slice E hs.length f, .slice F qs.length m] := by
  obtain ⟨vs, r⟩ := h.r
  exact h.o.kept hg fun e => apart_clerk h.k.bk r (by decide) p e.symm rfl
end
/-- A clerk in a block just made, as a row of one element. -/
theorem clerk_rowR (w : World) (vs : List Value) (h : vs.length = 7) : (w.alloc (.cells vs.toArray 28)).ownsRow w.heap.size 28 7 (.slice (some ⟨w.heap.size, 0, none⟩) 1 1) 1 vs :=
  ⟨h, .inr ⟨w.heap.size, 1, _, rfl, Nat.le_refl _, heap_alloc_new w _, Nat.le_refl _, by unfold maxLen; omega, by simp [h], by show List.take 7 vs = vs; exact List.take_of_length_le (by omega)⟩⟩
end Go.Proofs.YtjcockcilkiggaaGreat
/- A store into a cell that holds a slice leaves rows of requests and of entries as they were; the front of a row of requests cut off. -/
namespace Go.Proofs.YtjcockcilkiggaaGreat
set_option maxRecDepth 100000
open Go.RowKit

theorem Row.setFarV {w : World} {D : Option Addr} {vs : List Value} (hv : ∀ u ∈ vs, ∀ A n c, u ≠ .slice A n c) (h : Row w D vs) (a : Addr) (A : Option Addr) (n c : Nat) (u : Value) (hu : w.cell? a = some (.slice A n c)) : Row (w.setCell a u) D vs := fun h0 => by
  obtain ⟨g, off, e, hc⟩ := h h0
  refine ⟨g, off, e, fun k hk => ?_⟩
  have h1 := hc k hk
  refine (World.cell?_setCell_other w a ⟨g, off + k, none⟩ u fun e => ?_).trans h1
  rw [← e, hu] at h1
  injection h1 with h1
  exact hv _ (List.getElem_mem hk) A n c h1.symm
theorem Row.setFarQ {w : World} {D : Option Addr} {l : List Ak} (h : Row w D (qcells l)) (a : Addr) (A : Option Addr) (n c : Nat) (u : Value) (hu : w.cell? a = some (.slice A n c)) : Row (w.setCell a u) D (qcells l) :=
  Row.setFarV (fun x hx A n c => by
    obtain ⟨y, _, hy⟩ := List.mem_flatMap.1 hx
    simp only [List.mem_cons, List.not_mem_nil, or_false] at hy
    rcases hy with rfl | rfl | rfl | rfl <;> simp) h a A n c u hu
theorem Row.setFarE {w : World} {D : Option Addr} {l : List Ent} (h : Row w D (encells l)) (a : Addr) (A : Option Addr) (n c : Nat) (u : Value) (hu : w.cell? a = some (.slice A n c)) : Row (w.setCell a u) D (encells l) :=
  Row.setFarV (fun x hx A n c => by
    obtain ⟨y, _, hy⟩ := List.mem_flatMap.1 hx
    simp only [List.mem_cons, List.not_mem_nil, or_false] at hy
    rcases hy with rfl | rfl <;> simp) h a A n c u hu
/-- The rest behind the first request. -/
theorem Row.tailQ {w : World} {A : Option Addr} {x : Ak} {l : List Ak} (h : Row w A (qcells (x :: l))) : Row w (A.map (·.add 4)) (qcells l) := by
  have := h.dropQ 1
  rwa [List.drop_succ_cons, List.drop_zero, Nat.one_mul] at this
end Go.Proofs.YtjcockcilkiggaaGreat
