/- The law ClerkTells returns true: New, Check, Ask, Tick and Book answer what the document says. No conditions: true for all arguments. -/
import Derived.Test.YtjcockcilkiggaaGreatJ51
import Derived.Test.YtjcockcilkiggaaGreatJ53
import Derived.Test.YtjcockcilkiggaaGreatJ52
import Derived.Test.YtjcockcilkiggaaGreatJ18
import Derived.Deep.DeepCutAuto
namespace Go.Proofs.YtjcockcilkiggaaGreat
set_option maxRecDepth 100000
open Go.ChangeShapes Go.WideShapes Go.ChangeAt Go.RowKit

/-- A clerk in a block. -/
def CB (W : World) (g : Nat) (k : Ck) : Prop := ∃ A c I d B e ps, Bx W g [.int .i64 k.most, .slice A k.wait.length c, .int .i64 k.batch, .int .i64 k.every, .int .i64 k.now, .slice I k.heads.length d, .slice B ps.length e] ∧ CkAt W k A I B ps
theorem CB.below {W W' : World} {g : Nat} {k : Ck} (h : CB W g k) (hb : Below W.heap.size W W') : CB W' g k := by
  obtain ⟨A, c, I, d, B, e, ps, q, r⟩ := h
  exact ⟨A, c, I, d, B, e, ps, q.below hb, r.below hb⟩
theorem CB.new {W : World} {k : Ck} {A I B : Option Addr} {c d e : Nat} {ps : List Bp} (h : CkAt W k A I B ps) : CB (W.alloc (.cells #[.int .i64 k.most, .slice A k.wait.length c, .int .i64 k.batch, .int .i64 k.every, .int .i64 k.now, .slice I k.heads.length d, .slice B ps.length e] 28)) W.heap.size k :=
  ⟨A, c, I, d, B, e, ps, Bx.new W _ rfl _ [.int .i64 k.most, .slice A k.wait.length c, .int .i64 k.batch, .int .i64 k.every, .int .i64 k.now, .slice I k.heads.length d, .slice B ps.length e] 28 rfl, h.below (balloc (Below.refl _ _) _)⟩
/-- The law's own structs, and the rows behind them. -/
structure LS (g b1 b2 b3 b4 : Nat) (k kx ky kz kn : Ck) (n v : Bytes) (x t : Nat) (Dl : Option Addr) (T : List Ent) (W : World) : Prop where
  c : CB W g k
  a : Bx W (g + 1) [.string (S n), .string (S v), .int .u64 (x : Int), .int .u64 (t : Int)]
  x : CB W b1 kx
  y : CB W b2 ky
  z : CB W b3 kz
  n : CB W b4 kn
  l : Row W Dl (encells T)
theorem LS.below {g b1 b2 b3 b4 : Nat} {k kx ky kz kn : Ck} {n v : Bytes} {x t : Nat} {Dl : Option Addr} {T : List Ent} {W W' : World} (h : LS g b1 b2 b3 b4 k kx ky kz kn n v x t Dl T W) (hb : Below W.heap.size W W') : LS g b1 b2 b3 b4 k kx ky kz kn n v x t Dl T W' :=
  ⟨h.c.below hb, h.a.below hb, h.x.below hb, h.y.below hb, h.z.below hb, h.n.below hb, h.l.below hb⟩
theorem or_new {nm nb ne : Int} : (decide (nm < 1) || decide (30 < nm) || decide (nb < 1) || decide (30 < nb) || decide (ne < 1) || decide (1000 < ne)) = true ↔ nm < 1 ∨ 30 < nm ∨ nb < 1 ∨ 30 < nb ∨ ne < 1 ∨ 1000 < ne := by
  simp only [Bool.or_eq_true, decide_eq_true_eq, or_assoc]
theorem fit_of {m ba ev nw : Int} {l : List Ak} {hs : List Hd} {bs : List Bp} (h1 : l.length ≤ maxLen) (h2 : ∀ x ∈ l, AkFits x) (h3 : hs.length ≤ maxLen) (h4 : bs.length ≤ maxLen) (h5 : ∀ p ∈ bs, p.2.2.length ≤ maxLen ∧ ∀ x ∈ p.2.2, x.1.length ≤ maxLen ∧ x.2.length ≤ maxLen) : CkFit ⟨m, l, ba, ev, nw, hs, bks bs⟩ :=
  ⟨h1, h2, h3, by show (bks bs).length ≤ _; rw [bks_length]; exact h4, fun b hb => by obtain ⟨p, hp, rfl⟩ := List.mem_map.1 hb; exact h5 p hp⟩

set_option maxHeartbeats 8000000 in
theorem clerkTells_walk (nm nb ne : Int) (k : Ck) (hf : CkFit k) (A : Option Addr) (c : Nat) (I : Option Addr) (d : Nat) (B : Option Addr) (e : Nat) (ps : List Bp) (n v : Bytes) (x t : Nat) (ep : Int) (w : World) (hn : n.length ≤ maxLen) (hv : v.length ≤ maxLen) (hk : CkAt w k A I B ps) :
    Calls Tryz.prog 3 #[.int .i64 nm, .int .i64 nb, .int .i64 ne, .agg #[.int .i64 k.most, .slice A k.wait.length c, .int .i64 k.batch, .int .i64 k.every, .int .i64 k.now, .slice I k.heads.length d, .slice B ps.length e], .agg #[.string (S n), .string (S v), .int .u64 (x : Int), .int .u64 (t : Int)], .int .i64 ep] w fun e w' => e = .returned (.bool true) ∧ Below w.heap.size w w' := by
  obtain ⟨⟨kx, ex⟩, hx⟩ : ∃ u, newRes nm nb ne = u := ⟨_, rfl⟩
  obtain ⟨⟨ky, due, ey⟩, hy⟩ : ∃ u, askRes k (n, v, x, t) = u := ⟨_, rfl⟩
  obtain ⟨⟨kz, mo, ez⟩, hz⟩ : ∃ u, tickRes k = u := ⟨_, rfl⟩
  obtain ⟨⟨T, el⟩, hl⟩ : ∃ u, bookAns k ep = u := ⟨_, rfl⟩
  obtain ⟨bad, hbad⟩ : ∃ u, ckfault k = u := ⟨_, rfl⟩
  obtain ⟨kn, hkn⟩ : ∃ u, noneC = u := ⟨_, rfl⟩
  have hN := fun (w : World) => Lib.hid (newT nm nb ne kx ex hx w)
  have hA := fun (w : World) A c I d B e ps h => Lib.hid (askT k hf A c I d B e ps n v x t hn hv w h ky due ey hy)
  have hT := fun (w : World) A c I d B e ps h => Lib.hid (tickT k hf A c I d B e ps w h kz mo ez hz)
  have hB := fun (w : World) A c I d B e ps h => Lib.hid (bookT k hf A c I d B e ps ep w h T el hl)
  have hF := fun (w : World) A c I d B e ps h => Lib.hid (refFaultT k hf A c I d B e ps w h bad hbad)
  have hC := fun (w : World) A c I d B e ps h => Lib.hid (checkT k hf A c I d B e ps w h bad hbad)
  have hRA : bad = 0 → Hid (∀ (w : World) A c I d B e ps (_ : CkAt w k A I B ps), Calls Tryz.prog 12 #[.agg #[.int .i64 k.most, .slice A k.wait.length c, .int .i64 k.batch, .int .i64 k.every, .int .i64 k.now, .slice I k.heads.length d, .slice B ps.length e], .agg #[.string (S n), .string (S v), .int .u64 (x : Int), .int .u64 (t : Int)]] w (AkT ky due ey w)) := fun h w A c I d B e ps hw => refAskT k ((ckfault_ok k).1 (by rw [hbad]; exact h)) A c I d B e ps n v x t hn hv w hw ky due ey hy
  have hRT : bad = 0 → Hid (∀ (w : World) A c I d B e ps (_ : CkAt w k A I B ps), Calls Tryz.prog 13 #[.agg #[.int .i64 k.most, .slice A k.wait.length c, .int .i64 k.batch, .int .i64 k.every, .int .i64 k.now, .slice I k.heads.length d, .slice B ps.length e]] w (RtT kz mo w)) := fun h w A c I d B e ps hw => refTickT k ((ckfault_ok k).1 (by rw [hbad]; exact h)) A c I d B e ps w hw kz mo ez hz
  have hSx := fun (w : World) A c I d B e ps A' c' I' d' B' e' ps' h h' => Lib.hid (sameT kx (newRes_tiny hx) A c I d B e ps A' c' I' d' B' e' ps' w h h')
  have hSy := fun (w : World) A c I d B e ps A' c' I' d' B' e' ps' h h' => Lib.hid (sameT ky (askRes_tiny hy) A c I d B e ps A' c' I' d' B' e' ps' w h h')
  have hSz := fun (w : World) A c I d B e ps A' c' I' d' B' e' ps' h h' => Lib.hid (sameT kz (tickRes_tiny hz) A c I d B e ps A' c' I' d' B' e' ps' w h h')
  have HX := Lib.hid hx
  have HY := Lib.hid hy
  have HZ := Lib.hid hz
  have HL := Lib.hid hl
  have HBD := Lib.hid hbad
  have HKN := Lib.hid hkn
  have HFT := Lib.hid hf
  have hb0 : Below w.heap.size w ((w.alloc (.cells #[.int .i64 k.most, .slice A k.wait.length c, .int .i64 k.batch, .int .i64 k.every, .int .i64 k.now, .slice I k.heads.length d, .slice B ps.length e] 28)).alloc (.cells #[.string (S n), .string (S v), .int .u64 (x : Int), .int .u64 (t : Int)] 31)) := balloc (balloc (Below.refl _ _) _) _
  have hc0 : CB ((w.alloc (.cells #[.int .i64 k.most, .slice A k.wait.length c, .int .i64 k.batch, .int .i64 k.every, .int .i64 k.now, .slice I k.heads.length d, .slice B ps.length e] 28)).alloc (.cells #[.string (S n), .string (S v), .int .u64 (x : Int), .int .u64 (t : Int)] 31)) w.heap.size k := (CB.new hk).below (balloc (Below.refl _ _) _)
  have ha0 := Bx.new (w.alloc (.cells #[.int .i64 k.most, .slice A k.wait.length c, .int .i64 k.batch, .int .i64 k.every, .int .i64 k.now, .slice I k.heads.length d, .slice B ps.length e] 28)) (w.heap.size + 1) (by simp) _ [.string (S n), .string (S v), .int .u64 (x : Int), .int .u64 (t : Int)] 31 rfl
  clear hx hy hz hl hbad hkn hf hn hv hk
  go_enter Tryz.func3, Tryz.ntmps3
  go_wp2_with fail
  refine (hN _).out.mono ?_
  rintro xx w1 ⟨A1, c1, I1, d1, B1, e1, ps1, rfl, k1, hb1⟩
  have hx1 := CB.new (c := c1) (d := d1) (e := e1) k1
  have hb1' := balloc hb1 (.cells #[.int .i64 kx.most, .slice A1 kx.wait.length c1, .int .i64 kx.batch, .int .i64 kx.every, .int .i64 kx.now, .slice I1 kx.heads.length d1, .slice B1 ps1.length e1] 28)
  have hc1 := hc0.below hb1'
  have ha1 := ha0.below hb1'
  have hb01 := below_chain hb0 hb1'
  clear hN k1 hb1 hc0 ha0 hb0 hb1'
  obtain ⟨A2, c2, I2, d2, B2, e2, ps2, q2, k2⟩ := hc1
  obtain ⟨v2_0, v2_1, v2_2, v2_3, v2_4, v2_5, v2_6⟩ := q2.get7
  obtain ⟨y0, y1, y2, y3⟩ := ha1.get4.1
  go_wp2_with fail
  generalize w1.alloc (.cells #[.int .i64 kx.most, .slice A1 kx.wait.length c1, .int .i64 kx.batch, .int .i64 kx.every, .int .i64 kx.now, .slice I1 kx.heads.length d1, .slice B1 ps1.length e1] 28) = v1 at *
  refine (hA _ A2 c2 I2 d2 B2 e2 ps2 k2).out.mono ?_
  rintro xx w2 ⟨A3, c3, I3, d3, B3, e3, ps3, rfl, k3, hb2⟩
  have hy2 := CB.new (c := c3) (d := d3) (e := e3) k3
  have hb2' := balloc hb2 (.cells #[.int .i64 ky.most, .slice A3 ky.wait.length c3, .int .i64 ky.batch, .int .i64 ky.every, .int .i64 ky.now, .slice I3 ky.heads.length d3, .slice B3 ps3.length e3] 28)
  have hc2 := CB.below ⟨A2, c2, I2, d2, B2, e2, ps2, q2, k2⟩ hb2'
  have ha2 := ha1.below hb2'
  have hx2 := hx1.below hb2'
  have hb02 := below_chain hb01 hb2'
  clear v2_0 v2_1 v2_2 v2_3 v2_4 v2_5 v2_6
  clear hA k3 hb2 ha1 hx1 hb01 hb2' q2 k2 y0 y1 y2 y3
  obtain ⟨A4, c4, I4, d4, B4, e4, ps4, q4, k4⟩ := hc2
  obtain ⟨v4_0, v4_1, v4_2, v4_3, v4_4, v4_5, v4_6⟩ := q4.get7
  go_wp2_with fail
  generalize w2.alloc (.cells #[.int .i64 ky.most, .slice A3 ky.wait.length c3, .int .i64 ky.batch, .int .i64 ky.every, .int .i64 ky.now, .slice I3 ky.heads.length d3, .slice B3 ps3.length e3] 28) = v2 at *
  refine (hT _ A4 c4 I4 d4 B4 e4 ps4 k4).out.mono ?_
  rintro xx w3 ⟨A5, c5, I5, d5, B5, e5, ps5, rfl, k5, hb3⟩
  have hz3 := CB.new (c := c5) (d := d5) (e := e5) k5
  have hb3' := balloc hb3 (.cells #[.int .i64 kz.most, .slice A5 kz.wait.length c5, .int .i64 kz.batch, .int .i64 kz.every, .int .i64 kz.now, .slice I5 kz.heads.length d5, .slice B5 ps5.length e5] 28)
  have hc3 := CB.below ⟨A4, c4, I4, d4, B4, e4, ps4, q4, k4⟩ hb3'
  have ha3 := ha2.below hb3'
  have hx3 := hx2.below hb3'
  have hy3 := hy2.below hb3'
  have hb03 := below_chain hb02 hb3'
  clear v4_0 v4_1 v4_2 v4_3 v4_4 v4_5 v4_6
  clear hT k5 hb3 ha2 hx2 hy2 hb02 hb3' q4 k4
  obtain ⟨A6, c6, I6, d6, B6, e6, ps6, q6, k6⟩ := hc3
  obtain ⟨v6_0, v6_1, v6_2, v6_3, v6_4, v6_5, v6_6⟩ := q6.get7
  go_wp2_with fail
  generalize w3.alloc (.cells #[.int .i64 kz.most, .slice A5 kz.wait.length c5, .int .i64 kz.batch, .int .i64 kz.every, .int .i64 kz.now, .slice I5 kz.heads.length d5, .slice B5 ps5.length e5] 28) = v3 at *
  refine (hB _ A6 c6 I6 d6 B6 e6 ps6 k6).out.mono ?_
  rintro xx w4 ⟨Dl, dl, rfl, hown, hb4⟩
  have hb4' := balloc hb4 (.cells #[.int .i64 0, .slice none 0 0, .int .i64 0, .int .i64 0, .int .i64 0, .slice none 0 0, .slice none 0 0] 28)
  have hS : LS w.heap.size w1.heap.size w2.heap.size w3.heap.size w4.heap.size k kx ky kz kn n v x t Dl T (w4.alloc (.cells #[.int .i64 0, .slice none 0 0, .int .i64 0, .int .i64 0, .int .i64 0, .slice none 0 0, .slice none 0 0] 28)) := by
    refine ⟨CB.below ⟨A6, c6, I6, d6, B6, e6, ps6, q6, k6⟩ hb4', ha3.below hb4', hx3.below hb4', hy3.below hb4', hz3.below hb4', ?_, (Row.ownN hown).below (balloc (Below.refl _ _) _)⟩
    rw [← HKN.out]
    exact ⟨none, 0, none, 0, none, 0, [], Bx.new w4 _ rfl _ [.int .i64 0, .slice none 0 0, .int .i64 0, .int .i64 0, .int .i64 0, .slice none 0 0, .slice none 0 0] 28 rfl, CkAt.none _⟩
  have hbX := below_chain hb03 hb4'
  clear v6_0 v6_1 v6_2 v6_3 v6_4 v6_5 v6_6
  clear hB hown hb4 ha3 hx3 hy3 hz3 hb03 hb4' q6 k6
  go_upto_region 6 with fail
  generalize w4.alloc (.cells #[.int .i64 0, .slice none 0 0, .int .i64 0, .int .i64 0, .int .i64 0, .slice none 0 0, .slice none 0 0] 28) = X at *
  generalize w4.heap.size = b4 at *
  generalize w3.heap.size = b3 at *
  generalize w2.heap.size = b2 at *
  generalize w1.heap.size = b1 at *
  obtain ⟨qb, hqb⟩ : ∃ qb, (decide (nm < 1) || decide (30 < nm) || decide (nb < 1) || decide (30 < nb) || decide (ne < 1) || decide (1000 < ne)) = qb := ⟨_, rfl⟩
  have HQB := Lib.hid hqb
  clear hqb
  go_cut [78] (fun b wx => b = .bool qb ∧ wx = X)
  case first =>
    clear hS hbX hF hC hRA hRT hSx hSy hSz HX HY HZ HL HBD HKN HFT
    cases c1 : decide (nm < 1) with
    | true =>
      go_wp2_with fail
      go_meet
      case rel => exact ⟨by rw [← HQB.out, c1]; rfl, rfl⟩
    | false =>
    cases c2 : decide (30 < nm) with
    | true =>
      go_wp2_with fail
      go_meet
      case rel => exact ⟨by rw [← HQB.out, c1, c2]; rfl, rfl⟩
    | false =>
    cases c3 : decide (nb < 1) with
    | true =>
      go_wp2_with fail
      go_meet
      case rel => exact ⟨by rw [← HQB.out, c1, c2, c3]; rfl, rfl⟩
    | false =>
    cases c4 : decide (30 < nb) with
    | true =>
      go_wp2_with fail
      go_meet
      case rel => exact ⟨by rw [← HQB.out, c1, c2, c3, c4]; rfl, rfl⟩
    | false =>
    cases c5 : decide (ne < 1) with
    | true =>
      go_wp2_with fail
      go_meet
      case rel => exact ⟨by rw [← HQB.out, c1, c2, c3, c4, c5]; rfl, rfl⟩
    | false =>
    cases c6 : decide (1000 < ne) with
    | true =>
      go_wp2_with fail
      go_meet
      case rel => exact ⟨by rw [← HQB.out, c1, c2, c3, c4, c5, c6]; rfl, rfl⟩
    | false =>
    go_wp2_with fail
    go_meet
    case rel => exact ⟨by rw [← HQB.out, c1, c2, c3, c4, c5, c6]; rfl, rfl⟩
  case rest =>
    obtain ⟨rfl, hwc⟩ := hcut
    have hwc := hwc.symm
    subst hwc
    go_upto_if 78 with fail
    go_cut [] (fun wx => Below X.heap.size X wx)
    case first =>
      cases qb with
      | true =>
        have hno := or_new.1 HQB.out
        have he := HX.out
        unfold newRes at he
        rw [if_pos hno, Prod.mk.injEq] at he
        obtain ⟨h1, rfl⟩ := he
        have hkk : kn = kx := by rw [← h1]; exact HKN.out.symm
        subst hkk
        clear hno h1 HQB HX HY HZ HL HBD HKN HFT hF hC hRA hRT hSy hSz
        obtain ⟨A1, c1, I1, d1, B1, e1, ps1, q1, k1⟩ := hS.x
        obtain ⟨v1_0, v1_1, v1_2, v1_3, v1_4, v1_5, v1_6⟩ := q1.get7
        obtain ⟨A2, c2, I2, d2, B2, e2, ps2, q2, k2⟩ := hS.n
        obtain ⟨v2_0, v2_1, v2_2, v2_3, v2_4, v2_5, v2_6⟩ := q2.get7
        clear hS hbX
        go_wp2_with fail
        refine (hSx _ A1 c1 I1 d1 B1 e1 ps1 A2 c2 I2 d2 B2 e2 ps2 k1 k2).out.mono ?_
        rintro xx w5 ⟨rfl, hb5⟩
        go_wp2_with fail
        go_meet
        case rel => exact hb5
      | false =>
        have hok : ¬ (nm < 1 ∨ 30 < nm ∨ nb < 1 ∨ 30 < nb ∨ ne < 1 ∨ 1000 < ne) := fun h => by have := or_new.2 h; rw [HQB.out] at this; exact absurd this (by decide)
        have he := HX.out
        unfold newRes at he
        rw [if_neg hok, Prod.mk.injEq] at he
        obtain ⟨rfl, rfl⟩ := he
        obtain ⟨A1, c1, I1, d1, B1, e1, ps1, q1, k1⟩ := hS.x
        have hxb : Bx X b1 [.int .i64 nm, .slice A1 0 c1, .int .i64 nb, .int .i64 ne, .int .i64 0, .slice I1 1 d1, .slice B1 ps1.length e1] := q1
        have hSl : ∀ (w : World) (g h : Nat), Row w (some ⟨g, 0, none⟩) (hcells [((0, nil0, 0, 0) : Hd)]) → Books w (some ⟨h, 0, none⟩) [((none, 0, []) : Bp)] → CkAt w ⟨nm, [], nb, ne, 0, [(0, nil0, 0, 0)], [[]]⟩ A1 I1 B1 ps1 → Hid (Calls Tryz.prog 8 #[.agg #[.int .i64 nm, .slice A1 0 c1, .int .i64 nb, .int .i64 ne, .int .i64 0, .slice I1 1 d1, .slice B1 ps1.length e1], .agg #[.int .i64 nm, .slice none 0 0, .int .i64 nb, .int .i64 ne, .int .i64 0, .slice (some ⟨g, 0, none⟩) 1 1, .slice (some ⟨h, 0, none⟩) 1 1]] w fun x w' => x = .returned (.bool true) ∧ Below w.heap.size w w') :=
          fun w g h r1 r2 r3 => hSx w A1 c1 I1 d1 B1 e1 ps1 none 0 (some ⟨g, 0, none⟩) 1 (some ⟨h, 0, none⟩) 1 [((none, 0, []) : Bp)] r3 ⟨rfl, Row.nil_ _ _, r1, r2⟩
        have hbc0 := bdrew (Below.refl X.heap.size X)
        clear hok HQB HX HY HZ HL HBD HKN HFT hF hC hRA hRT hSy hSz hSx q1 hS hbX
        go_upto_region 9 with fail
        refine wp_region_held_drew (S := fun W => W.cell? ⟨b1, 0, none⟩ = some (.int .i64 nm) ∧ W.cell? ⟨b1, 1, none⟩ = some (.slice A1 0 c1) ∧ W.cell? ⟨b1, 2, none⟩ = some (.int .i64 nb) ∧ W.cell? ⟨b1, 3, none⟩ = some (.int .i64 ne) ∧ W.cell? ⟨b1, 4, none⟩ = some (.int .i64 0) ∧ W.cell? ⟨b1, 5, none⟩ = some (.slice I1 1 d1) ∧ W.cell? ⟨b1, 6, none⟩ = some (.slice B1 ps1.length e1)) (by kernel_rfl) hxb.get7 (fun hHeld => ?_)
        refine wpAnyH_take (i := 0) (v := ?_) rfl (by kernel_rfl) (by kernel_rfl) (by kernel_rfl) (fun _ _ _ h => h) (Or.inl ⟨by rfl, ?_⟩) (by assumption) ?_
        rotate_left
        · intro wt hSt
          try dsimp only at hSt
          first | (go_simp; done) | (go_simp; with_reducible rfl)
        simp only [Act.put, List.setIfInBounds_toArray, List.set_cons_zero, List.set_cons_succ, List.getElem_toArray, List.getElem_cons_zero]
        refine wpAnyH_take (i := 1) (v := ?_) rfl (by kernel_rfl) (by kernel_rfl) (by kernel_rfl) (fun _ _ _ h => h) (Or.inl ⟨by rfl, ?_⟩) (by assumption) ?_
        rotate_left
        · intro wt hSt
          try dsimp only at hSt
          first | (go_simp; done) | (go_simp; with_reducible rfl)
        simp only [Act.put, List.setIfInBounds_toArray, List.set_cons_zero, List.set_cons_succ, List.getElem_toArray, List.getElem_cons_zero, List.getElem_cons_succ]
        refine wpAnyH_take (i := 2) (v := ?_) rfl (by kernel_rfl) (by kernel_rfl) (by kernel_rfl) (fun _ _ _ h => h) (Or.inl ⟨by rfl, ?_⟩) (by assumption) ?_
        rotate_left
        · intro wt hSt
          try dsimp only at hSt
          first | (go_simp; done) | (go_simp; with_reducible rfl)
        simp only [Act.put, List.setIfInBounds_toArray, List.set_cons_zero, List.set_cons_succ, List.getElem_toArray, List.getElem_cons_zero, List.getElem_cons_succ]
        refine wpAnyH_take (i := 3) (v := ?_) rfl (by kernel_rfl) (by kernel_rfl) (by kernel_rfl) (fun _ _ _ h => h) (Or.inl ⟨by rfl, ?_⟩) (by assumption) ?_
        rotate_left
        · intro wt hSt
          try dsimp only at hSt
          first | (go_simp; done) | (go_simp; with_reducible rfl)
        simp only [Act.put, List.setIfInBounds_toArray, List.set_cons_zero, List.set_cons_succ, List.getElem_toArray, List.getElem_cons_zero, List.getElem_cons_succ]
        refine wpAnyH_take (i := 4) (v := ?_) rfl (by kernel_rfl) (by kernel_rfl) (by kernel_rfl) (fun _ _ _ h => h) (Or.inl ⟨by rfl, ?_⟩) (by assumption) ?_
        rotate_left
        · intro wt hSt
          try dsimp only at hSt
          first | (go_simp; done) | (go_simp; with_reducible rfl)
        simp only [Act.put, List.setIfInBounds_toArray, List.set_cons_zero, List.set_cons_succ, List.getElem_toArray, List.getElem_cons_zero, List.getElem_cons_succ]
        refine wpAnyH_take (i := 5) (v := ?_) rfl (by kernel_rfl) (by kernel_rfl) (by kernel_rfl) (fun _ _ _ h => h) (Or.inl ⟨by rfl, ?_⟩) (by assumption) ?_
        rotate_left
        · intro wt hSt
          try dsimp only at hSt
          first | (go_simp; done) | (go_simp; with_reducible rfl)
        simp only [Act.put, List.setIfInBounds_toArray, List.set_cons_zero, List.set_cons_succ, List.getElem_toArray, List.getElem_cons_zero, List.getElem_cons_succ]
        refine wpAnyH_take (i := 6) (v := ?_) rfl (by kernel_rfl) (by kernel_rfl) (by kernel_rfl) (fun _ _ _ h => h) (Or.inl ⟨by rfl, ?_⟩) (by assumption) ?_
        rotate_left
        · intro wt hSt
          try dsimp only at hSt
          first | (go_simp; done) | (go_simp; with_reducible rfl)
        simp only [Act.put, List.setIfInBounds_toArray, List.set_cons_zero, List.set_cons_succ, List.getElem_toArray, List.getElem_cons_zero, List.getElem_cons_succ]
        refine wpAnyH_take (i := 7) (v := ?_) rfl (by kernel_rfl) (by kernel_rfl) (by kernel_rfl) (fun _ _ _ h => h) (Or.inl ⟨by rfl, ?_⟩) (by assumption) ?_
        rotate_left
        · intro wt hSt
          try dsimp only at hSt
          first | (go_simp; done) | (go_simp; with_reducible rfl)
        simp only [Act.put, List.setIfInBounds_toArray, List.set_cons_zero, List.set_cons_succ, List.getElem_toArray, List.getElem_cons_zero, List.getElem_cons_succ]
        refine wpAnyH_ready (rs := [8, 11]) (by kernel_rfl) (by simp) ?_
        refine AllReadyH.cons rfl (fun K hK => ?_) (AllReadyH.cons rfl (fun K hK => ?_) (AllReadyH.nil))
        · skip
          go_simp
          go_at_call 9
          refine (refMark_0 _).mono ?_
          rintro xx uu ⟨rfl, hw⟩
          have hw := hw.symm
          subst hw
          go_wp2_with fail
          refine hK.out _ _ (hxb.below hbc0).get7 (fun hHeldN => ?_)
          clear hK K hHeld
          have hHeld := hHeldN
          clear hHeldN
          refine wpAnyH_take (i := 9) (v := ?_) rfl (by kernel_rfl) (by kernel_rfl) (by kernel_rfl) (fun _ _ _ h => h) (Or.inl ⟨by rfl, ?_⟩) (by assumption) ?_
          rotate_left
          · intro wt hSt
            try dsimp only at hSt
            first | (go_simp; done) | (go_simp; with_reducible rfl)
          simp only [Act.put, List.setIfInBounds_toArray, List.set_cons_zero, List.set_cons_succ, List.getElem_toArray, List.getElem_cons_zero, List.getElem_cons_succ]
          refine wpAnyH_ready (rs := [10, 11]) (by kernel_rfl) (by simp) ?_
          refine AllReadyH.cons rfl (fun K hK => ?_) (AllReadyH.cons rfl (fun K hK => ?_) (AllReadyH.nil))
          · skip
            go_simp
            have hbc1 : Below X.heap.size X (X.drew.alloc (.cells #[.int .i64 0, .int .u64 (nil0 : Int), .int .u64 0, .int .i64 0] 45)) := balloc hbc0 (.cells #[.int .i64 0, .int .u64 (nil0 : Int), .int .u64 0, .int .i64 0] 45)
            have rH : Row (X.drew.alloc (.cells #[.int .i64 0, .int .u64 (nil0 : Int), .int .u64 0, .int .i64 0] 45)) (some ⟨X.heap.size, 0, none⟩) (hcells [((0, nil0, 0, 0) : Hd)]) := Row.new _ _ _ _ _ (by simp) rfl
            refine hK.out _ _ (hxb.below hbc1).get7 (fun hHeldN => ?_)
            clear hK K hHeld
            have hHeld := hHeldN
            clear hHeldN
            refine wpAnyH_ready (rs := [11]) (by kernel_rfl) (by simp) ?_
            refine AllReadyH.cons rfl (fun K hK => ?_) (AllReadyH.nil)
            go_simp
            have hbc2 : Below X.heap.size X ((X.drew.alloc (.cells #[.int .i64 0, .int .u64 (nil0 : Int), .int .u64 0, .int .i64 0] 45)).alloc (.cells #[.slice none 0 0] 39)) := balloc hbc1 (.cells #[.slice none 0 0] 39)
            have rB : Row ((X.drew.alloc (.cells #[.int .i64 0, .int .u64 (nil0 : Int), .int .u64 0, .int .i64 0] 45)).alloc (.cells #[.slice none 0 0] 39)) (some ⟨(X.heap.size + 1), 0, none⟩) (bkcells [((none, 0, []) : Bp)]) := Row.new _ _ _ _ _ (by simp) rfl
            have rH := rH.below (balloc (Below.refl _ _) (.cells #[.slice none 0 0] 39))
            refine hK.out _ _ (hxb.below hbc2).get7 (fun hHeldN => ?_)
            clear hK K hHeld
            have hHeld := hHeldN
            clear hHeldN
            refine wpAnyH_take (i := 12) (v := ?_) rfl (by kernel_rfl) (by kernel_rfl) (by kernel_rfl) (fun _ _ _ h => h) (Or.inl ⟨by rfl, ?_⟩) (by assumption) ?_
            rotate_left
            · intro wt hSt
              try dsimp only at hSt
              first | (go_simp; done) | (go_simp; with_reducible rfl)
            simp only [Act.put, List.setIfInBounds_toArray, List.set_cons_zero, List.set_cons_succ, List.getElem_toArray, List.getElem_cons_zero, List.getElem_cons_succ]
            refine wpAnyH_ready (rs := [13]) (by kernel_rfl) (by simp) ?_
            refine AllReadyH.cons rfl (fun K hK => ?_) (AllReadyH.nil)
            go_simp
            go_at_call 8
            refine (hSl _ _ _ rH ⟨rB, fun p hp => by rw [List.mem_singleton.1 hp]; exact Row.nil_ _ _⟩ (k1.below hbc2)).out.mono ?_
            rintro xx uu ⟨rfl, hb9⟩
            have hbc3 := below_chain hbc2 hb9
            go_wp2_with fail
            refine hK.out _ _ (hxb.below hbc3).get7 (fun hHeldN => ?_)
            clear hK K hHeld
            have hHeld := hHeldN
            clear hHeldN
            refine wpAnyH_take (i := 14) (v := ?_) rfl (by kernel_rfl) (by kernel_rfl) (by kernel_rfl) (fun _ _ _ h => h) (Or.inl ⟨by rfl, ?_⟩) (by assumption) ?_
            rotate_left
            · intro wt hSt
              try dsimp only at hSt
              first | (go_simp; done) | (go_simp; with_reducible rfl)
            simp only [Act.put, List.setIfInBounds_toArray, List.set_cons_zero, List.set_cons_succ, List.getElem_toArray, List.getElem_cons_zero, List.getElem_cons_succ]
            refine wpAnyH_take (i := 15) (v := ?_) rfl (by kernel_rfl) (by kernel_rfl) (by kernel_rfl) (fun _ _ _ h => h) (Or.inl ⟨by rfl, ?_⟩) (by assumption) ?_
            rotate_left
            · intro wt hSt
              try dsimp only at hSt
              first | (go_simp; done) | (go_simp; with_reducible rfl)
            simp only [Act.put, List.setIfInBounds_toArray, List.set_cons_zero, List.set_cons_succ, List.getElem_toArray, List.getElem_cons_zero, List.getElem_cons_succ]
            refine wpAnyH_done (by kernel_rfl) ?_ _
            go_wp2_with fail
            go_meet
            case rel => exact hbc3
          · skip
            go_simp
            have hbc1 : Below X.heap.size X (X.drew.alloc (.cells #[.slice none 0 0] 39)) := balloc hbc0 (.cells #[.slice none 0 0] 39)
            have rB : Row (X.drew.alloc (.cells #[.slice none 0 0] 39)) (some ⟨X.heap.size, 0, none⟩) (bkcells [((none, 0, []) : Bp)]) := Row.new _ _ _ _ _ (by simp) rfl
            refine hK.out _ _ (hxb.below hbc1).get7 (fun hHeldN => ?_)
            clear hK K hHeld
            have hHeld := hHeldN
            clear hHeldN
            refine wpAnyH_ready (rs := [10]) (by kernel_rfl) (by simp) ?_
            refine AllReadyH.cons rfl (fun K hK => ?_) (AllReadyH.nil)
            go_simp
            have hbc2 : Below X.heap.size X ((X.drew.alloc (.cells #[.slice none 0 0] 39)).alloc (.cells #[.int .i64 0, .int .u64 (nil0 : Int), .int .u64 0, .int .i64 0] 45)) := balloc hbc1 (.cells #[.int .i64 0, .int .u64 (nil0 : Int), .int .u64 0, .int .i64 0] 45)
            have rH : Row ((X.drew.alloc (.cells #[.slice none 0 0] 39)).alloc (.cells #[.int .i64 0, .int .u64 (nil0 : Int), .int .u64 0, .int .i64 0] 45)) (some ⟨(X.heap.size + 1), 0, none⟩) (hcells [((0, nil0, 0, 0) : Hd)]) := Row.new _ _ _ _ _ (by simp) rfl
            have rB := rB.below (balloc (Below.refl _ _) (.cells #[.int .i64 0, .int .u64 (nil0 : Int), .int .u64 0, .int .i64 0] 45))
            refine hK.out _ _ (hxb.below hbc2).get7 (fun hHeldN => ?_)
            clear hK K hHeld
            have hHeld := hHeldN
            clear hHeldN
            refine wpAnyH_take (i := 12) (v := ?_) rfl (by kernel_rfl) (by kernel_rfl) (by kernel_rfl) (fun _ _ _ h => h) (Or.inl ⟨by rfl, ?_⟩) (by assumption) ?_
            rotate_left
            · intro wt hSt
              try dsimp only at hSt
              first | (go_simp; done) | (go_simp; with_reducible rfl)
            simp only [Act.put, List.setIfInBounds_toArray, List.set_cons_zero, List.set_cons_succ, List.getElem_toArray, List.getElem_cons_zero, List.getElem_cons_succ]
            refine wpAnyH_ready (rs := [13]) (by kernel_rfl) (by simp) ?_
            refine AllReadyH.cons rfl (fun K hK => ?_) (AllReadyH.nil)
            go_simp
            go_at_call 8
            refine (hSl _ _ _ rH ⟨rB, fun p hp => by rw [List.mem_singleton.1 hp]; exact Row.nil_ _ _⟩ (k1.below hbc2)).out.mono ?_
            rintro xx uu ⟨rfl, hb9⟩
            have hbc3 := below_chain hbc2 hb9
            go_wp2_with fail
            refine hK.out _ _ (hxb.below hbc3).get7 (fun hHeldN => ?_)
            clear hK K hHeld
            have hHeld := hHeldN
            clear hHeldN
            refine wpAnyH_take (i := 14) (v := ?_) rfl (by kernel_rfl) (by kernel_rfl) (by kernel_rfl) (fun _ _ _ h => h) (Or.inl ⟨by rfl, ?_⟩) (by assumption) ?_
            rotate_left
            · intro wt hSt
              try dsimp only at hSt
              first | (go_simp; done) | (go_simp; with_reducible rfl)
            simp only [Act.put, List.setIfInBounds_toArray, List.set_cons_zero, List.set_cons_succ, List.getElem_toArray, List.getElem_cons_zero, List.getElem_cons_succ]
            refine wpAnyH_take (i := 15) (v := ?_) rfl (by kernel_rfl) (by kernel_rfl) (by kernel_rfl) (fun _ _ _ h => h) (Or.inl ⟨by rfl, ?_⟩) (by assumption) ?_
            rotate_left
            · intro wt hSt
              try dsimp only at hSt
              first | (go_simp; done) | (go_simp; with_reducible rfl)
            simp only [Act.put, List.setIfInBounds_toArray, List.set_cons_zero, List.set_cons_succ, List.getElem_toArray, List.getElem_cons_zero, List.getElem_cons_succ]
            refine wpAnyH_done (by kernel_rfl) ?_ _
            go_wp2_with fail
            go_meet
            case rel => exact hbc3
        · skip
          go_simp
          have hbc1 : Below X.heap.size X (X.drew.alloc (.cells #[.slice none 0 0] 39)) := balloc hbc0 (.cells #[.slice none 0 0] 39)
          have rB : Row (X.drew.alloc (.cells #[.slice none 0 0] 39)) (some ⟨X.heap.size, 0, none⟩) (bkcells [((none, 0, []) : Bp)]) := Row.new _ _ _ _ _ (by simp) rfl
          refine hK.out _ _ (hxb.below hbc1).get7 (fun hHeldN => ?_)
          clear hK K hHeld
          have hHeld := hHeldN
          clear hHeldN
          refine wpAnyH_ready (rs := [8]) (by kernel_rfl) (by simp) ?_
          refine AllReadyH.cons rfl (fun K hK => ?_) (AllReadyH.nil)
          go_simp
          go_at_call 9
          refine (refMark_0 _).mono ?_
          rintro xx uu ⟨rfl, hw⟩
          have hw := hw.symm
          subst hw
          go_wp2_with fail
          refine hK.out _ _ (hxb.below hbc1).get7 (fun hHeldN => ?_)
          clear hK K hHeld
          have hHeld := hHeldN
          clear hHeldN
          refine wpAnyH_take (i := 9) (v := ?_) rfl (by kernel_rfl) (by kernel_rfl) (by kernel_rfl) (fun _ _ _ h => h) (Or.inl ⟨by rfl, ?_⟩) (by assumption) ?_
          rotate_left
          · intro wt hSt
            try dsimp only at hSt
            first | (go_simp; done) | (go_simp; with_reducible rfl)
          simp only [Act.put, List.setIfInBounds_toArray, List.set_cons_zero, List.set_cons_succ, List.getElem_toArray, List.getElem_cons_zero, List.getElem_cons_succ]
          refine wpAnyH_ready (rs := [10]) (by kernel_rfl) (by simp) ?_
          refine AllReadyH.cons rfl (fun K hK => ?_) (AllReadyH.nil)
          go_simp
          have hbc2 : Below X.heap.size X ((X.drew.alloc (.cells #[.slice none 0 0] 39)).alloc (.cells #[.int .i64 0, .int .u64 (nil0 : Int), .int .u64 0, .int .i64 0] 45)) := balloc hbc1 (.cells #[.int .i64 0, .int .u64 (nil0 : Int), .int .u64 0, .int .i64 0] 45)
          have rH : Row ((X.drew.alloc (.cells #[.slice none 0 0] 39)).alloc (.cells #[.int .i64 0, .int .u64 (nil0 : Int), .int .u64 0, .int .i64 0] 45)) (some ⟨(X.heap.size + 1), 0, none⟩) (hcells [((0, nil0, 0, 0) : Hd)]) := Row.new _ _ _ _ _ (by simp) rfl
          have rB := rB.below (balloc (Below.refl _ _) (.cells #[.int .i64 0, .int .u64 (nil0 : Int), .int .u64 0, .int .i64 0] 45))
          refine hK.out _ _ (hxb.below hbc2).get7 (fun hHeldN => ?_)
          clear hK K hHeld
          have hHeld := hHeldN
          clear hHeldN
          refine wpAnyH_take (i := 12) (v := ?_) rfl (by kernel_rfl) (by kernel_rfl) (by kernel_rfl) (fun _ _ _ h => h) (Or.inl ⟨by rfl, ?_⟩) (by assumption) ?_
          rotate_left
          · intro wt hSt
            try dsimp only at hSt
            first | (go_simp; done) | (go_simp; with_reducible rfl)
          simp only [Act.put, List.setIfInBounds_toArray, List.set_cons_zero, List.set_cons_succ, List.getElem_toArray, List.getElem_cons_zero, List.getElem_cons_succ]
          refine wpAnyH_ready (rs := [13]) (by kernel_rfl) (by simp) ?_
          refine AllReadyH.cons rfl (fun K hK => ?_) (AllReadyH.nil)
          go_simp
          go_at_call 8
          refine (hSl _ _ _ rH ⟨rB, fun p hp => by rw [List.mem_singleton.1 hp]; exact Row.nil_ _ _⟩ (k1.below hbc2)).out.mono ?_
          rintro xx uu ⟨rfl, hb9⟩
          have hbc3 := below_chain hbc2 hb9
          go_wp2_with fail
          refine hK.out _ _ (hxb.below hbc3).get7 (fun hHeldN => ?_)
          clear hK K hHeld
          have hHeld := hHeldN
          clear hHeldN
          refine wpAnyH_take (i := 14) (v := ?_) rfl (by kernel_rfl) (by kernel_rfl) (by kernel_rfl) (fun _ _ _ h => h) (Or.inl ⟨by rfl, ?_⟩) (by assumption) ?_
          rotate_left
          · intro wt hSt
            try dsimp only at hSt
            first | (go_simp; done) | (go_simp; with_reducible rfl)
          simp only [Act.put, List.setIfInBounds_toArray, List.set_cons_zero, List.set_cons_succ, List.getElem_toArray, List.getElem_cons_zero, List.getElem_cons_succ]
          refine wpAnyH_take (i := 15) (v := ?_) rfl (by kernel_rfl) (by kernel_rfl) (by kernel_rfl) (fun _ _ _ h => h) (Or.inl ⟨by rfl, ?_⟩) (by assumption) ?_
          rotate_left
          · intro wt hSt
            try dsimp only at hSt
            first | (go_simp; done) | (go_simp; with_reducible rfl)
          simp only [Act.put, List.setIfInBounds_toArray, List.set_cons_zero, List.set_cons_succ, List.getElem_toArray, List.getElem_cons_zero, List.getElem_cons_succ]
          refine wpAnyH_done (by kernel_rfl) ?_ _
          go_wp2_with fail
          go_meet
          case rel => exact hbc3
    case rest =>
      have hS5 := hS.below hcut
      have hb5 := below_chain hbX hcut
      clear HQB HX hS hbX hcut hSx
      obtain ⟨A1, c1, I1, d1, B1, e1, ps1, q1, k1⟩ := hS5.c
      obtain ⟨v1_0, v1_1, v1_2, v1_3, v1_4, v1_5, v1_6⟩ := q1.get7
      go_wp2_with fail
      refine (hF _ A1 c1 I1 d1 B1 e1 ps1 k1).out.mono ?_
      rintro xx w5 ⟨rfl, hb6⟩
      have hS6 := hS5.below hb6
      have hb06 := below_chain hb5 hb6
      clear v1_0 v1_1 v1_2 v1_3 v1_4 v1_5 v1_6
      clear hF hS5 hb5 hb6 q1 k1
      obtain ⟨A2, c2, I2, d2, B2, e2, ps2, q2, k2⟩ := hS6.c
      obtain ⟨v2_0, v2_1, v2_2, v2_3, v2_4, v2_5, v2_6⟩ := q2.get7
      go_wp2_with fail
      refine (hC _ A2 c2 I2 d2 B2 e2 ps2 k2).out.mono ?_
      rintro xx w6 ⟨rfl, hb7⟩
      have hS7 := hS6.below hb7
      have hb07 := below_chain hb06 hb7
      clear v2_0 v2_1 v2_2 v2_3 v2_4 v2_5 v2_6
      clear hC hS6 hb06 hb7 q2 k2
      have cbn : (bad != bad) = false := by simp
      by_cases h0 : bad = 0
      case neg =>
        have e1 := HY.out
        have e2 := HZ.out
        have e3 := HL.out
        unfold askRes at e1
        unfold tickRes at e2
        unfold bookAns at e3
        rw [HBD.out, if_neg h0] at e1 e2 e3
        simp only [Prod.mk.injEq] at e1 e2 e3
        obtain ⟨h1, rfl, rfl⟩ := e1
        obtain ⟨h2, rfl, rfl⟩ := e2
        obtain ⟨rfl, rfl⟩ := e3
        rw [HKN.out] at h1 h2
        subst h1
        subst h2
        have cb : (bad != 0) = true := bne_iff_ne.2 h0
        have cbb : (bad == bad) = true := beq_self_eq_true bad
        have cb0 : (bad == 0) = false := beq_eq_false_iff_ne.2 h0
        clear HY HZ HL HBD HKN HFT hRA hRT h0
        obtain ⟨A1, c1, I1, d1, B1, e1, ps1, q1, k1⟩ := hS7.y
        obtain ⟨v1_0, v1_1, v1_2, v1_3, v1_4, v1_5, v1_6⟩ := q1.get7
        obtain ⟨A2, c2, I2, d2, B2, e2, ps2, q2, k2⟩ := hS7.n
        obtain ⟨v2_0, v2_1, v2_2, v2_3, v2_4, v2_5, v2_6⟩ := q2.get7
        go_wp2_with fail
        refine (hSy _ A1 c1 I1 d1 B1 e1 ps1 A2 c2 I2 d2 B2 e2 ps2 k1 k2).out.mono ?_
        rintro xx w7 ⟨rfl, hb8⟩
        have hS8 := hS7.below hb8
        have hb08 := below_chain hb07 hb8
        clear v1_0 v1_1 v1_2 v1_3 v1_4 v1_5 v1_6
        clear v2_0 v2_1 v2_2 v2_3 v2_4 v2_5 v2_6
        clear hSy hS7 hb07 hb8 q1 k1 q2 k2
        obtain ⟨A1, c1, I1, d1, B1, e1, ps1, q1, k1⟩ := hS8.z
        obtain ⟨v1_0, v1_1, v1_2, v1_3, v1_4, v1_5, v1_6⟩ := q1.get7
        obtain ⟨A2, c2, I2, d2, B2, e2, ps2, q2, k2⟩ := hS8.n
        obtain ⟨v2_0, v2_1, v2_2, v2_3, v2_4, v2_5, v2_6⟩ := q2.get7
        go_wp2_with fail
        refine (hSz _ A1 c1 I1 d1 B1 e1 ps1 A2 c2 I2 d2 B2 e2 ps2 k1 k2).out.mono ?_
        rintro xx w8 ⟨rfl, hb9⟩
        clear v1_0 v1_1 v1_2 v1_3 v1_4 v1_5 v1_6
        clear v2_0 v2_1 v2_2 v2_3 v2_4 v2_5 v2_6
        go_wp2
        go_ret
        exact ⟨rfl, below_chain hb08 hb9⟩
      case pos =>
        subst h0
        have hRA' := (hRA rfl)
        have hRT' := (hRT rfl)
        have e2 := HZ.out
        unfold tickRes at e2
        rw [HBD.out, if_pos rfl] at e2
        simp only [Prod.mk.injEq] at e2
        obtain ⟨-, -, rfl⟩ := e2
        have cb : ((0 : Int) != 0) = false := rfl
        have cdd : (due != due) = false := by simp
        have cee : (ey != ey) = false := by simp
        have cmm : (mo != mo) = false := by simp
        clear HY HZ HKN hRA hRT
        obtain ⟨A1, c1, I1, d1, B1, e1, ps1, q1, k1⟩ := hS7.c
        obtain ⟨v1_0, v1_1, v1_2, v1_3, v1_4, v1_5, v1_6⟩ := q1.get7
        obtain ⟨y0, y1, y2, y3⟩ := hS7.a.get4.1
        go_wp2_with fail
        refine (hRA'.out _ A1 c1 I1 d1 B1 e1 ps1 k1).mono ?_
        rintro xx w7 ⟨A3, c3, I3, d3, B3, e3, ps3, rfl, k3, hb8⟩
        have hn8 := CB.new (c := c3) (d := d3) (e := e3) k3
        have hb8' := balloc hb8 (.cells #[.int .i64 ky.most, .slice A3 ky.wait.length c3, .int .i64 ky.batch, .int .i64 ky.every, .int .i64 ky.now, .slice I3 ky.heads.length d3, .slice B3 ps3.length e3] 28)
        have hS8 := hS7.below hb8'
        have hb08 := below_chain hb07 hb8'
        clear v1_0 v1_1 v1_2 v1_3 v1_4 v1_5 v1_6
        clear hRA' hS7 hb07 hb8 hb8' q1 k1 k3 y0 y1 y2 y3
        obtain ⟨A1, c1, I1, d1, B1, e1, ps1, q1, k1⟩ := hS8.y
        obtain ⟨v1_0, v1_1, v1_2, v1_3, v1_4, v1_5, v1_6⟩ := q1.get7
        obtain ⟨A2, c2, I2, d2, B2, e2, ps2, q2, k2⟩ := hn8
        obtain ⟨v2_0, v2_1, v2_2, v2_3, v2_4, v2_5, v2_6⟩ := q2.get7
        go_wp2_with fail
        generalize w7.alloc (.cells #[.int .i64 ky.most, .slice A3 ky.wait.length c3, .int .i64 ky.batch, .int .i64 ky.every, .int .i64 ky.now, .slice I3 ky.heads.length d3, .slice B3 ps3.length e3] 28) = v7 at *
        refine (hSy _ A1 c1 I1 d1 B1 e1 ps1 A2 c2 I2 d2 B2 e2 ps2 k1 k2).out.mono ?_
        rintro xx w8 ⟨rfl, hb9⟩
        have hS9 := hS8.below hb9
        have hb09 := below_chain hb08 hb9
        clear v1_0 v1_1 v1_2 v1_3 v1_4 v1_5 v1_6
        clear v2_0 v2_1 v2_2 v2_3 v2_4 v2_5 v2_6
        clear hSy hS8 hb08 hb9 q1 k1 q2 k2
        obtain ⟨A1, c1, I1, d1, B1, e1, ps1, q1, k1⟩ := hS9.c
        obtain ⟨v1_0, v1_1, v1_2, v1_3, v1_4, v1_5, v1_6⟩ := q1.get7
        go_wp2_with fail
        refine (hRT'.out _ A1 c1 I1 d1 B1 e1 ps1 k1).mono ?_
        rintro xx w9 ⟨A3, c3, I3, d3, B3, e3, ps3, rfl, k3, hb10⟩
        have hn10 := CB.new (c := c3) (d := d3) (e := e3) k3
        have hb10' := balloc hb10 (.cells #[.int .i64 kz.most, .slice A3 kz.wait.length c3, .int .i64 kz.batch, .int .i64 kz.every, .int .i64 kz.now, .slice I3 kz.heads.length d3, .slice B3 ps3.length e3] 28)
        have hS10 := hS9.below hb10'
        have hb010 := below_chain hb09 hb10'
        clear v1_0 v1_1 v1_2 v1_3 v1_4 v1_5 v1_6
        clear hRT' hS9 hb09 hb10 hb10' q1 k1 k3
        obtain ⟨A1, c1, I1, d1, B1, e1, ps1, q1, k1⟩ := hS10.z
        obtain ⟨v1_0, v1_1, v1_2, v1_3, v1_4, v1_5, v1_6⟩ := q1.get7
        obtain ⟨A2, c2, I2, d2, B2, e2, ps2, q2, k2⟩ := hn10
        obtain ⟨v2_0, v2_1, v2_2, v2_3, v2_4, v2_5, v2_6⟩ := q2.get7
        go_wp2_with fail
        generalize w9.alloc (.cells #[.int .i64 kz.most, .slice A3 kz.wait.length c3, .int .i64 kz.batch, .int .i64 kz.every, .int .i64 kz.now, .slice I3 kz.heads.length d3, .slice B3 ps3.length e3] 28) = v9 at *
        refine (hSz _ A1 c1 I1 d1 B1 e1 ps1 A2 c2 I2 d2 B2 e2 ps2 k1 k2).out.mono ?_
        rintro xx w10 ⟨rfl, hb11⟩
        have hS11 := hS10.below hb11
        have hb011 := below_chain hb010 hb11
        clear v1_0 v1_1 v1_2 v1_3 v1_4 v1_5 v1_6
        clear v2_0 v2_1 v2_2 v2_3 v2_4 v2_5 v2_6
        clear hSz hS10 hb010 hb11 q1 k1 q2 k2
        obtain ⟨A1, c1, I1, d1, B1, e1, ps1, q1, k1⟩ := hS11.c
        have hpl : ps1.length = k.books.length := by rw [← k1.bq, bks_length]
        have e3 := HL.out
        unfold bookAns at e3
        rw [HBD.out, if_pos rfl] at e3
        by_cases hr : ep < 0 ∨ (k.books.length : Int) ≤ ep
        case pos =>
          rw [if_pos hr, Prod.mk.injEq] at e3
          obtain ⟨rfl, rfl⟩ := e3
          cases c1' : decide (ep < 0) with
          | true =>
            clear HL HBD HFT hpl hr
            obtain ⟨u0, u1, u2, u3, u4, u5, u6⟩ := q1.get7
            go_wp2
            go_ret
            exact ⟨rfl, hb011⟩
          | false =>
            have c2' : decide ((ps1.length : Int) ≤ ep) = true := decide_eq_true (by rw [hpl]; have := of_decide_eq_false c1'; omega)
            clear HL HBD HFT hpl hr
            obtain ⟨u0, u1, u2, u3, u4, u5, u6⟩ := q1.get7
            go_wp2
            go_ret
            exact ⟨rfl, hb011⟩
        case neg =>
          rw [if_neg hr, Prod.mk.injEq] at e3
          obtain ⟨hTT, rfl⟩ := e3
          obtain ⟨i, rfl⟩ : ∃ i : Nat, ep = (i : Int) := ⟨ep.toNat, by omega⟩
          have hi : i < ps1.length := by omega
          rw [Int.toNat_natCast, List.getElem?_eq_getElem (by omega), Option.getD_some] at hTT
          have hT2 : ps1[i].2.2 = T := by
            rw [← hTT, ← bks_get ps1 i hi]
            congr 1
            exact k1.bq
          have hTm : T.length ≤ maxLen := by rw [← hTT]; exact (HFT.out.e _ (List.getElem_mem _)).1
          obtain ⟨gB, oB, hBe, jB, rB⟩ := k1.bk.get i hi
          rw [hT2] at jB rB
          subst hBe
          generalize ps1[i].1 = P1 at *
          generalize ps1[i].2.1 = P2 at *
          have hEq := fun (w : World) h1 h2 => Lib.hid (eqEnts Dl P1 dl P2 T T w hTm true (decide_eq_true rfl) h1 h2)
          have i0 : (0 : Int) ≤ (i : Int) := by omega
          have i1 : (i : Int) < (ps1.length : Int) := by omega
          have c1' : decide ((i : Int) < 0) = false := decide_eq_false (by omega)
          have c2' : decide ((ps1.length : Int) ≤ (i : Int)) = false := decide_eq_false (by omega)
          have c3' : decide (ps1.length ≤ i) = false := decide_eq_false (by omega)
          have hll := hS11.l
          clear HL HBD HFT hpl hr hTT hT2 hTm hi hS11 k1
          obtain ⟨u0, u1, u2, u3, u4, u5, u6⟩ := q1.get7
          go_wp2_with fail
          refine (hEq _ hll rB).out.mono ?_
          rintro xx w11 ⟨rfl, m11, hw11⟩
          subst hw11
          go_wp2
          go_ret
          exact ⟨rfl, below_chain hb011 (below_of_drewN _ _ _)⟩

set_option maxRecDepth 100000 in
theorem clerkTells_lifted (os : Os) (started : os.Started) (H : Type) (enc : TypeId × Value → H) :
    ReturnsInHanded {} Tryz.checked os 3 .any (Rows.clerkTellsSpec.pre6 enc Tryz.prog Tryz.f3 Rows.clerkTellsRow.domain false) (Rows.clerkTellsSpec.post enc Tryz.prog Tryz.f3 false true false false) := by
  refine returnsInHanded_of_change (C := Tryz.checked) own started (by kernel_rfl) Tryz.func3
    (ChangeSpec.witness6 (enc := enc) (C := Tryz.checked) false ⟨#[], #[.int .i64 0, .int .i64 0, .int .i64 0, .agg #[.int .i64 0, .slice none 0 0, .int .i64 0, .int .i64 0, .int .i64 0, .slice none 0 0, .slice none 0 0], .agg #[.string ⟨#[]⟩, .string ⟨#[]⟩, .int .u64 0, .int .u64 0], .int .i64 0], []⟩ 8 (by kernel_rfl) (by kernel_rfl) (by kernel_rfl) (by kernel_rfl)) ?_
  intro W base args ds gs before hval0 hW hcnd _
  have hval : ∀ (j : Nat) t v, Tryz.f3.params[j]? = some t → args[j]? = some v → Value.okWide Tryz.prog W .any base t v := hval0
  have hW' := hW
  obtain ⟨p, q, hA0, hV, rfl, hfz, hnd⟩ := hW
  have hA : DataW.TrodAll enc Tryz.prog W 0 (fun _ => true) true Tryz.f3.params.toList args.toList ds p := hA0
  rw [Tryz.params3] at hA hval
  obtain ⟨v0, vs0, d0, ds0, p0, q0, hargs, rfl, rfl, h0, r0⟩ := trodAll_cons hA
  obtain ⟨v1, vs1, d1, ds1, p1, q1, rfl, rfl, rfl, h1, r1⟩ := trodAll_cons r0
  obtain ⟨v2, vs2, d2, ds2, p2, q2, rfl, rfl, rfl, h2, r2⟩ := trodAll_cons r1
  obtain ⟨v3, vs3, d3, ds3, p3, q3, rfl, rfl, rfl, h3, r3⟩ := trodAll_cons r2
  obtain ⟨v4, vs4, d4, ds4, p4, q4, rfl, rfl, rfl, h4, r4⟩ := trodAll_cons r3
  obtain ⟨v5, vs5, d5, ds5, p5, q5, rfl, rfl, rfl, h5, r5⟩ := trodAll_cons r4
  obtain ⟨rfl, rfl, rfl⟩ := trodAll_nil r5
  obtain rfl : args = #[v0, v1, v2, v3, v4, v5] := by cases args; simp_all
  obtain ⟨rfl, rfl⟩ := trodVars_none hV
  obtain ⟨x0, rfl, hx0, hy0⟩ := arg_i64 (hval 0 3 v0 rfl rfl) h0
  obtain ⟨x1, rfl, hx1, hy1⟩ := arg_i64 (hval 1 3 v1 rfl rfl) h1
  obtain ⟨x2, rfl, hx2, hy2⟩ := arg_i64 (hval 2 3 v2 rfl rfl) h2
  obtain ⟨m3, ba3, ev3, nw3, A3, I3, B3, c3, dd3, e3, s3, g3, bs3, rfl, hi3, hq3, hh3, hk3⟩ := arg_clerk (hval 3 28 v3 rfl rfl) h3
  obtain ⟨n4, w4, x4, t4, rfl, hn4, hw4, hx4, ht4⟩ := arg_ask (hval 4 31 v4 rfl rfl) h4
  obtain ⟨x5, rfl, hx5, hy5⟩ := arg_int64 (hval 5 2 v5 rfl rfl) h5
  refine (clerkTells_walk x0 x1 x2 ⟨m3, s3, ba3, ev3, nw3, g3, bks bs3⟩ (fit_of hq3.1 (fun x hx => (hq3.2.2.2.2 x hx).1) hh3.1 hk3.1 (fun p hp => (hk3.2.2.2.2 p hp).1)) A3 c3 I3 dd3 B3 e3 bs3 n4 w4 x4 t4 x5 W hn4 hw4 ⟨rfl, hq3.2.1, hh3.2.1, hk3.2.1⟩).mono fun e W' ⟨he, hb⟩ => ?_
  subst he
  exact ⟨_, rfl, post_law laidOut (by decide +kernel) rfl Tryz.underlying4 (by kernel_rfl) hW' rfl hb⟩

/-- The statement. -/
theorem clerkTells_said : Rows.ClerkTellsSaid :=
  OpenClaim.holds_of_wide 3 Tryz.f3 rfl rfl rfl rfl rfl rfl rfl ⟨rfl, rfl, rfl, rfl, rfl⟩ rfl rfl rfl rfl rfl (by kernel_rfl) Tryz.func3 (by kernel_rfl)
    (of_decide_eq_true (by kernel_rfl)) (by unfold Func.isWrapper; first | (rw [if_pos (by decide +kernel)]; kernel_rfl) | (rw [if_neg (by decide +kernel)]; exact ⟨rfl, rfl⟩))
    (fun os started H enc _ => clerkTells_lifted os started H enc)
#print axioms clerkTells_said
end Go.Proofs.YtjcockcilkiggaaGreat
