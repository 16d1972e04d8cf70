/- The law ClerkOwn returns true: servers that are passed as arguments are not modified, and results share no memory with them. No conditions: true for all arguments within the form's own reach. -/
import Derived.Test.YtjcockcilkiggaaJ39
import Derived.Test.YtjcockcilkiggaaORowsJ
import Derived.Test.YtjcockcilkiggaaRefOwnClerkSJ
import Derived.Test.YtjcockcilkiggaaRefSameClerkSJ
import Derived.Test.YtjcockcilkiggaaClerkSizedJ
import Derived.Test.YtjcockcilkiggaaAsksJ
import Derived.Deep.DeepCutAuto
namespace Go.Proofs.Ytjcockcilkiggaa
set_option maxRecDepth 100000
open Go.ChangeShapes Go.WideShapes Go.ChangeAt Go.RowKit

def OwnAk (w : World) (x : Ending) (w' : World) : Prop :=
  ∃ (m ba ev nw due r : Int) (nl nh : Nat) (D : Option Addr) (d : Nat) (E : Option Addr) (f : Nat) (F : Option Addr) (h : Nat) (qs : List Bp), x = .returned (.tuple #[.agg #[.int .i64 m, .slice D nl d, .int .i64 ba, .int .i64 ev, .int .i64 nw, .slice E nh f, .slice F qs.length h], .int .i64 due, .int .i64 r]) ∧ OwnZ w' w.heap.size 20 (.slice D nl d) nl (.slice E nh f) nh (.slice F qs.length h) qs ∧ (nl ≤ 31 ∧ nh ≤ 41 ∧ qs.length ≤ 41 ∧ ∀ p ∈ qs, p.2.2.length ≤ 24) ∧ Below w.heap.size w w'
def OwnTk (w : World) (x : Ending) (w' : World) : Prop :=
  ∃ (m ba ev nw r : Int) (o : Bool) (nl nh : Nat) (D : Option Addr) (d : Nat) (E : Option Addr) (f : Nat) (F : Option Addr) (h : Nat) (qs : List Bp), x = .returned (.tuple #[.agg #[.int .i64 m, .slice D nl d, .int .i64 ba, .int .i64 ev, .int .i64 nw, .slice E nh f, .slice F qs.length h], .bool o, .int .i64 r]) ∧ OwnZ w' w.heap.size 20 (.slice D nl d) nl (.slice E nh f) nh (.slice F qs.length h) qs ∧ (nl ≤ 31 ∧ nh ≤ 41 ∧ qs.length ≤ 41 ∧ ∀ p ∈ qs, p.2.2.length ≤ 24) ∧ Below w.heap.size w w'
def OwnBk (w : World) (x : Ending) (w' : World) : Prop := ∃ (D : Option Addr) (n d : Nat) (r : Int), x = .returned (.tuple #[.slice D n d, .int .i64 r]) ∧ ORow w' w.heap.size 48 2 1 n (.slice D n d) (isS 20) ∧ n ≤ 24 ∧ Below w.heap.size w w'
theorem clerk_cells {W : World} {p b : Nat} {v0 v1 v2 v3 v4 v5 v6 : Value} (h : W.ownsRow b 28 7 (.slice (some ⟨p, 0, none⟩) 1 1) 1 [v0, v1, v2, v3, v4, v5, v6]) :
    W.cell? ⟨p, 0, none⟩ = some v0 ∧ W.cell? ⟨p, 1, none⟩ = some v1 ∧ W.cell? ⟨p, 2, none⟩ = some v2 ∧ W.cell? ⟨p, 3, none⟩ = some v3 ∧ W.cell? ⟨p, 4, none⟩ = some v4 ∧ W.cell? ⟨p, 5, none⟩ = some v5 ∧ W.cell? ⟨p, 6, none⟩ = some v6 := by
  obtain ⟨g, off, e, hc⟩ := Row.ownN h (by simp)
  injection e with e
  injection e with e1 e2 _
  subst e1
  subst e2
  exact ⟨hc 0 (by simp), hc 1 (by simp), hc 2 (by simp), hc 3 (by simp), hc 4 (by simp), hc 5 (by simp), hc 6 (by simp)⟩
theorem bk_cell {W : World} {B : Option Addr} {qs : List Bp} (h : Row W B (bkcells qs)) {k : Nat} (hk : k < qs.length) :
    ∃ g off, B = some ⟨g, off, none⟩ ∧ W.cell? ⟨g, off + k, none⟩ = some (.slice qs[k].1 qs[k].2.2.length qs[k].2.1) := by
  obtain ⟨g, off, e, hc⟩ := h (by rw [bkcells_length]; omega)
  refine ⟨g, off, e, ?_⟩
  rw [hc k (by rw [bkcells_length]; exact hk)]
  simp [bkcells]
set_option maxHeartbeats 16000000 in
theorem clerkOwn_core (most ba ev nw : Int) (l : List Ak) (hs : List Hd) (ps : List Bp) (A H B : Option Addr) (c d e : Nat) (na va : Bytes) (nu tg : Nat) (ep : Int) (w : World) (hl : l.length * 48 ≤ 140737488351232) (hh : hs.length * 32 ≤ 140737488351232) (hp : ps.length * 24 ≤ 140737488351232) (hpb : ∀ p ∈ ps, p.2.2.length * 32 ≤ 140737488351232)
    (hA : Row w A (qcells l)) (hH : Row w H (hcells hs)) (hB : Books w B ps)
    (hAk : ∀ w : World, Row w A (qcells l) → Row w H (hcells hs) → Books w B ps → Hid (Calls Try.prog 8 #[.agg #[.int .i64 most, .slice A l.length c, .int .i64 ba, .int .i64 ev, .int .i64 nw, .slice H hs.length d, .slice B ps.length e], .agg #[.string (S na), .string (S va), .int .u64 (nu : Int), .int .u64 (tg : Int)]] w (OwnAk w)))
    (hTk : ∀ w : World, Row w A (qcells l) → Row w H (hcells hs) → Books w B ps → Hid (Calls Try.prog 9 #[.agg #[.int .i64 most, .slice A l.length c, .int .i64 ba, .int .i64 ev, .int .i64 nw, .slice H hs.length d, .slice B ps.length e]] w (OwnTk w)))
    (hBk : ∀ w : World, Row w A (qcells l) → Row w H (hcells hs) → Books w B ps → Hid (Calls Try.prog 11 #[.agg #[.int .i64 most, .slice A l.length c, .int .i64 ba, .int .i64 ev, .int .i64 nw, .slice H hs.length d, .slice B ps.length e], .int .i64 ep] w (OwnBk w))) :
    Calls Try.prog 5 #[.agg #[.int .i64 most, .slice A l.length c, .int .i64 ba, .int .i64 ev, .int .i64 nw, .slice H hs.length d, .slice B ps.length e], .agg #[.string (S na), .string (S va), .int .u64 (nu : Int), .int .u64 (tg : Int)], .int .i64 ep] w fun e w' => e = .returned (.bool true) ∧ Below w.heap.size w w' := by
  have hJ := fun w => Lib.hid (clerks w)
  have hOw := fun (w : World) h1 h2 h3 => Lib.hid (refOwnClerkS most ba ev nw l hs ps A H B c d e w hl hh hp hpb h1 h2 h3)
  have hb0 := balloc (balloc (Below.refl w.heap.size w) (.cells #[.int .i64 most, .slice A l.length c, .int .i64 ba, .int .i64 ev, .int .i64 nw, .slice H hs.length d, .slice B ps.length e] 28)) (.cells #[.string (S na), .string (S va), .int .u64 (nu : Int), .int .u64 (tg : Int)] 35)
  have x0 := (Bx.new w _ rfl _ [.int .i64 most, .slice A l.length c, .int .i64 ba, .int .i64 ev, .int .i64 nw, .slice H hs.length d, .slice B ps.length e] 28 rfl).alloc (.cells #[.string (S na), .string (S va), .int .u64 (nu : Int), .int .u64 (tg : Int)] 35)
  have z0 := Bx.new (w.alloc (.cells #[.int .i64 most, .slice A l.length c, .int .i64 ba, .int .i64 ev, .int .i64 nw, .slice H hs.length d, .slice B ps.length e] 28)) (w.heap.size + 1) (by simp) _ [.string (S na), .string (S va), .int .u64 (nu : Int), .int .u64 (tg : Int)] 35 rfl
  have HSZ : Hid (l.length * 48 ≤ 140737488351232 ∧ hs.length * 32 ≤ 140737488351232 ∧ ps.length * 24 ≤ 140737488351232 ∧ ∀ p ∈ ps, p.2.2.length * 32 ≤ 140737488351232) := ⟨hl, hh, hp, hpb⟩
  clear hl hh hp hpb
  go_enter Try.func5, Try.ntmps5
  go_wp2_with fail
  refine (hJ _).out.mono ?_
  rintro xx w1 ⟨rfl, hb1⟩
  have hb01 := below_chain hb0 hb1
  have x1 := x0.below hb1
  have z1 := z0.below hb1
  obtain ⟨a0, a1, a2, a3, a4, a5, a6⟩ := x1.get7
  go_wp2_with fail
  refine (hOw _ (hA.below hb01) (hH.below hb01) (hB.below hb01)).out.mono ?_
  rintro xx w2 ⟨D0, d0, E0, f0, F0, h0, qs0, rfl, hqs0, hO0, hb2⟩
  have hbAl := balloc hb2 (.cells #[.int .i64 most, .slice D0 l.length d0, .int .i64 ba, .int .i64 ev, .int .i64 nw, .slice E0 hs.length f0, .slice F0 qs0.length h0] 28)
  have xA := x1.below hbAl
  have zA := z1.below hbAl
  have bA := Bx.new w2 _ rfl _ [.int .i64 most, .slice D0 l.length d0, .int .i64 ba, .int .i64 ev, .int .i64 nw, .slice E0 hs.length f0, .slice F0 qs0.length h0] 28 rfl
  have hOA := hO0.below (balloc (Below.refl _ _) (.cells #[.int .i64 most, .slice D0 l.length d0, .int .i64 ba, .int .i64 ev, .int .i64 nw, .slice E0 hs.length f0, .slice F0 qs0.length h0] 28))
  have hqA := Row.ownN hOA.q
  have hhA := Row.ownN hOA.hd
  have hkA := hOA.books
  have hbX := below_chain hb01 hbAl
  have hSm := fun (w : World) h1 h2 h3 h4 h5 h6 => Lib.hid (refSameClerkS most ba ev nw l hs ps qs0 A D0 H E0 B F0 c d0 d f0 e h0 w HSZ.out.1 HSZ.out.2.1 HSZ.out.2.2.1 HSZ.out.2.2.2 hqs0.symm h1 h2 h3 h4 h5 h6)
  obtain ⟨p7, hp7⟩ : ∃ p7, w2.heap.size = p7 := ⟨_, rfl⟩
  rw [hp7] at bA
  have HP7 := Lib.hid hp7
  have HQ0 := Lib.hid hqs0
  clear a0 a1 a2 a3 a4 a5 a6 x0 z0 x1 z1 hJ hOw hb0 hb1 hb01 hO0 hb2 hbAl hOA hp7 hqs0
  obtain ⟨a0, a1, a2, a3, a4, a5, a6⟩ := xA.get7
  obtain ⟨⟨r0, r1, r2, r3⟩, _⟩ := zA.get4
  go_wp2_with fail
  try rw [HP7.out]
  generalize (w2.alloc (.cells #[.int .i64 most, .slice D0 l.length d0, .int .i64 ba, .int .i64 ev, .int .i64 nw, .slice E0 hs.length f0, .slice F0 qs0.length h0] 28)) = wA at *
  refine (hAk _ (hA.below hbX) (hH.below hbX) (hB.below hbX)).out.mono ?_
  rintro xx w3 ⟨mx, bax, evx, nwx, duex, rx, nlx, nhx, Dx, dx, Ex, fx, Fx, hx, qsx, rfl, hX3, ⟨sx1, sx2, sx3, sx4⟩, hb3⟩
  obtain ⟨b, hbb⟩ : ∃ b, wA.heap.size = b := ⟨_, rfl⟩
  have HQx := Lib.hid sx3
  have HLx := Lib.hid sx1
  have HHx := Lib.hid sx2
  have HNx := Lib.hid sx4
  have hb34 := balloc hb3 (.cells #[.int .i64 mx, .slice Dx nlx dx, .int .i64 bax, .int .i64 evx, .int .i64 nwx, .slice Ex nhx fx, .slice Fx qsx.length hx] 28)
  have hX4 := hX3.below (balloc (Below.refl _ _) (.cells #[.int .i64 mx, .slice Dx nlx dx, .int .i64 bax, .int .i64 evx, .int .i64 nwx, .slice Ex nhx fx, .slice Fx qsx.length hx] 28))
  have t8 := Bx.new w3 _ rfl _ [.int .i64 mx, .slice Dx nlx dx, .int .i64 bax, .int .i64 evx, .int .i64 nwx, .slice Ex nhx fx, .slice Fx qsx.length hx] 28 rfl
  have x4 := xA.below hb34
  obtain ⟨p8, hp8⟩ : ∃ p8, w3.heap.size = p8 := ⟨_, rfl⟩
  rw [hp8] at t8
  have HP8 := Lib.hid hp8
  clear a0 a1 a2 a3 a4 a5 a6 r0 r1 r2 r3 zA hAk hX3 hp8 sx4 sx3
  obtain ⟨a0, a1, a2, a3, a4, a5, a6⟩ := x4.get7
  go_wp2_with fail
  try rw [HP8.out]
  generalize (w3.alloc (.cells #[.int .i64 mx, .slice Dx nlx dx, .int .i64 bax, .int .i64 evx, .int .i64 nwx, .slice Ex nhx fx, .slice Fx qsx.length hx] 28)) = w4 at *
  refine (hTk _ (hA.below (below_chain hbX hb34)) (hH.below (below_chain hbX hb34)) (hB.below (below_chain hbX hb34))).out.mono ?_
  rintro xx w5 ⟨my, bay, evy, nwy, ry, oy, nly, nhy, Dy, dy, Ey, fy, Fy, hy, qsy, rfl, hY5, ⟨sy1, sy2, sy3, sy4⟩, hb5⟩
  have HQy := Lib.hid sy3
  have HLy := Lib.hid sy1
  have HHy := Lib.hid sy2
  have HNy := Lib.hid sy4
  have hb56 := balloc hb5 (.cells #[.int .i64 my, .slice Dy nly dy, .int .i64 bay, .int .i64 evy, .int .i64 nwy, .slice Ey nhy fy, .slice Fy qsy.length hy] 28)
  have hY6 := hY5.below (balloc (Below.refl _ _) (.cells #[.int .i64 my, .slice Dy nly dy, .int .i64 bay, .int .i64 evy, .int .i64 nwy, .slice Ey nhy fy, .slice Fy qsy.length hy] 28))
  have hX6 := hX4.below hb56
  have t11 := Bx.new w5 _ rfl _ [.int .i64 my, .slice Dy nly dy, .int .i64 bay, .int .i64 evy, .int .i64 nwy, .slice Ey nhy fy, .slice Fy qsy.length hy] 28 rfl
  have t86 := t8.below hb56
  have hb36 := below_chain hb34 hb56
  have x6 := xA.below hb36
  obtain ⟨p11, hp11⟩ : ∃ p11, w5.heap.size = p11 := ⟨_, rfl⟩
  rw [hp11] at t11
  have HP11 := Lib.hid hp11
  have hs34 := hb34.size
  clear a0 a1 a2 a3 a4 a5 a6 x4 hTk hY5 hX4 t8 hp11 sy4 sy3 hb3
  obtain ⟨a0, a1, a2, a3, a4, a5, a6⟩ := x6.get7
  go_wp2_with fail
  try rw [HP11.out]
  generalize (w5.alloc (.cells #[.int .i64 my, .slice Dy nly dy, .int .i64 bay, .int .i64 evy, .int .i64 nwy, .slice Ey nhy fy, .slice Fy qsy.length hy] 28)) = w6 at *
  refine (hBk _ (hA.below (below_chain hbX hb36)) (hH.below (below_chain hbX hb36)) (hB.below (below_chain hbX hb36))).out.mono ?_
  rintro xx w7 ⟨Dt, nt, dt, rt, rfl, hT7, hnt, hb7⟩
  have hb37 := below_chain hb36 hb7
  have x7 := xA.below hb37
  have b7 := bA.below hb37
  have t87 := t86.below hb7
  have t117 := t11.below hb7
  have hX7 := hX6.below hb7
  have hY7 := hY6.below hb7
  have hs36 := hb36.size
  clear a0 a1 a2 a3 a4 a5 a6 x6 hBk hX6 hY6 t86 t11
  obtain ⟨a0, a1, a2, a3, a4, a5, a6⟩ := x7.get7
  obtain ⟨b0, b1, b2, b3, b4, b5, b6⟩ := b7.get7
  go_wp2_with fail
  refine (hSm _ (hA.below (below_chain hbX hb37)) (hqA.below hb37) (hH.below (below_chain hbX hb37)) (hhA.below hb37) (hB.below (below_chain hbX hb37)) (hkA.below hb37)).out.mono ?_
  rintro xx w8 ⟨rfl, hb8⟩
  have t88 := t87.below hb8
  have t118 := t117.below hb8
  have hX8 := (hX7.below hb8).mono (by omega : b ≤ _)
  have hY8 := (hY7.below hb8).mono (by omega : b ≤ _)
  have hT8 := (hT7.below hb8).mono (by omega : b ≤ _)
  have hbw8 : Below b wA w8 := by rw [← hbb]; exact below_chain hb37 hb8
  have hbA : b ≤ wA.heap.size := by omega
  have hbS : wA.heap.size ≤ b := by omega
  have HBS := Lib.hid hbS
  clear a0 a1 a2 a3 a4 a5 a6 b0 b1 b2 b3 b4 b5 b6 x7 b7 t87 t117 hX7 hY7 hT7 hs34 hs36 hb34 hb56 hb36 hb5 hb7 hb37 hb8 sx1 sx2 sy1 sy2 hbb
  obtain ⟨a0, a1, a2, a3, a4, a5, a6⟩ := t88.get7
  obtain ⟨b0, b1, b2, b3, b4, b5, b6⟩ := t118.get7
  go_wp2
  clear a0 a1 a2 a3 a4 a5 a6 b0 b1 b2 b3 b4 b5 b6 t88 t118
  go_loopw [54] (fun i wr => ∃ j : Nat, j ≤ 2 ∧ i = .int .i64 j ∧ OwnZ wr b (20 + 2000 * j) (.slice Dx nlx dx) nlx (.slice Ex nhx fx) nhx (.slice Fx qsx.length hx) qsx ∧ OwnZ wr b (20 + 2000 * j) (.slice Dy nly dy) nly (.slice Ey nhy fy) nhy (.slice Fy qsy.length hy) qsy ∧ ORow wr b 48 2 1 nt (.slice Dt nt dt) (isS (20 + 2000 * j)) ∧ Below b wA wr) (fun i _ => 2 - (intOf i).toNat)
  case atStart => exact ⟨0, by omega, rfl, hX8, hY8, hT8, hbw8⟩
  case round =>
    clear hX8 hY8 hT8 hbw8
    obtain ⟨j, hj, rfl, hX, hY, hT, hbw⟩ := hrel
    obtain rfl | rfl | rfl : j = 0 ∨ j = 1 ∨ j = 2 := by omega
    · simp only [Nat.mul_zero, Nat.add_zero] at hX hY hT
      have hix : ∀ w : World, (Instr.index 58 (.agg #[.int .i64 mx, .slice Dx nlx dx, .int .i64 bax, .int .i64 evx, .int .i64 nwx, .slice Ex nhx fx, .slice Fx qsx.length hx, .int .i64 my, .slice Dy nly dy, .int .i64 bay, .int .i64 evy, .int .i64 nwy, .slice Ey nhy fy, .slice Fy qsy.length hy]) (.int .i64 0)).run Try.prog w = .ok (.agg #[.int .i64 mx, .slice Dx nlx dx, .int .i64 bax, .int .i64 evx, .int .i64 nwx, .slice Ex nhx fx, .slice Fx qsx.length hx]) w := fun _ => by kernel_rfl
      have hb18 := balloc (Below.refl wr.heap.size wr) (.cells #[.int .i64 mx, .slice Dx nlx dx, .int .i64 bax, .int .i64 evx, .int .i64 nwx, .slice Ex nhx fx, .slice Fx qsx.length hx] 28)
      have r18 := clerk_row wr [.int .i64 mx, .slice Dx nlx dx, .int .i64 bax, .int .i64 evx, .int .i64 nwx, .slice Ex nhx fx, .slice Fx qsx.length hx] rfl
      replace hX := hX.below hb18
      replace hY := hY.below hb18
      replace hT := hT.below hb18
      replace hbw := hbw.alloc (Nat.le_trans hbA hbw.size) (.cells #[.int .i64 mx, .slice Dx nlx dx, .int .i64 bax, .int .i64 evx, .int .i64 nwx, .slice Ex nhx fx, .slice Fx qsx.length hx] 28)
      obtain ⟨p18, hp18⟩ : ∃ p18, wr.heap.size = p18 := ⟨_, rfl⟩
      rw [hp18] at r18
      have HP18 := Lib.hid hp18
      obtain ⟨c0, c1, c2, c3, c4, c5, c6⟩ := clerk_cells r18
      clear hb18 hp18
      go_upto_region 11 with fail
      try rw [HP18.out]
      generalize (wr.alloc (.cells #[.int .i64 mx, .slice Dx nlx dx, .int .i64 bax, .int .i64 evx, .int .i64 nwx, .slice Ex nhx fx, .slice Fx qsx.length hx] 28)) = w18 at *
      go_wp2
      clear c0 c1 c2 c3 c4 c5 c6 hix
      go_loopw [60] (fun i wq => ∃ m : Nat, m ≤ nhx ∧ i = .int .i64 m ∧ OwnZ wq b 20 (.slice Dx nlx dx) nlx (.slice Ex nhx fx) nhx (.slice Fx qsx.length hx) qsx ∧ OwnZ wq b 20 (.slice Dy nly dy) nly (.slice Ey nhy fy) nhy (.slice Fy qsy.length hy) qsy ∧ ORow wq b 48 2 1 nt (.slice Dt nt dt) (isS 20) ∧ wq.ownsRow p18 28 7 (.slice (some ⟨p18, 0, none⟩) 1 1) 1 [.int .i64 mx, .slice Dx nlx dx, .int .i64 bax, .int .i64 evx, .int .i64 nwx, .slice Ex nhx fx, .slice Fx qsx.length hx] ∧ Below b wA wq) (fun i _ => nhx - (intOf i).toNat)
      case atStart => exact ⟨0, Nat.zero_le _, rfl, hX, hY, hT, r18, hbw⟩
      case round =>
        clear hX hY hT r18 hbw
        obtain ⟨m, hm, rfl, hX, hY, hT, r18, hbw⟩ := hrel
        obtain ⟨c0, c1, c2, c3, c4, c5, c6⟩ := clerk_cells r18
        by_cases hlt : m < nhx
        · obtain ⟨g, cc, u, ev1, hc1, ⟨t, rfl⟩, hf1, hbg, xs, hrow⟩ := hX.h.get hlt
          injection ev1 with ev1 _ ev2
          subst ev1
          have hnn := HHx.out
          have i0 : (0 : Int) ≤ (m : Int) := by omega
          have i1 : (m : Int) < (nhx : Int) := by omega
          have hS := fun u hu => And.intro (hX.setH hrow (m * 4 + 3) (u := u) hu) (And.intro (hY.setH hrow (m * 4 + 3) (u := u) hu) (And.intro (hT.else hrow (by decide) (m * 4 + 3) u) (And.intro (own_far r18 (own_else r18 hrow (by decide)) (m * 4 + 3) u) (hbw.setCell (p := ⟨g, m * 4 + 3, none⟩) hbg u))))
          have HS := Lib.hid hS
          clear hX hY hT r18 hbw hS hrow
          go_wp2
          go_roundw
          case rel =>
            obtain ⟨k1, k2, k3, k4, k5⟩ := HS.out _ ⟨_, rfl⟩
            exact ⟨m + 1, by omega, by go_num, k1, k2, k3, k4, k5⟩
          case measure => simp [intOf]; omega
        · skip
          go_wp2
          clear hm hlt
          go_loopw [77] (fun i wq => ∃ m : Nat, m ≤ nlx ∧ i = .int .i64 m ∧ OwnZ wq b 20 (.slice Dx nlx dx) nlx (.slice Ex nhx fx) nhx (.slice Fx qsx.length hx) qsx ∧ OwnZ wq b 20 (.slice Dy nly dy) nly (.slice Ey nhy fy) nhy (.slice Fy qsy.length hy) qsy ∧ ORow wq b 48 2 1 nt (.slice Dt nt dt) (isS 20) ∧ wq.ownsRow p18 28 7 (.slice (some ⟨p18, 0, none⟩) 1 1) 1 [.int .i64 mx, .slice Dx nlx dx, .int .i64 bax, .int .i64 evx, .int .i64 nwx, .slice Ex nhx fx, .slice Fx qsx.length hx] ∧ Below b wA wq) (fun i _ => nlx - (intOf i).toNat)
          case atStart => exact ⟨0, Nat.zero_le _, rfl, hX, hY, hT, r18, hbw⟩
          case round =>
            clear hX hY hT r18 hbw c0 c1 c2 c3 c4 c5 c6
            obtain ⟨m, hm, rfl, hX, hY, hT, r18, hbw⟩ := hrel
            obtain ⟨c0, c1, c2, c3, c4, c5, c6⟩ := clerk_cells r18
            by_cases hlt : m < nlx
            · obtain ⟨g, cc, u, ev1, hc1, ⟨t, rfl⟩, hf1, hbg, xs, hrow⟩ := hX.q.get hlt
              injection ev1 with ev1 _ ev2
              subst ev1
              have hnn := HLx.out
              have i0 : (0 : Int) ≤ (m : Int) := by omega
              have i1 : (m : Int) < (nlx : Int) := by omega
              have hS := fun u hu => And.intro (hX.setQ hrow (m * 4 + 2) (u := u) hu) (And.intro (hY.setQ hrow (m * 4 + 2) (u := u) hu) (And.intro (hT.else hrow (by decide) (m * 4 + 2) u) (And.intro (own_far r18 (own_else r18 hrow (by decide)) (m * 4 + 2) u) (hbw.setCell (p := ⟨g, m * 4 + 2, none⟩) hbg u))))
              have HS := Lib.hid hS
              clear hX hY hT r18 hbw hS hrow
              go_wp2
              go_roundw
              case rel =>
                obtain ⟨k1, k2, k3, k4, k5⟩ := HS.out _ ⟨_, rfl⟩
                exact ⟨m + 1, by omega, by go_num, k1, k2, k3, k4, k5⟩
              case measure => simp [intOf]; omega
            · skip
              go_wp2
              clear c0 c1 c2 c3 c4 c5 c6 r18 hm hlt
              go_loopw [94] (fun i wq => ∃ jb : Nat, jb ≤ qsx.length ∧ i = .int .i64 jb ∧ OwnZ wq b (20 + 30 * jb) (.slice Dx nlx dx) nlx (.slice Ex nhx fx) nhx (.slice Fx qsx.length hx) qsx ∧ OwnZ wq b (20 + 30 * jb) (.slice Dy nly dy) nly (.slice Ey nhy fy) nhy (.slice Fy qsy.length hy) qsy ∧ ORow wq b 48 2 1 nt (.slice Dt nt dt) (isS (20 + 30 * jb)) ∧ Below b wA wq) (fun i _ => qsx.length - (intOf i).toNat)
              case atStart => exact ⟨0, Nat.zero_le _, rfl, hX, hY, hT, hbw⟩
              case round =>
                clear hX hY hT hbw
                obtain ⟨jb, hjb, rfl, hX, hY, hT, hbw⟩ := hrel
                by_cases hltb : jb < qsx.length
                · have hpe := List.getElem_mem hltb
                  have hn24 := HNx.out _ hpe
                  obtain ⟨gF, oF, eF, cF⟩ := bk_cell (Row.ownN hX.bk) hltb
                  rw [eF]
                  have j0 : (0 : Int) ≤ (jb : Int) := by omega
                  have j1 : (jb : Int) < (qsx.length : Int) := by omega
                  have hq41 := HQx.out
                  rw [show qsx[jb] = (qsx[jb].1, qsx[jb].2.1, qsx[jb].2.2) from rfl] at hpe
                  generalize qsx[jb].2.2 = T at *
                  generalize qsx[jb].1 = P1 at *
                  generalize qsx[jb].2.1 = P2 at *
                  go_wp2
                  go_loopw [100] (fun i wq => ∃ m : Nat, m ≤ T.length ∧ i = .int .i64 m ∧ OwnZ wq b (20 + 30 * jb + m) (.slice Dx nlx dx) nlx (.slice Ex nhx fx) nhx (.slice Fx qsx.length hx) qsx ∧ OwnZ wq b (20 + 30 * jb + m) (.slice Dy nly dy) nly (.slice Ey nhy fy) nhy (.slice Fy qsy.length hy) qsy ∧ ORow wq b 48 2 1 nt (.slice Dt nt dt) (isS (20 + 30 * jb + m)) ∧ Below b wA wq) (fun i _ => T.length - (intOf i).toNat)
                  case atStart => exact ⟨0, Nat.zero_le _, rfl, hX, hY, hT, hbw⟩
                  case round =>
                    clear hX hY hT hbw
                    obtain ⟨m, hm, rfl, hX, hY, hT, hbw⟩ := hrel
                    by_cases hlt : m < T.length
                    · obtain ⟨g, cc, u, ev1, hc1, ⟨sv, rfl, hsl⟩, hf1, hbg, xs, hrow⟩ := (hX.e (P1, P2, T) hpe).get hlt
                      injection ev1 with ev1 _ ev2
                      subst ev1
                      have i0 : (0 : Int) ≤ (m : Int) := by omega
                      have i1 : (m : Int) < (T.length : Int) := by omega
                      have hsl2 : sv.length ≤ 1000000 := by omega
                      have hS := fun u (hu : isS (20 + 30 * jb + (m + 1)) u) => And.intro ((hX.weak (by omega : 20 + 30 * jb + m ≤ 20 + 30 * jb + (m + 1))).setE hrow (m * 2 + 1) hu) (And.intro ((hY.weak (by omega : 20 + 30 * jb + m ≤ 20 + 30 * jb + (m + 1))).setE hrow (m * 2 + 1) hu) (And.intro ((hT.weak (isS_weak (by omega : 20 + 30 * jb + m ≤ 20 + 30 * jb + (m + 1)))).set g (m * 2 + 1) hu) (hbw.setCell (p := ⟨g, m * 2 + 1, none⟩) hbg u)))
                      have HS := Lib.hid hS
                      have HSV : Hid (isS (20 + 30 * jb + (m + 1)) (.string (S sv ++ ⟨#[33]⟩))) := ⟨sv ++ [33], congrArg Value.string (S_append sv [33]), by simp; omega⟩
                      clear hX hY hT hbw hrow hsl hS
                      go_wp2
                      go_roundw
                      case rel =>
                        obtain ⟨k1, k2, k3, k4⟩ := HS.out _ HSV.out
                        exact ⟨m + 1, by omega, by go_num, k1, k2, k3, k4⟩
                      case measure => simp [intOf]; omega
                    · have hmn : m = T.length := by omega
                      subst hmn
                      go_wp2
                      go_roundw
                      case rel =>
                        rw [← eF]
                        exact ⟨jb + 1, by omega, by go_num, hX.weak (by omega), hY.weak (by omega), hT.weak (isS_weak (by omega : 20 + 30 * jb + T.length ≤ 20 + 30 * (jb + 1))), hbw⟩
                      case measure => simp [intOf]; omega
                · have hje : jb = qsx.length := by omega
                  have hq41 := HQx.out
                  go_wp2
                  go_roundw
                  case rel => exact ⟨1, by omega, by go_num, hX.weak (by omega), hY.weak (by omega), hT.weak (isS_weak (by omega : 20 + 30 * jb ≤ 20 + 2000 * 1)), hbw⟩
                  case measure => simp [intOf]
    · simp only [Nat.mul_one, Nat.reduceAdd] at hX hY hT
      have hix : ∀ w : World, (Instr.index 58 (.agg #[.int .i64 mx, .slice Dx nlx dx, .int .i64 bax, .int .i64 evx, .int .i64 nwx, .slice Ex nhx fx, .slice Fx qsx.length hx, .int .i64 my, .slice Dy nly dy, .int .i64 bay, .int .i64 evy, .int .i64 nwy, .slice Ey nhy fy, .slice Fy qsy.length hy]) (.int .i64 1)).run Try.prog w = .ok (.agg #[.int .i64 my, .slice Dy nly dy, .int .i64 bay, .int .i64 evy, .int .i64 nwy, .slice Ey nhy fy, .slice Fy qsy.length hy]) w := fun _ => by kernel_rfl
      have hb18 := balloc (Below.refl wr.heap.size wr) (.cells #[.int .i64 my, .slice Dy nly dy, .int .i64 bay, .int .i64 evy, .int .i64 nwy, .slice Ey nhy fy, .slice Fy qsy.length hy] 28)
      have r18 := clerk_row wr [.int .i64 my, .slice Dy nly dy, .int .i64 bay, .int .i64 evy, .int .i64 nwy, .slice Ey nhy fy, .slice Fy qsy.length hy] rfl
      replace hX := hX.below hb18
      replace hY := hY.below hb18
      replace hT := hT.below hb18
      replace hbw := hbw.alloc (Nat.le_trans hbA hbw.size) (.cells #[.int .i64 my, .slice Dy nly dy, .int .i64 bay, .int .i64 evy, .int .i64 nwy, .slice Ey nhy fy, .slice Fy qsy.length hy] 28)
      obtain ⟨p18, hp18⟩ : ∃ p18, wr.heap.size = p18 := ⟨_, rfl⟩
      rw [hp18] at r18
      have HP18 := Lib.hid hp18
      obtain ⟨c0, c1, c2, c3, c4, c5, c6⟩ := clerk_cells r18
      clear hb18 hp18
      go_upto_region 11 with fail
      try rw [HP18.out]
      generalize (wr.alloc (.cells #[.int .i64 my, .slice Dy nly dy, .int .i64 bay, .int .i64 evy, .int .i64 nwy, .slice Ey nhy fy, .slice Fy qsy.length hy] 28)) = w18 at *
      go_wp2
      clear c0 c1 c2 c3 c4 c5 c6 hix
      go_loopw [60] (fun i wq => ∃ m : Nat, m ≤ nhy ∧ i = .int .i64 m ∧ OwnZ wq b 2020 (.slice Dx nlx dx) nlx (.slice Ex nhx fx) nhx (.slice Fx qsx.length hx) qsx ∧ OwnZ wq b 2020 (.slice Dy nly dy) nly (.slice Ey nhy fy) nhy (.slice Fy qsy.length hy) qsy ∧ ORow wq b 48 2 1 nt (.slice Dt nt dt) (isS 2020) ∧ wq.ownsRow p18 28 7 (.slice (some ⟨p18, 0, none⟩) 1 1) 1 [.int .i64 my, .slice Dy nly dy, .int .i64 bay, .int .i64 evy, .int .i64 nwy, .slice Ey nhy fy, .slice Fy qsy.length hy] ∧ Below b wA wq) (fun i _ => nhy - (intOf i).toNat)
      case atStart => exact ⟨0, Nat.zero_le _, rfl, hX, hY, hT, r18, hbw⟩
      case round =>
        clear hX hY hT r18 hbw
        obtain ⟨m, hm, rfl, hX, hY, hT, r18, hbw⟩ := hrel
        obtain ⟨c0, c1, c2, c3, c4, c5, c6⟩ := clerk_cells r18
        by_cases hlt : m < nhy
        · obtain ⟨g, cc, u, ev1, hc1, ⟨t, rfl⟩, hf1, hbg, xs, hrow⟩ := hY.h.get hlt
          injection ev1 with ev1 _ ev2
          subst ev1
          have hnn := HHy.out
          have i0 : (0 : Int) ≤ (m : Int) := by omega
          have i1 : (m : Int) < (nhy : Int) := by omega
          have hS := fun u hu => And.intro (hX.setH hrow (m * 4 + 3) (u := u) hu) (And.intro (hY.setH hrow (m * 4 + 3) (u := u) hu) (And.intro (hT.else hrow (by decide) (m * 4 + 3) u) (And.intro (own_far r18 (own_else r18 hrow (by decide)) (m * 4 + 3) u) (hbw.setCell (p := ⟨g, m * 4 + 3, none⟩) hbg u))))
          have HS := Lib.hid hS
          clear hX hY hT r18 hbw hS hrow
          go_wp2
          go_roundw
          case rel =>
            obtain ⟨k1, k2, k3, k4, k5⟩ := HS.out _ ⟨_, rfl⟩
            exact ⟨m + 1, by omega, by go_num, k1, k2, k3, k4, k5⟩
          case measure => simp [intOf]; omega
        · skip
          go_wp2
          clear hm hlt
          go_loopw [77] (fun i wq => ∃ m : Nat, m ≤ nly ∧ i = .int .i64 m ∧ OwnZ wq b 2020 (.slice Dx nlx dx) nlx (.slice Ex nhx fx) nhx (.slice Fx qsx.length hx) qsx ∧ OwnZ wq b 2020 (.slice Dy nly dy) nly (.slice Ey nhy fy) nhy (.slice Fy qsy.length hy) qsy ∧ ORow wq b 48 2 1 nt (.slice Dt nt dt) (isS 2020) ∧ wq.ownsRow p18 28 7 (.slice (some ⟨p18, 0, none⟩) 1 1) 1 [.int .i64 my, .slice Dy nly dy, .int .i64 bay, .int .i64 evy, .int .i64 nwy, .slice Ey nhy fy, .slice Fy qsy.length hy] ∧ Below b wA wq) (fun i _ => nly - (intOf i).toNat)
          case atStart => exact ⟨0, Nat.zero_le _, rfl, hX, hY, hT, r18, hbw⟩
          case round =>
            clear hX hY hT r18 hbw c0 c1 c2 c3 c4 c5 c6
            obtain ⟨m, hm, rfl, hX, hY, hT, r18, hbw⟩ := hrel
            obtain ⟨c0, c1, c2, c3, c4, c5, c6⟩ := clerk_cells r18
            by_cases hlt : m < nly
            · obtain ⟨g, cc, u, ev1, hc1, ⟨t, rfl⟩, hf1, hbg, xs, hrow⟩ := hY.q.get hlt
              injection ev1 with ev1 _ ev2
              subst ev1
              have hnn := HLy.out
              have i0 : (0 : Int) ≤ (m : Int) := by omega
              have i1 : (m : Int) < (nly : Int) := by omega
              have hS := fun u hu => And.intro (hX.setQ hrow (m * 4 + 2) (u := u) hu) (And.intro (hY.setQ hrow (m * 4 + 2) (u := u) hu) (And.intro (hT.else hrow (by decide) (m * 4 + 2) u) (And.intro (own_far r18 (own_else r18 hrow (by decide)) (m * 4 + 2) u) (hbw.setCell (p := ⟨g, m * 4 + 2, none⟩) hbg u))))
              have HS := Lib.hid hS
              clear hX hY hT r18 hbw hS hrow
              go_wp2
              go_roundw
              case rel =>
                obtain ⟨k1, k2, k3, k4, k5⟩ := HS.out _ ⟨_, rfl⟩
                exact ⟨m + 1, by omega, by go_num, k1, k2, k3, k4, k5⟩
              case measure => simp [intOf]; omega
            · skip
              go_wp2
              clear c0 c1 c2 c3 c4 c5 c6 r18 hm hlt
              go_loopw [94] (fun i wq => ∃ jb : Nat, jb ≤ qsy.length ∧ i = .int .i64 jb ∧ OwnZ wq b (2020 + 30 * jb) (.slice Dx nlx dx) nlx (.slice Ex nhx fx) nhx (.slice Fx qsx.length hx) qsx ∧ OwnZ wq b (2020 + 30 * jb) (.slice Dy nly dy) nly (.slice Ey nhy fy) nhy (.slice Fy qsy.length hy) qsy ∧ ORow wq b 48 2 1 nt (.slice Dt nt dt) (isS (2020 + 30 * jb)) ∧ Below b wA wq) (fun i _ => qsy.length - (intOf i).toNat)
              case atStart => exact ⟨0, Nat.zero_le _, rfl, hX, hY, hT, hbw⟩
              case round =>
                clear hX hY hT hbw
                obtain ⟨jb, hjb, rfl, hX, hY, hT, hbw⟩ := hrel
                by_cases hltb : jb < qsy.length
                · have hpe := List.getElem_mem hltb
                  have hn24 := HNy.out _ hpe
                  obtain ⟨gF, oF, eF, cF⟩ := bk_cell (Row.ownN hY.bk) hltb
                  rw [eF]
                  have j0 : (0 : Int) ≤ (jb : Int) := by omega
                  have j1 : (jb : Int) < (qsy.length : Int) := by omega
                  have hq41 := HQy.out
                  rw [show qsy[jb] = (qsy[jb].1, qsy[jb].2.1, qsy[jb].2.2) from rfl] at hpe
                  generalize qsy[jb].2.2 = T at *
                  generalize qsy[jb].1 = P1 at *
                  generalize qsy[jb].2.1 = P2 at *
                  go_wp2
                  go_loopw [100] (fun i wq => ∃ m : Nat, m ≤ T.length ∧ i = .int .i64 m ∧ OwnZ wq b (2020 + 30 * jb + m) (.slice Dx nlx dx) nlx (.slice Ex nhx fx) nhx (.slice Fx qsx.length hx) qsx ∧ OwnZ wq b (2020 + 30 * jb + m) (.slice Dy nly dy) nly (.slice Ey nhy fy) nhy (.slice Fy qsy.length hy) qsy ∧ ORow wq b 48 2 1 nt (.slice Dt nt dt) (isS (2020 + 30 * jb + m)) ∧ Below b wA wq) (fun i _ => T.length - (intOf i).toNat)
                  case atStart => exact ⟨0, Nat.zero_le _, rfl, hX, hY, hT, hbw⟩
                  case round =>
                    clear hX hY hT hbw
                    obtain ⟨m, hm, rfl, hX, hY, hT, hbw⟩ := hrel
                    by_cases hlt : m < T.length
                    · obtain ⟨g, cc, u, ev1, hc1, ⟨sv, rfl, hsl⟩, hf1, hbg, xs, hrow⟩ := (hY.e (P1, P2, T) hpe).get hlt
                      injection ev1 with ev1 _ ev2
                      subst ev1
                      have i0 : (0 : Int) ≤ (m : Int) := by omega
                      have i1 : (m : Int) < (T.length : Int) := by omega
                      have hsl2 : sv.length ≤ 1000000 := by omega
                      have hS := fun u (hu : isS (2020 + 30 * jb + (m + 1)) u) => And.intro ((hX.weak (by omega : 2020 + 30 * jb + m ≤ 2020 + 30 * jb + (m + 1))).setE hrow (m * 2 + 1) hu) (And.intro ((hY.weak (by omega : 2020 + 30 * jb + m ≤ 2020 + 30 * jb + (m + 1))).setE hrow (m * 2 + 1) hu) (And.intro ((hT.weak (isS_weak (by omega : 2020 + 30 * jb + m ≤ 2020 + 30 * jb + (m + 1)))).set g (m * 2 + 1) hu) (hbw.setCell (p := ⟨g, m * 2 + 1, none⟩) hbg u)))
                      have HS := Lib.hid hS
                      have HSV : Hid (isS (2020 + 30 * jb + (m + 1)) (.string (S sv ++ ⟨#[33]⟩))) := ⟨sv ++ [33], congrArg Value.string (S_append sv [33]), by simp; omega⟩
                      clear hX hY hT hbw hrow hsl hS
                      go_wp2
                      go_roundw
                      case rel =>
                        obtain ⟨k1, k2, k3, k4⟩ := HS.out _ HSV.out
                        exact ⟨m + 1, by omega, by go_num, k1, k2, k3, k4⟩
                      case measure => simp [intOf]; omega
                    · have hmn : m = T.length := by omega
                      subst hmn
                      go_wp2
                      go_roundw
                      case rel =>
                        rw [← eF]
                        exact ⟨jb + 1, by omega, by go_num, hX.weak (by omega), hY.weak (by omega), hT.weak (isS_weak (by omega : 2020 + 30 * jb + T.length ≤ 2020 + 30 * (jb + 1))), hbw⟩
                      case measure => simp [intOf]; omega
                · have hje : jb = qsy.length := by omega
                  have hq41 := HQy.out
                  go_wp2
                  go_roundw
                  case rel => exact ⟨2, by omega, by go_num, hX.weak (by omega), hY.weak (by omega), hT.weak (isS_weak (by omega : 2020 + 30 * jb ≤ 20 + 2000 * 2)), hbw⟩
                  case measure => simp [intOf]
    · simp only [Nat.reduceMul, Nat.reduceAdd] at hX hY hT
      go_wp2
      go_loopw [116] (fun i wq => ∃ m : Nat, m ≤ nt ∧ i = .int .i64 m ∧ OwnZ wq b (4020 + m) (.slice Dx nlx dx) nlx (.slice Ex nhx fx) nhx (.slice Fx qsx.length hx) qsx ∧ OwnZ wq b (4020 + m) (.slice Dy nly dy) nly (.slice Ey nhy fy) nhy (.slice Fy qsy.length hy) qsy ∧ ORow wq b 48 2 1 nt (.slice Dt nt dt) (isS (4020 + m)) ∧ Below b wA wq) (fun i _ => nt - (intOf i).toNat)
      case atStart => exact ⟨0, Nat.zero_le _, rfl, hX, hY, hT, hbw⟩
      case round =>
        clear hX hY hT hbw
        obtain ⟨m, hm, rfl, hX, hY, hT, hbw⟩ := hrel
        by_cases hlt : m < nt
        · obtain ⟨g, cc, u, ev1, hc1, ⟨sv, rfl, hsl⟩, hf1, hbg, xs, hrow⟩ := (hT).get hlt
          injection ev1 with ev1 _ ev2
          subst ev1
          have i0 : (0 : Int) ≤ (m : Int) := by omega
          have i1 : (m : Int) < (nt : Int) := by omega
          have hsl2 : sv.length ≤ 1000000 := by omega
          have hS := fun u (hu : isS (4020 + (m + 1)) u) => And.intro ((hX.weak (by omega : 4020 + m ≤ 4020 + (m + 1))).setE hrow (m * 2 + 1) hu) (And.intro ((hY.weak (by omega : 4020 + m ≤ 4020 + (m + 1))).setE hrow (m * 2 + 1) hu) (And.intro ((hT.weak (isS_weak (by omega : 4020 + m ≤ 4020 + (m + 1)))).set g (m * 2 + 1) hu) (hbw.setCell (p := ⟨g, m * 2 + 1, none⟩) hbg u)))
          have HS := Lib.hid hS
          have HSV : Hid (isS (4020 + (m + 1)) (.string (S sv ++ ⟨#[33]⟩))) := ⟨sv ++ [33], congrArg Value.string (S_append sv [33]), by simp; omega⟩
          clear hX hY hT hbw hrow hsl hS
          go_wp2
          go_roundw
          case rel =>
            obtain ⟨k1, k2, k3, k4⟩ := HS.out _ HSV.out
            exact ⟨m + 1, by omega, by go_num, k1, k2, k3, k4⟩
          case measure => simp [intOf]; omega
        · have hmn : m = nt := by omega
          subst hmn
          have hbw' : Below wA.heap.size wA _ := hbw.mono hbS
          have hA9 := hA.below (below_chain hbX hbw')
          have hI9 := hH.below (below_chain hbX hbw')
          have hB9 := hB.below (below_chain hbX hbw')
          have x9 := xA.below hbw'
          have b9 := bA.below hbw'
          obtain ⟨e0, e1, e2, e3, e4, e5, e6⟩ := x9.get7
          obtain ⟨e0', e1', e2', e3', e4', e5', e6'⟩ := b9.get7
          go_wp2_with fail
          refine (hSm _ hA9 (hqA.below hbw') hI9 (hhA.below hbw') hB9 (hkA.below hbw')).out.mono ?_
          rintro xx v9 ⟨rfl, hb9⟩
          go_wp2
          go_ret
          exact ⟨rfl, below_chain (below_chain hbX hbw') hb9⟩
theorem zero_ak {r : Int} {w : World} {x : Ending} {w' : World} (h : ClerkNo r w x w') : OwnAk w x w' := by
  obtain ⟨rfl, hb⟩ := h
  exact ⟨0, 0, 0, 0, 0, r, 0, 0, none, 0, none, 0, none, 0, [], rfl, OwnZ.nil _ _ _, ⟨by omega, by omega, by simp, by simp⟩, hb⟩
theorem zero_tk {r : Int} {w : World} {x : Ending} {w' : World} (h : TickNo r w x w') : OwnTk w x w' := by
  obtain ⟨rfl, hb⟩ := h
  exact ⟨0, 0, 0, 0, r, false, 0, 0, none, 0, none, 0, none, 0, [], rfl, OwnZ.nil _ _ _, ⟨by omega, by omega, by simp, by simp⟩, hb⟩
theorem ak_own {k : Ck} (hg : CkGood k) {due : Int} {w : World} {x : Ending} {w' : World} (h : AkGives k due w x w') : OwnAk w x w' := by
  obtain ⟨D, d, E, f, F, h, qs, rfl, hq, hO, hb⟩ := h
  have hs := ck_small hg qs hq
  have := hs.q
  have := hs.h
  have := hs.b
  exact ⟨k.most, k.batch, k.every, k.now, due, 0, k.wait.length, k.heads.length, D, d, E, f, F, h, qs, rfl, OwnZ.of hO (fun p hp x hx => ((hs.e p hp).2 x hx).2), ⟨by omega, by omega, by omega, fun p hp => (hs.e p hp).1⟩, hb⟩
theorem tk_own {k : Ck} (hg : CkGood k) {o : Bool} {w : World} {x : Ending} {w' : World} (h : TkGives k o w x w') : OwnTk w x w' := by
  obtain ⟨D, d, E, f, F, h, qs, rfl, hq, hO, hb⟩ := h
  have hs := ck_small hg qs hq
  have := hs.q
  have := hs.h
  have := hs.b
  exact ⟨k.most, k.batch, k.every, k.now, 0, o, k.wait.length, k.heads.length, D, d, E, f, F, h, qs, rfl, OwnZ.of hO (fun p hp x hx => ((hs.e p hp).2 x hx).2), ⟨by omega, by omega, by omega, fun p hp => (hs.e p hp).1⟩, hb⟩
theorem bk_own {T : List Ent} {r : Int} (hT : T.length ≤ 24) (hL : ∀ x ∈ T, x.2.length ≤ 20) {w : World} {x : Ending} {w' : World} (h : BkGives T r w x w') : OwnBk w x w' := by
  obtain ⟨D, d, rfl, hO, hb⟩ := h
  exact ⟨D, T.length, d, r, rfl, ORow.ents hO hL, hT, hb⟩
theorem clerkOwn_walk (m ba ev nw : Int) (A I B : Option Addr) (c d e : Nat) (l : List Ak) (hs : List Hd) (bs : List Bp) (na va : Bytes) (nu tg : Nat) (ep : Int) (w : World)
    (hz : l.length * 48 ≤ 140737488351232 ∧ hs.length * 32 ≤ 140737488351232 ∧ bs.length * 24 ≤ 140737488351232 ∧ ∀ p ∈ bs, p.2.2.length * 32 ≤ 140737488351232)
    (hq : l.length ≤ maxLen ∧ Row w A (qcells l) ∧ l.length ≤ c ∧ c ≤ maxLen ∧ (∀ x ∈ l, (x.1.length ≤ maxLen ∧ x.2.1.length ≤ maxLen) ∧ x.2.2.1 < 18446744073709551616 ∧ x.2.2.2 < 18446744073709551616))
    (hh : hs.length ≤ maxLen ∧ Row w I (hcells hs) ∧ hs.length ≤ d ∧ d ≤ maxLen ∧ (∀ x ∈ hs, (-9223372036854775808 ≤ x.1 ∧ x.1 ≤ 9223372036854775807) ∧ x.2.1 < 18446744073709551616 ∧ x.2.2.1 < 18446744073709551616 ∧ (-9223372036854775808 ≤ x.2.2.2 ∧ x.2.2.2 ≤ 9223372036854775807)))
    (hk : bs.length ≤ maxLen ∧ Books w B bs ∧ bs.length ≤ e ∧ e ≤ maxLen ∧ ∀ p ∈ bs, (p.2.2.length ≤ maxLen ∧ ∀ x ∈ p.2.2, x.1.length ≤ maxLen ∧ x.2.length ≤ maxLen) ∧ p.2.2.length ≤ p.2.1)
    (hna : na.length ≤ maxLen) (hva : va.length ≤ maxLen) :
    Calls Try.prog 5 #[.agg #[.int .i64 m, .slice A l.length c, .int .i64 ba, .int .i64 ev, .int .i64 nw, .slice I hs.length d, .slice B bs.length e], .agg #[.string (S na), .string (S va), .int .u64 (nu : Int), .int .u64 (tg : Int)], .int .i64 ep] w fun e w' => e = .returned (.bool true) ∧ Below w.heap.size w w' := by
  have hlf : ∀ x ∈ l, AkFits x := fun x hx => (hq.2.2.2.2 x hx).1
  have hpb : ∀ p ∈ bs, p.2.2.length ≤ maxLen ∧ ∀ x ∈ p.2.2, x.1.length ≤ maxLen ∧ x.2.length ≤ maxLen := fun p hp => (hk.2.2.2.2 p hp).1
  obtain ⟨⟨T, r⟩, hTr⟩ : ∃ u, bookAns ⟨m, l, ba, ev, nw, hs, bks bs⟩ ep = u := ⟨_, rfl⟩
  have hT24 : T.length ≤ 24 ∧ ∀ x ∈ T, x.2.length ≤ 20 := by
    unfold bookAns at hTr
    split at hTr
    · rename_i h0
      have hg := (ckfault_ok _).1 h0
      split at hTr
      · rw [Prod.mk.injEq] at hTr
        rw [← hTr.1]
        simp
      · rename_i h1
        rw [Prod.mk.injEq] at hTr
        dsimp only at h1 hTr
        have hi : ep.toNat < (bks bs).length := by omega
        rw [List.getElem?_eq_getElem hi, Option.getD_some] at hTr
        have hfm := hg.form
        unfold formBad at hfm
        dsimp only at hfm
        have := (hg.each ep.toNat hi (by dsimp only; omega)).1
        dsimp only at this
        rw [hTr.1] at this
        exact ⟨this.len, this.value⟩
    · rw [Prod.mk.injEq] at hTr
      rw [← hTr.1]
      simp
  have hBk := fun (w : World) g1 g2 g3 => Lib.hid ((clerkBook m ba ev nw l hs bs A I B c d e ep w hq.1 hlf hh.1 hk.1 hpb g1 g2 g3 T r hTr).mono fun _ _ h => bk_own hT24.1 hT24.2 h)
  by_cases h0 : ckfault ⟨m, l, ba, ev, nw, hs, bks bs⟩ = 0
  · have hg := (ckfault_ok _).1 h0
    have hTk := fun (w : World) g1 g2 g3 => Lib.hid ((clerkTickG ⟨m, l, ba, ev, nw, hs, bks bs⟩ A I B c d e bs rfl w hg g1 g2 g3 _ _ rfl).mono fun _ _ h => tk_own (ckTick_good hg) h)
    by_cases h1 : ckAskErr ⟨m, l, ba, ev, nw, hs, bks bs⟩ na va = 0
    · exact clerkOwn_core m ba ev nw l hs bs A I B c d e na va nu tg ep w hz.1 hz.2.1 hz.2.2.1 hz.2.2.2 hq.2.1 hh.2.1 hk.2.1
        (fun w g1 g2 g3 => Lib.hid ((clerkAskG_ok ⟨m, l, ba, ev, nw, hs, bks bs⟩ A I B c d e bs rfl na va nu tg w hna hva hg g1 g2 g3 h1 _ rfl _ rfl).mono fun _ _ h => ak_own (ckAsked_good hg h1) h)) hTk hBk
    · exact clerkOwn_core m ba ev nw l hs bs A I B c d e na va nu tg ep w hz.1 hz.2.1 hz.2.2.1 hz.2.2.2 hq.2.1 hh.2.1 hk.2.1
        (fun w g1 g2 g3 => Lib.hid ((clerkAskG_no ⟨m, l, ba, ev, nw, hs, bks bs⟩ A I B c d e bs rfl na va nu tg w hna hva hg g1 g2 g3 _ rfl h1).mono fun _ _ h => zero_ak h)) hTk hBk
  · exact clerkOwn_core m ba ev nw l hs bs A I B c d e na va nu tg ep w hz.1 hz.2.1 hz.2.2.1 hz.2.2.2 hq.2.1 hh.2.1 hk.2.1
      (fun w g1 g2 g3 => Lib.hid ((clerkAsk_fault m ba ev nw l hs bs A I B c d e na va nu tg w hq.1 hlf hh.1 hk.1 hpb g1 g2 g3 _ rfl h0).mono fun _ _ h => zero_ak h))
      (fun w g1 g2 g3 => Lib.hid ((clerkTick_fault m ba ev nw l hs bs A I B c d e w hq.1 hlf hh.1 hk.1 hpb g1 g2 g3 _ rfl h0).mono fun _ _ h => zero_tk h)) hBk
set_option maxRecDepth 100000 in
theorem clerkOwn_lifted (os : Os) (started : os.Started) (H : Type) (enc : TypeId × Value → H) :
    ReturnsInHanded {} Try.checked os 5 .any (Rows.clerkOwnSpec.pre6 enc Try.prog Try.f5 Rows.clerkOwnRow.domain false) (Rows.clerkOwnSpec.post enc Try.prog Try.f5 false true false false) := by
  refine returnsInHanded_of_change_sized (C := Try.checked) own started (by kernel_rfl) Try.func5
    (ChangeSpec.witness6 (enc := enc) (C := Try.checked) false ⟨#[], #[.agg #[.int .i64 0, .slice none 0 0, .int .i64 0, .int .i64 0, .int .i64 0, .slice none 0 0, .slice none 0 0], .agg #[.string ⟨#[]⟩, .string ⟨#[]⟩, .int .u64 0, .int .u64 0], .int .i64 0], []⟩ 8 (by kernel_rfl) (by kernel_rfl) (by kernel_rfl) (by kernel_rfl)) ?_
  intro W base args ds gs before hval0 hW hcnd hsz _
  have hval : ∀ (j : Nat) t v, Try.f5.params[j]? = some t → args[j]? = some v → Value.okWide Try.prog W .any base t v := hval0
  have hW' := hW
  obtain ⟨p, q, hA0, hV, rfl, hfz, hnd⟩ := hW
  have hA : DataW.TrodAll enc Try.prog W 0 (fun _ => true) true Try.f5.params.toList args.toList ds p := hA0
  rw [Try.params5] at hA hval
  obtain ⟨v0, vs0, d0, ds0, p0, q0, hargs, rfl, rfl, h0, r0⟩ := trodAll_cons hA
  obtain ⟨v1, vs1, d1, ds1, p1, q1, rfl, rfl, rfl, h1, r1⟩ := trodAll_cons r0
  obtain ⟨v2, vs2, d2, ds2, p2, q2, rfl, rfl, rfl, h2, r2⟩ := trodAll_cons r1
  obtain ⟨rfl, rfl, rfl⟩ := trodAll_nil r2
  obtain rfl : args = #[v0, v1, v2] := by cases args; simp_all
  obtain ⟨rfl, rfl⟩ := trodVars_none hV
  rw [Try.params5] at hsz
  obtain ⟨m0, ba0, ev0, nw0, A0, I0, B0, c0, dd0, e0, s0, g0, bs0, rfl, hz0, hq0, hh0, hk0⟩ := arg_clerk_sized (j := 0) hsz rfl rfl (hval 0 28 v0 rfl rfl) h0
  obtain ⟨n1, w1, x1, t1, rfl, hn1, hw1, hx1, ht1⟩ := arg_ask (hval 1 35 v1 rfl rfl) h1
  obtain ⟨x2, rfl, hx2, hy2⟩ := arg_int64 (hval 2 2 v2 rfl rfl) h2
  refine (clerkOwn_walk m0 ba0 ev0 nw0 A0 I0 B0 c0 dd0 e0 s0 g0 bs0 n1 w1 x1 t1 x2 W hz0 hq0 hh0 hk0 hn1 hw1).mono fun e W' ⟨he, hb⟩ => ?_
  subst he
  exact ⟨_, rfl, post_law laidOut (by decide +kernel) rfl Try.underlying4 (by kernel_rfl) hW' rfl hb⟩

/-- The statement. -/
theorem clerkOwn_said : Rows.ClerkOwnSaid :=
  OpenClaim.holds_of_wide 5 Try.f5 rfl rfl rfl rfl rfl rfl rfl ⟨rfl, rfl, rfl, rfl, rfl⟩ rfl rfl rfl rfl rfl (by kernel_rfl) Try.func5 (by kernel_rfl)
    (of_decide_eq_true (by kernel_rfl)) (by unfold Func.isWrapper; first | (rw [if_pos (by decide +kernel)]; kernel_rfl) | (rw [if_neg (by decide +kernel)]; exact ⟨rfl, rfl⟩))
    (fun os started H enc _ => clerkOwn_lifted os started H enc)
#print axioms clerkOwn_said
end Go.Proofs.Ytjcockcilkiggaa
