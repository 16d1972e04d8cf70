/- Package chain: Clash. It writes nothing that was there. -/
import Derived.Test.YthkhafgcpmoalaaChainFork
import Derived.Test.YthkhafgcpmoalaaBackHeads
import Derived.Deep.RegionHeld3
import Derived.Test.YthkhafgcpmoalaaRoundHeld
import Derived.Sort.CutIn
namespace Go.Proofs.Ythkhafgcpmoalaa
set_option maxRecDepth 100000
open Go.RowKit Go.Shelf
attribute [local go_sem] Oper.semAt_some

/-- The four variables of Clash that lie in memory: the second list and the three results. -/
structure CB (W : World) (g : Nat) (v0 v1 v2 v3 : Value) : Prop where
  b0 : Boxed W g 22 v0
  b1 : Boxed W (g + 1) 9 v1
  b2 : Boxed W (g + 1 + 1) 9 v2
  b3 : Boxed W (g + 1 + 1 + 1) 26 v3
section
variable {W W' : World} {g : Nat} {v0 v1 v2 v3 : Value}
theorem CB.below (h : CB W g v0 v1 v2 v3) (hb : Below W.heap.size W W') : CB W' g v0 v1 v2 v3 := ⟨boxed_below h.b0 hb, boxed_below h.b1 hb, boxed_below h.b2 hb, boxed_below h.b3 hb⟩
theorem CB.set0 (h : CB W g v0 v1 v2 v3) (v : Value) : CB (W.setCell ⟨g, 0, none⟩ v) g v v1 v2 v3 := ⟨h.b0.set v, h.b1.other (by omega) v, h.b2.other (by omega) v, h.b3.other (by omega) v⟩
theorem CB.set1 (h : CB W g v0 v1 v2 v3) (v : Value) : CB (W.setCell ⟨g + 1, 0, none⟩ v) g v0 v v2 v3 := ⟨h.b0.other (by omega) v, h.b1.set v, h.b2.other (by omega) v, h.b3.other (by omega) v⟩
theorem CB.set2 (h : CB W g v0 v1 v2 v3) (v : Value) : CB (W.setCell ⟨g + 1 + 1, 0, none⟩ v) g v0 v1 v v3 := ⟨h.b0.other (by omega) v, h.b1.other (by omega) v, h.b2.set v, h.b3.other (by omega) v⟩
theorem CB.set3 (h : CB W g v0 v1 v2 v3) (v : Value) : CB (W.setCell ⟨g + 1 + 1 + 1, 0, none⟩ v) g v0 v1 v2 v := ⟨h.b0.other (by omega) v, h.b1.other (by omega) v, h.b2.other (by omega) v, h.b3.set v⟩
theorem CB.set123 (h : CB W g v0 v1 v2 v3) (x y z : Value) : CB (((W.setCell ⟨g + 1, 0, none⟩ x).setCell ⟨g + 1 + 1, 0, none⟩ y).setCell ⟨g + 1 + 1 + 1, 0, none⟩ z) g v0 x y z := ((h.set1 x).set2 y).set3 z
theorem CB.cells (h : CB W g v0 v1 v2 v3) : (W.cell? ⟨g, 0, none⟩ = some v0 ∧ W.cell? ⟨g + 1, 0, none⟩ = some v1 ∧ W.cell? ⟨g + 1 + 1, 0, none⟩ = some v2 ∧ W.cell? ⟨g + 1 + 1 + 1, 0, none⟩ = some v3) ∧
    (W.frozen? ⟨g, 0, none⟩ = false ∧ W.frozen? ⟨g + 1, 0, none⟩ = false ∧ W.frozen? ⟨g + 1 + 1, 0, none⟩ = false ∧ W.frozen? ⟨g + 1 + 1 + 1, 0, none⟩ = false) :=
  ⟨⟨h.b0.cell, h.b1.cell, h.b2.cell, h.b3.cell⟩, ⟨h.b0.frozen, h.b1.frozen, h.b2.frozen, h.b3.frozen⟩⟩
theorem CB.own {β : Type} (g : Nat) (f0 f1 f2 f3 : β → Value) : Own (fun (s : β) W => CB W g (f0 s) (f1 s) (f2 s) (f3 s)) := fun s X Y row hs hg hr =>
  ⟨boxed_own g _ f0 s X Y row hs.b0 hg hr, boxed_own (g + 1) _ f1 s X Y row hs.b1 hg hr, boxed_own (g + 1 + 1) _ f2 s X Y row hs.b2 hg hr, boxed_own (g + 1 + 1 + 1) _ f3 s X Y row hs.b3 hg hr⟩
theorem CB.new (w : World) (v : Value) : CB ((((w.alloc (.cells #[v] 22)).alloc (.cells #[.string ⟨#[]⟩] 9)).alloc (.cells #[.string ⟨#[]⟩] 9)).alloc (.cells #[.int .i64 0] 26)) w.heap.size v (.string ⟨#[]⟩) (.string ⟨#[]⟩) (.int .i64 0) := by
  refine ⟨(((Boxed.new w _ v).alloc _).alloc _).alloc _, ?_, ?_, ?_⟩
  · have := ((Boxed.new (w.alloc (.cells #[v] 22)) 9 (.string ⟨#[]⟩)).alloc (.cells #[.string ⟨#[]⟩] 9)).alloc (.cells #[.int .i64 0] 26)
    rwa [World.size_alloc] at this
  · have := (Boxed.new ((w.alloc (.cells #[v] 22)).alloc (.cells #[.string ⟨#[]⟩] 9)) 9 (.string ⟨#[]⟩)).alloc (.cells #[.int .i64 0] 26)
    rwa [World.size_alloc, World.size_alloc] at this
  · have := Boxed.new (((w.alloc (.cells #[v] 22)).alloc (.cells #[.string ⟨#[]⟩] 9)).alloc (.cells #[.string ⟨#[]⟩] 9)) 26 (.int .i64 0)
    rwa [World.size_alloc, World.size_alloc, World.size_alloc] at this
theorem below_new4 (w : World) (a b c d : Obj) : Below w.heap.size w ((((w.alloc a).alloc b).alloc c).alloc d) := balloc (balloc (balloc (balloc (Below.refl _ _) a) b) c) d
theorem below_set123 {w W : World} (h : Below w.heap.size w W) (x y z : Value) : Below w.heap.size w (((W.setCell ⟨w.heap.size + 1, 0, none⟩ x).setCell ⟨w.heap.size + 1 + 1, 0, none⟩ y).setCell ⟨w.heap.size + 1 + 1 + 1, 0, none⟩ z) :=
  ((h.setCell (p := ⟨w.heap.size + 1, 0, none⟩) (by show _ ≤ _ + 1; omega) x).setCell (p := ⟨w.heap.size + 1 + 1, 0, none⟩) (by show _ ≤ _ + 1 + 1; omega) y).setCell (p := ⟨w.heap.size + 1 + 1 + 1, 0, none⟩) (by show _ ≤ _ + 1 + 1 + 1; omega) z
end

set_option maxHeartbeats 1000000 in
theorem chainClash_no (A B : Option Addr) (c d : Nat) (a b : List Hd) (w : World) (hma : a.length ≤ maxLen) (hmb : b.length ≤ maxLen) (hA : Row w A (hcells a)) (hB : Row w B (hcells b)) (r : Int) (hr : comErr a b = r) (h0 : r ≠ 0) :
    Calls Try.prog 22 #[.slice A a.length c, .slice B b.length d] w fun e w' => e = .returned (.tuple #[.string ⟨#[]⟩, .string ⟨#[]⟩, .int .i64 r]) ∧ Below w.heap.size w w' := by
  have hC := fun (w : World) hA hB => Lib.hid (chainCommon_no A B c d a b w hma hmb hA hB r hr h0)
  have c1 : (r == 0) = false := beq_eq_false_iff_ne.2 h0
  have hn := CB.new w (.slice B b.length d)
  have hb := below_new4 w (.cells #[.slice B b.length d] 22) (.cells #[.string ⟨#[]⟩] 9) (.cells #[.string ⟨#[]⟩] 9) (.cells #[.int .i64 0] 26)
  clear hr h0
  go_enter Try.func22, Try.ntmps22
  go_wp2_with fail
  generalize (((w.alloc (.cells #[.slice B b.length d] 22)).alloc (.cells #[.string ⟨#[]⟩] 9)).alloc (.cells #[.string ⟨#[]⟩] 9)).alloc (.cells #[.int .i64 0] 26) = v at *
  refine (hC _ (hA.below hb) (hB.below hb)).out.mono ?_
  rintro e w1 ⟨rfl, hb1⟩
  have hn1 := hn.below hb1
  have hb' := below_chain hb hb1
  obtain ⟨⟨z0, z1, z2, z3⟩, f0, f1, f2, f3⟩ := hn1.cells
  clear hC hA hB hn hb hb1
  have hn2 := (hn1.set0 (.slice none 0 0)).set123 (.string ⟨#[]⟩) (.string ⟨#[]⟩) (.int .i64 r)
  have hb2 := below_set123 (hb'.setCell (p := ⟨w.heap.size, 0, none⟩) (Nat.le_refl _) (.slice none 0 0)) (.string ⟨#[]⟩) (.string ⟨#[]⟩) (.int .i64 r)
  clear hn1 hb'
  go_wp2
  obtain ⟨⟨z0, z1, z2, z3⟩, -⟩ := hn2.cells
  refine bodyPost_ret (v := .tuple #[.string ⟨#[]⟩, .string ⟨#[]⟩, .int .i64 r]) ?_ rfl ⟨rfl, hb2⟩
  simp [results, Try.f22, go_sem, z1, z2, z3]

theorem ComOk.good {a b : List Hd} (k : ComOk a b) : CGood (comA a b) ∧ CGood (comB a b) := by
  obtain ⟨h1, h2⟩ := k.parts
  obtain ⟨_, _, e3, e4⟩ := h1.spot
  obtain ⟨_, _, _, f4⟩ := h2.spot
  exact ⟨k.g.part _ _ e3 e4, k.h.part _ _ e3 f4⟩

set_option maxHeartbeats 2000000 in
theorem chainClash_mark (A B : Option Addr) (c d : Nat) (a b : List Hd) (w : World) (hca : a.length ≤ c) (hcm : c ≤ maxLen) (hdb : b.length ≤ d) (hdm : d ≤ maxLen) (hA : Row w A (hcells a)) (hB : Row w B (hcells b)) (k : ComOk a b) (hm : decide (hmark (lastH (comA a b)) = hmark (lastH (comB a b))) = false) :
    Calls Try.prog 22 #[.slice A a.length c, .slice B b.length d] w fun e w' => e = .returned (.tuple #[.string ⟨#[]⟩, .string ⟨#[]⟩, .int .i64 8]) ∧ Below w.heap.size w w' := by
  have hC := fun (w : World) hA hB => Lib.hid (chainCommon_ok A B c d a b w hca hcm hdb hdm hA hB k)
  obtain ⟨hn0, hn40, hs, ht⟩ := k.len
  obtain ⟨gS, gT⟩ := k.good
  generalize comA a b = S at *
  generalize comB a b = T at *
  generalize comLen a b = n at *
  obtain ⟨⟨a1, a2, a3, a4⟩, hla⟩ : ∃ x, lastH S = x := ⟨_, rfl⟩
  obtain ⟨⟨b1, b2, b3, b4⟩, hlb⟩ : ∃ x, lastH T = x := ⟨_, rfl⟩
  have hga := lastH_good gS
  have hgb := lastH_good gT
  rw [hla] at hga hm
  rw [hlb] at hgb hm
  have hL : ∀ (W : World) (A' : Option Addr) (c' : Nat), Row W A' (hcells S) → Hid (Calls Try.prog 31 #[.slice A' n c'] W fun e w' => e = .returned (.agg #[.int .i64 a1, .int .u64 (a2 : Int), .int .u64 (a3 : Int), .int .i64 a4]) ∧ Below W.heap.size W w') := fun W A' c' h => by
    have := chainLast A' c' S W gS.pos (by unfold maxLen; omega) h a1 a2 a3 a4 hla
    rw [hs] at this
    exact Lib.hid this
  have hM : ∀ (W : World) (A' : Option Addr) (c' : Nat), Row W A' (hcells T) → Hid (Calls Try.prog 31 #[.slice A' n c'] W fun e w' => e = .returned (.agg #[.int .i64 b1, .int .u64 (b2 : Int), .int .u64 (b3 : Int), .int .i64 b4]) ∧ Below W.heap.size W w') := fun W A' c' h => by
    have := chainLast A' c' T W gT.pos (by unfold maxLen; omega) h b1 b2 b3 b4 hlb
    rw [ht] at this
    exact Lib.hid this
  have hK := fun w => Lib.hid (chainAlike a1 a2 a3 a4 b1 b2 b3 b4 w hga hgb false hm)
  have hn := CB.new w (.slice B b.length d)
  have hb := below_new4 w (.cells #[.slice B b.length d] 22) (.cells #[.string ⟨#[]⟩] 9) (.cells #[.string ⟨#[]⟩] 9) (.cells #[.int .i64 0] 26)
  clear k hca hcm hdb hdm hga hgb hla hlb hm
  go_enter Try.func22, Try.ntmps22
  go_wp2_with fail
  generalize (((w.alloc (.cells #[.slice B b.length d] 22)).alloc (.cells #[.string ⟨#[]⟩] 9)).alloc (.cells #[.string ⟨#[]⟩] 9)).alloc (.cells #[.int .i64 0] 26) = v at *
  refine (hC _ (hA.below hb) (hB.below hb)).out.mono ?_
  rintro e w1 ⟨A', B', c', d', rfl, hS, hT, -, -, -, -, hb1⟩
  have hn1 := hn.below hb1
  have hb' := below_chain hb hb1
  obtain ⟨⟨z0, z1, z2, z3⟩, f0, f1, f2, f3⟩ := hn1.cells
  have hS2 := hS.setFar ⟨w.heap.size, 0, none⟩ _ _ _ (.slice B' n d') z0
  have hT2 := hT.setFar ⟨w.heap.size, 0, none⟩ _ _ _ (.slice B' n d') z0
  have hn2 := hn1.set0 (.slice B' n d')
  have hb2 := hb'.setCell (p := ⟨w.heap.size, 0, none⟩) (Nat.le_refl _) (.slice B' n d')
  clear hC hA hB hn hb hb1 hn1 hb' hS hT z1 z2 z3 f1 f2 f3
  go_wp2_with fail
  clear z0 f0
  generalize w1.setCell ⟨w.heap.size, 0, none⟩ (.slice B' n d') = w2 at *
  have y0 := hn2.b0.cell
  have hb9 : Below w2.heap.size w2 w2.drew := bdrew (Below.refl _ _)
  have hL' : ∀ W : World, (W.cell? ⟨w.heap.size, 0, none⟩ = some (.slice B' n d') ∧ Below w2.heap.size w2 W) → Hid (Calls Try.prog 31 #[.slice A' n c'] W fun e w' => e = .returned (.agg #[.int .i64 a1, .int .u64 (a2 : Int), .int .u64 (a3 : Int), .int .i64 a4]) ∧ w'.cell? ⟨w.heap.size, 0, none⟩ = some (.slice B' n d') ∧ Below w2.heap.size w2 w') := fun W ⟨q1, q2⟩ => by
    show Calls _ _ _ _ _
    refine (hL W A' c' (hS2.below q2)).out.mono ?_
    rintro e w' ⟨rfl, hb⟩
    exact ⟨rfl, kept q1 hb, below_chain q2 hb⟩
  have hM' : ∀ W : World, (W.cell? ⟨w.heap.size, 0, none⟩ = some (.slice B' n d') ∧ Below w2.heap.size w2 W) → Hid (Calls Try.prog 31 #[.slice B' n d'] W fun e w' => e = .returned (.agg #[.int .i64 b1, .int .u64 (b2 : Int), .int .u64 (b3 : Int), .int .i64 b4]) ∧ w'.cell? ⟨w.heap.size, 0, none⟩ = some (.slice B' n d') ∧ Below w2.heap.size w2 w') := fun W ⟨q1, q2⟩ => by
    show Calls _ _ _ _ _
    refine (hM W B' d' (hT2.below q2)).out.mono ?_
    rintro e w' ⟨rfl, hb⟩
    exact ⟨rfl, kept q1 hb, below_chain q2 hb⟩
  have hK' : ∀ W : World, (W.cell? ⟨w.heap.size, 0, none⟩ = some (.slice B' n d') ∧ Below w2.heap.size w2 W) → Hid (Calls Try.prog 36 #[.agg #[.int .i64 a1, .int .u64 (a2 : Int), .int .u64 (a3 : Int), .int .i64 a4], .agg #[.int .i64 b1, .int .u64 (b2 : Int), .int .u64 (b3 : Int), .int .i64 b4]] W fun e w' => e = .returned (.bool false) ∧ w'.cell? ⟨w.heap.size, 0, none⟩ = some (.slice B' n d') ∧ Below w2.heap.size w2 w') := fun W ⟨q1, q2⟩ => by
    show Calls _ _ _ _ _
    refine (hK W).out.mono ?_
    rintro e w' ⟨rfl, hb⟩
    exact ⟨rfl, kept q1 hb, below_chain q2 hb⟩
  clear hL hM hK
  go_region_held3 (fun w' => w'.cell? ⟨w.heap.size, 0, none⟩ = some (.slice B' n d') ∧ Below w2.heap.size w2 w') (first | exact ⟨y0, hb9⟩ | exact ⟨by assumption, by assumption⟩ | go_keep)
    (first | (go_at_call_of 31 A'; refine (hL' _ ?_).out.mono ?_; (first | exact ⟨by assumption, by assumption⟩); rintro e w3 ⟨rfl, k1, k2⟩) | (go_at_call_of 31 B'; refine (hM' _ ?_).out.mono ?_; (first | exact ⟨by assumption, by assumption⟩); rintro e w3 ⟨rfl, k1, k2⟩) | (go_at_call 36; refine (hK' _ ?_).out.mono ?_; (first | exact ⟨by assumption, by assumption⟩); rintro e w3 ⟨rfl, k3, k4⟩))
  have hn3 := hn2.below k4
  have hbw3 := below_chain hb2 k4
  obtain ⟨⟨z0, z1, z2, z3⟩, f0, f1, f2, f3⟩ := hn3.cells
  have hn4 := hn3.set123 (.string ⟨#[]⟩) (.string ⟨#[]⟩) (.int .i64 8)
  have hb4 := below_set123 hbw3 (.string ⟨#[]⟩) (.string ⟨#[]⟩) (.int .i64 8)
  clear hn2 hn3 hbw3 hb2 k3 k4 hL' hM' hK' hS2 hT2 hb9 y0
  go_wp2
  obtain ⟨⟨z0, z1, z2, z3⟩, -⟩ := hn4.cells
  refine bodyPost_ret (v := .tuple #[.string ⟨#[]⟩, .string ⟨#[]⟩, .int .i64 8]) ?_ rfl ⟨rfl, hb4⟩
  simp [results, Try.f22, go_sem, z1, z2, z3]

theorem boxed_ne {W : World} {B b o : Nat} {t : TypeId} {v x : Value} (h : Boxed W B t v) (hc : W.cell? ⟨b, o + 1, none⟩ = some x) : B ≠ b := by
  rintro rfl
  simp [World.cell?, show W.heap[B]? = _ from h] at hc
/-- A Boolean that tells whether something holds. -/
def Tells (b : Bool) (p : Prop) : Prop := b = true ↔ p
/-- What Clash answers where the ends are alike: that both lists are one, or the texts of the last heads that differ. -/
def ClashGives (S T : List Hd) (w : World) (e : Ending) (w' : World) : Prop :=
  ((S = T ∧ e = .returned (.tuple #[.string ⟨#[]⟩, .string ⟨#[]⟩, .int .i64 6])) ∨
    ∃ (k : Nat) (h1 : k < S.length) (h2 : k < T.length), S[k] ≠ T[k] ∧ (∀ (j : Nat) (i1 : j < S.length) (i2 : j < T.length), k < j → S[j] = T[j]) ∧ e = .returned (.tuple #[.string (Proofs.Ythkhafgcpmoalaa.S (hsaid S[k])), .string (Proofs.Ythkhafgcpmoalaa.S (hsaid T[k])), .int .i64 0])) ∧ Below w.heap.size w w'
set_option maxHeartbeats 8000000 in
theorem chainClash_yes (A B : Option Addr) (c d : Nat) (a b : List Hd) (w : World) (hca : a.length ≤ c) (hcm : c ≤ maxLen) (hdb : b.length ≤ d) (hdm : d ≤ maxLen) (hA : Row w A (hcells a)) (hB : Row w B (hcells b)) (k : ComOk a b) (hm : decide (hmark (lastH (comA a b)) = hmark (lastH (comB a b))) = true) :
    Calls Try.prog 22 #[.slice A a.length c, .slice B b.length d] w (ClashGives (comA a b) (comB a b) w) := by
  have hC := fun (w : World) hA hB => Lib.hid (chainCommon_ok A B c d a b w hca hcm hdb hdm hA hB k)
  obtain ⟨hn0, hn40, hs, ht⟩ := k.len
  obtain ⟨gS, gT⟩ := k.good
  generalize comA a b = S at *
  generalize comB a b = T at *
  generalize comLen a b = n at *
  obtain ⟨⟨a1, a2, a3, a4⟩, hla⟩ : ∃ x, lastH S = x := ⟨_, rfl⟩
  obtain ⟨⟨b1, b2, b3, b4⟩, hlb⟩ : ∃ x, lastH T = x := ⟨_, rfl⟩
  have hga := lastH_good gS
  have hgb := lastH_good gT
  rw [hla] at hga hm
  rw [hlb] at hgb hm
  have hL : ∀ (W : World) (A' : Option Addr) (c' : Nat), Row W A' (hcells S) → Hid (Calls Try.prog 31 #[.slice A' n c'] W fun e w' => e = .returned (.agg #[.int .i64 a1, .int .u64 (a2 : Int), .int .u64 (a3 : Int), .int .i64 a4]) ∧ Below W.heap.size W w') := fun W A' c' h => by
    have := chainLast A' c' S W gS.pos (by unfold maxLen; omega) h a1 a2 a3 a4 hla
    rw [hs] at this
    exact Lib.hid this
  have hM : ∀ (W : World) (A' : Option Addr) (c' : Nat), Row W A' (hcells T) → Hid (Calls Try.prog 31 #[.slice A' n c'] W fun e w' => e = .returned (.agg #[.int .i64 b1, .int .u64 (b2 : Int), .int .u64 (b3 : Int), .int .i64 b4]) ∧ Below W.heap.size W w') := fun W A' c' h => by
    have := chainLast A' c' T W gT.pos (by unfold maxLen; omega) h b1 b2 b3 b4 hlb
    rw [ht] at this
    exact Lib.hid this
  have hK := fun w => Lib.hid (chainAlike a1 a2 a3 a4 b1 b2 b3 b4 w hga hgb true hm)
  have hn := CB.new w (.slice B b.length d)
  have hb := below_new4 w (.cells #[.slice B b.length d] 22) (.cells #[.string ⟨#[]⟩] 9) (.cells #[.string ⟨#[]⟩] 9) (.cells #[.int .i64 0] 26)
  clear k hca hcm hdb hdm hga hgb hla hlb hm
  refine (callsIn_wide (n := 5)).1 ?_
  refine callsIn_of_wp_marks Try.func22 rfl trivial ?_ rfl
  simp only [Try.ntmps22, List.size_toArray, List.length_cons, List.length_nil, Nat.reduceAdd, Nat.reduceSub, Array.replicate_succ, Array.replicate_zero, List.push_toArray, List.append_toArray, List.nil_append, List.cons_append]
  refine wpIn_wide.2 ?_
  go_wp2_with fail
  generalize (((w.alloc (.cells #[.slice B b.length d] 22)).alloc (.cells #[.string ⟨#[]⟩] 9)).alloc (.cells #[.string ⟨#[]⟩] 9)).alloc (.cells #[.int .i64 0] 26) = v at *
  refine (hC _ (hA.below hb) (hB.below hb)).out.mono ?_
  rintro e w1 ⟨A', B', c', d', rfl, hS, hT, -, -, -, -, hb1⟩
  have hn1 := hn.below hb1
  have hb' := below_chain hb hb1
  obtain ⟨⟨z0, z1, z2, z3⟩, f0, f1, f2, f3⟩ := hn1.cells
  have hS2 := hS.setFar ⟨w.heap.size, 0, none⟩ _ _ _ (.slice B' n d') z0
  have hT2 := hT.setFar ⟨w.heap.size, 0, none⟩ _ _ _ (.slice B' n d') z0
  have hn2 := hn1.set0 (.slice B' n d')
  have hb2 := hb'.setCell (p := ⟨w.heap.size, 0, none⟩) (Nat.le_refl _) (.slice B' n d')
  clear hC hA hB hn hb hb1 hn1 hb' hS hT z1 z2 z3 f1 f2 f3
  go_wp2_with fail
  clear z0 f0
  generalize w1.setCell ⟨w.heap.size, 0, none⟩ (.slice B' n d') = w2 at *
  have y0 := hn2.b0.cell
  have hb9 : Below w2.heap.size w2 w2.drew := bdrew (Below.refl _ _)
  have hL' : ∀ W : World, (W.cell? ⟨w.heap.size, 0, none⟩ = some (.slice B' n d') ∧ Below w2.heap.size w2 W) → Hid (Calls Try.prog 31 #[.slice A' n c'] W fun e w' => e = .returned (.agg #[.int .i64 a1, .int .u64 (a2 : Int), .int .u64 (a3 : Int), .int .i64 a4]) ∧ w'.cell? ⟨w.heap.size, 0, none⟩ = some (.slice B' n d') ∧ Below w2.heap.size w2 w') := fun W ⟨q1, q2⟩ => by
    show Calls _ _ _ _ _
    refine (hL W A' c' (hS2.below q2)).out.mono ?_
    rintro e w' ⟨rfl, hb⟩
    exact ⟨rfl, kept q1 hb, below_chain q2 hb⟩
  have hM' : ∀ W : World, (W.cell? ⟨w.heap.size, 0, none⟩ = some (.slice B' n d') ∧ Below w2.heap.size w2 W) → Hid (Calls Try.prog 31 #[.slice B' n d'] W fun e w' => e = .returned (.agg #[.int .i64 b1, .int .u64 (b2 : Int), .int .u64 (b3 : Int), .int .i64 b4]) ∧ w'.cell? ⟨w.heap.size, 0, none⟩ = some (.slice B' n d') ∧ Below w2.heap.size w2 w') := fun W ⟨q1, q2⟩ => by
    show Calls _ _ _ _ _
    refine (hM W B' d' (hT2.below q2)).out.mono ?_
    rintro e w' ⟨rfl, hb⟩
    exact ⟨rfl, kept q1 hb, below_chain q2 hb⟩
  have hK' : ∀ W : World, (W.cell? ⟨w.heap.size, 0, none⟩ = some (.slice B' n d') ∧ Below w2.heap.size w2 W) → Hid (Calls Try.prog 36 #[.agg #[.int .i64 a1, .int .u64 (a2 : Int), .int .u64 (a3 : Int), .int .i64 a4], .agg #[.int .i64 b1, .int .u64 (b2 : Int), .int .u64 (b3 : Int), .int .i64 b4]] W fun e w' => e = .returned (.bool true) ∧ w'.cell? ⟨w.heap.size, 0, none⟩ = some (.slice B' n d') ∧ Below w2.heap.size w2 w') := fun W ⟨q1, q2⟩ => by
    show Calls _ _ _ _ _
    refine (hK W).out.mono ?_
    rintro e w' ⟨rfl, hb⟩
    exact ⟨rfl, kept q1 hb, below_chain q2 hb⟩
  clear hL hM hK
  go_region_held3 (fun w' => w'.cell? ⟨w.heap.size, 0, none⟩ = some (.slice B' n d') ∧ Below w2.heap.size w2 w') (first | exact ⟨y0, hb9⟩ | exact ⟨by assumption, by assumption⟩ | go_keep)
    (first | (go_at_call_of 31 A'; refine (hL' _ ?_).out.mono ?_; (first | exact ⟨by assumption, by assumption⟩); rintro e w3 ⟨rfl, k1, k2⟩) | (go_at_call_of 31 B'; refine (hM' _ ?_).out.mono ?_; (first | exact ⟨by assumption, by assumption⟩); rintro e w3 ⟨rfl, k1, k2⟩) | (go_at_call 36; refine (hK' _ ?_).out.mono ?_; (first | exact ⟨by assumption, by assumption⟩); rintro e w3 ⟨rfl, k3, k4⟩))
  have hn3 := hn2.below k4
  have hbw3 := below_chain hb2 k4
  have hS3 := hS2.below k4
  have hT3 := hT2.below k4
  have hBK := fun (w : World) => Lib.hid (backOf A' n c' w)
  clear hn2 hb2 k3 k4 hL' hM' hK' hS2 hT2 hb9 y0
  go_wp2_with fail
  refine (hBK _).out.mono ?_
  rintro e w4 ⟨rfl, rfl⟩
  have hn4 := hn3.below ((Below.refl _ w3).alloc (Nat.le_refl _) (.cells #[.slice A' n c'] 22))
  have hb4 := hbw3.alloc hbw3.size (.cells #[.slice A' n c'] 22)
  have hS4 := hS3.alloc (.cells #[.slice A' n c'] 22)
  have hT4 := hT3.alloc (.cells #[.slice A' n c'] 22)
  have hbox := (Boxed.new w3 22 (.slice A' n c')).cell
  have hs4 : w3.heap.size < (w3.alloc (.cells #[.slice A' n c'] 22)).heap.size := by simp
  clear hn3 hbw3 hS3 hT3 hBK
  go_wp2_with fail
  generalize w3.alloc (.cells #[.slice A' n c'] 22) = W0 at *
  generalize w3.heap.size = gb at *
  refine (wpIn_wide (n := 5)).1 ?_
  have hgS := Lib.hid gS.good
  have hgT := Lib.hid gT.good
  have hW0 := Lib.hid (Nat.le_refl W0.heap.size)
  refine wpIn_rangeFunc_ownH rfl (by omega) (gf := 47) (lb := #[.pointer (some ⟨gb, 0, none⟩)]) rfl trivial (enters_of Try.func47 (by kernel_rfl) rfl)
    (back_stops 4 (by omega) gb A' n c' S hs hn0 (by omega) W0 hbox hS4) belowK_t (belowK_b (Nat.le_refl _)) (Below.refl _ _) (fun _ => rfl)
    (fun pre W => ((∀ j ∈ pre, (S[j.1]'(by rw [hs]; exact j.2)) = (T[j.1]'(by rw [ht]; exact j.2))) ∧ CB W w.heap.size (.slice B' n d') (.string ⟨#[]⟩) (.string ⟨#[]⟩) (.int .i64 0)) ∧ Below W0.heap.size W0 W)
    (fun cd pre W => (cd = .ret ∧ ∃ ini last, pre = ini ++ [last] ∧ (S[last.1]'(by rw [hs]; exact last.2)) ≠ (T[last.1]'(by rw [ht]; exact last.2)) ∧ (∀ j ∈ ini, (S[j.1]'(by rw [hs]; exact j.2)) = (T[j.1]'(by rw [ht]; exact j.2))) ∧ CB W w.heap.size (.slice B' n d') (.string (Proofs.Ythkhafgcpmoalaa.S (hsaid (S[last.1]'(by rw [hs]; exact last.2))))) (.string (Proofs.Ythkhafgcpmoalaa.S (hsaid (T[last.1]'(by rw [ht]; exact last.2))))) (.int .i64 0)) ∧ Below w.heap.size w W)
    (OwnFrom.and (OwnFrom.and (ownFrom_pure _ _) (Own.from (CB.own _ (fun _ => .slice B' n d') (fun _ => .string ⟨#[]⟩) (fun _ => .string ⟨#[]⟩) (fun _ => .int .i64 0)) _)) (ownFrom_below (Nat.le_refl _) (Nat.le_refl _)))
    (fun cd => OwnFrom.and (fun s X Y row hs' hg hr => by
      obtain ⟨e0, ini, last, e1, e2, e3, e4⟩ := hs'
      exact ⟨e0, ini, last, e1, e2, e3, CB.own w.heap.size (fun (_ : Unit) => .slice B' n d') (fun _ => .string (Proofs.Ythkhafgcpmoalaa.S (hsaid (S[last.1]'(by rw [hs]; exact last.2))))) (fun _ => .string (Proofs.Ythkhafgcpmoalaa.S (hsaid (T[last.1]'(by rw [ht]; exact last.2))))) (fun _ => .int .i64 0) () X Y row e4 hg (fun r e => (hr r e).2)⟩) (ownFrom_below (Nat.le_refl _) hb4.size))
    ⟨⟨by simp, hn4⟩, Below.refl _ _⟩
    (fun x a' W => ∃ gx, W0.heap.size ≤ gx ∧ (W.cell? ⟨gx, 0, none⟩ = some (.int .i64 (S[x.1]'(by rw [hs]; exact x.2)).1) ∧ W.cell? ⟨gx, 1, none⟩ = some (.int .u64 ((S[x.1]'(by rw [hs]; exact x.2)).2.1 : Int)) ∧ W.cell? ⟨gx, 2, none⟩ = some (.int .u64 ((S[x.1]'(by rw [hs]; exact x.2)).2.2.1 : Int)) ∧ W.cell? ⟨gx, 3, none⟩ = some (.int .i64 (S[x.1]'(by rw [hs]; exact x.2)).2.2.2)) ∧ ∃ u0 u1 u2 u7 u10 u11 u12 u13 u14 u15 u16 u17 u18 u19 u20 u21 u22 u23 u24 u25 u26 u27 u28 u29 u30 u31 u32 u33 u34 u35 u36 u37 u38 u39 u40 u41 u42 : Value, a' = { tmps := #[u0, u1, u2, .pointer (some ⟨w.heap.size, 0, none⟩), .pointer (some ⟨w.heap.size + 1, 0, none⟩), .pointer (some ⟨w.heap.size + 1 + 1, 0, none⟩), .pointer (some ⟨w.heap.size + 1 + 1 + 1, 0, none⟩), u7, .int .i64 (x.1 : Int), .pointer (some ⟨gx, 0, none⟩), u10, u11, u12, u13, u14, u15, u16, u17, u18, u19, u20, u21, u22, u23, u24, u25, u26, u27, u28, u29, u30, u31, u32, u33, u34, u35, u36, u37, u38, u39, u40, u41, u42], defers := [] })
    (fun x a' _ X Y row hs' hg hr => by
      obtain ⟨gx, e1, ⟨q0, q1, q2, q3⟩, e3⟩ := hs'
      exact ⟨gx, e1, ⟨cell_kept q0 hg (fun r e => (hr r e).2), cell_kept q1 hg (fun r e => (hr r e).2), cell_kept q2 hg (fun r e => (hr r e).2), cell_kept q3 hg (fun r e => (hr r e).2)⟩, e3⟩)
    ?assign ?body ?done ?stop
  case assign =>
    rintro l pre x W K ⟨⟨hp, hcb⟩, hB⟩ hK
    dsimp only [encs]
    gi_wp2
    obtain ⟨⟨v0, v1, v2, v3⟩, -⟩ := (Bx.new W _ rfl _ [.int .i64 (S[x.1]'(by rw [hs]; exact x.2)).1, .int .u64 ((S[x.1]'(by rw [hs]; exact x.2)).2.1 : Int), .int .u64 ((S[x.1]'(by rw [hs]; exact x.2)).2.2.1 : Int), .int .i64 (S[x.1]'(by rw [hs]; exact x.2)).2.2.2] 25 rfl).get4
    exact hK _ _ ((KeepsOthers.alloc _ _).from _) ((Below.refl _ W).alloc hB.size _) ⟨⟨hp, hcb.below ((Below.refl _ _).alloc (Nat.le_refl _) _)⟩, hB.alloc hB.size _⟩ ⟨W.heap.size, hB.size, ⟨v0, v1, v2, v3⟩, _, _, _, _, _, _, _, _, _, _, _, _, _, _, _, _, _, _, _, _, _, _, _, _, _, _, _, _, _, _, _, _, _, _, _, _, _, rfl⟩
  case body =>
    rintro l pre ⟨k, hk⟩ a' W hl - ⟨⟨hp, hcb⟩, hB⟩ ⟨gx, hgx, ⟨v0, v1, v2, v3⟩, u0, u1, u2, u7, u10, u11, u12, u13, u14, u15, u16, u17, u18, u19, u20, u21, u22, u23, u24, u25, u26, u27, u28, u29, u30, u31, u32, u33, u34, u35, u36, u37, u38, u39, u40, u41, u42, rfl⟩ -
    have hkS : k < S.length := by omega
    have hkT : k < T.length := by omega
    dsimp only at v0 v1 v2 v3 ⊢
    obtain ⟨g, off, rfl, j0, j1, j2, j3⟩ := (hT4.below hB).head k hkT
    have hi0 : (0 : Int) ≤ (k : Int) := by omega
    have hi1 : (k : Int) < (n : Int) := by omega
    have hd : 1 ≤ 5 - 1 - 1 := by omega
    have hmx : Try.prog.follows .mixedOrders = true := by kernel_rfl
    have cB := hcb.b0.cell
    have g1 := hgS.out S[k] (List.getElem_mem hkS)
    have g2 := hgT.out T[k] (List.getElem_mem hkT)
    obtain ⟨⟨e0, e1, e2, e3⟩, hx⟩ : ∃ x, S[k] = x := ⟨_, rfl⟩
    obtain ⟨⟨f0, f1, f2, f3⟩, hy⟩ : ∃ x, T[k] = x := ⟨_, rfl⟩
    rw [hx] at g1
    rw [hy] at g2
    have hsub : ∀ q ∈ pre, (S[q.1]'(by rw [hs]; exact q.2)) = (T[q.1]'(by rw [ht]; exact q.2)) := hp
    have fin : ∀ (x y z u : Bool), (e0 == f0) = x → ((e1 : Int) == (f1 : Int)) = y → ((e2 : Int) == (f2 : Int)) = z → (e3 == f3) = u → (x && (y && (z && u))) = false → S[k] ≠ T[k] := by
      intro x y z u q1 q2 q3 q4 h e
      rw [hx, hy] at e
      simp only [Prod.mk.injEq] at e
      obtain ⟨rfl, rfl, rfl, rfl⟩ := e
      simp at q1 q2 q3 q4
      subst q1; subst q2; subst q3; subst q4
      exact absurd h (by decide)
    have fin2 : (e0 == f0) = true → ((e1 : Int) == (f1 : Int)) = true → ((e2 : Int) == (f2 : Int)) = true → (e3 == f3) = true → S[k] = T[k] := by
      intro q1 q2 q3 q4
      rw [beq_iff_eq] at q1 q2 q3 q4
      rw [hx, hy, q1, q4, Int.ofNat_inj.1 q2, Int.ofNat_inj.1 q3]
    obtain ⟨s1, hs1⟩ : ∃ s, hsaid (e0, e1, e2, e3) = s := ⟨_, rfl⟩
    obtain ⟨s2, hs2⟩ : ∃ s, hsaid (f0, f1, f2, f3) = s := ⟨_, rfl⟩
    have hP1 := fun w => Lib.hid (chainSaid e0 e1 e2 e3 w g1 s1 hs1)
    have hP2 := fun w => Lib.hid (chainSaid f0 f1 f2 f3 w g2 s2 hs2)
    have HXs : Hid (hsaid S[k] = s1 ∧ hsaid T[k] = s2) := by show _ ∧ _; exact ⟨by rw [hx]; exact hs1, by rw [hy]; exact hs2⟩
    clear g1 g2 hs1 hs2
    simp only [hx] at v0 v1 v2 v3
    simp only [hy] at j0 j1 j2 j3
    gi_upto_region 9 with fail
    gi_cut [35] from 30 (fun q wx => (∃ b : Bool, q = .bool b ∧ Hid (Tells b (S[k] ≠ T[k]))) ∧ wx = W.drew)
    case first =>
      cases q1 : e0 == f0 with
      | false =>
        have HF : Hid (Tells true (S[k] ≠ T[k])) := by show _ ↔ _; exact ⟨fun _ => fin _ _ _ _ q1 rfl rfl rfl (by simp), fun _ => rfl⟩
        clear fin fin2 hP1 hP2
        refine region_round_held (S := fun W => W.cell? ⟨gx, 0, none⟩ = some (.int .i64 e0) ∧ W.cell? ⟨gx, 1, none⟩ = some (.int .u64 (e1 : Int)) ∧ W.cell? ⟨gx, 2, none⟩ = some (.int .u64 (e2 : Int)) ∧ W.cell? ⟨gx, 3, none⟩ = some (.int .i64 e3) ∧ W.cell? ⟨w.heap.size, 0, none⟩ = some (.slice (some ⟨g, off, none⟩) n d') ∧ W.cell? ⟨g, off + k * 4, none⟩ = some (.int .i64 f0) ∧ W.cell? ⟨g, off + k * 4 + 1, none⟩ = some (.int .u64 (f1 : Int)) ∧ W.cell? ⟨g, off + k * 4 + 2, none⟩ = some (.int .u64 (f2 : Int)) ∧ W.cell? ⟨g, off + k * 4 + 3, none⟩ = some (.int .i64 f3)) (by kernel_rfl) (by kernel_rfl) ⟨v0, v1, v2, v3, cB, j0, j1, j2, j3⟩ (fun hHeld => ?_)
        refine wpAnyH_take (i := 0) (v := ?_) rfl (by kernel_rfl) (by kernel_rfl) (by kernel_rfl) (fun _ _ _ h => h) (Or.inl ⟨by rfl, ?_⟩) (by assumption) ?_
        rotate_left
        · intro wt hSt
          try dsimp only at hSt
          first | (go_simp; done) | (go_simp; with_reducible rfl)
        simp only [Act.put, List.setIfInBounds_toArray, List.set_cons_zero, List.set_cons_succ, List.getElem_toArray, List.getElem_cons_zero]
        refine wpAnyH_take (i := 1) (v := ?_) rfl (by kernel_rfl) (by kernel_rfl) (by kernel_rfl) (fun _ _ _ h => h) (Or.inl ⟨by rfl, ?_⟩) (by assumption) ?_
        rotate_left
        · intro wt hSt
          try dsimp only at hSt
          first | (go_simp; done) | (go_simp; with_reducible rfl)
        simp only [Act.put, List.setIfInBounds_toArray, List.set_cons_zero, List.set_cons_succ, List.getElem_toArray, List.getElem_cons_zero, List.getElem_cons_succ]
        refine wpAnyH_take (i := 2) (v := ?_) rfl (by kernel_rfl) (by kernel_rfl) (by kernel_rfl) (fun _ _ _ h => h) (Or.inl ⟨by rfl, ?_⟩) (by assumption) ?_
        rotate_left
        · intro wt hSt
          try dsimp only at hSt
          first | (go_simp; done) | (go_simp; with_reducible rfl)
        simp only [Act.put, List.setIfInBounds_toArray, List.set_cons_zero, List.set_cons_succ, List.getElem_toArray, List.getElem_cons_zero, List.getElem_cons_succ]
        refine wpAnyH_take (i := 3) (v := ?_) rfl (by kernel_rfl) (by kernel_rfl) (by kernel_rfl) (fun _ _ _ h => h) (Or.inl ⟨by rfl, ?_⟩) (by assumption) ?_
        rotate_left
        · intro wt hSt
          try dsimp only at hSt
          first | (go_simp; done) | (go_simp; with_reducible rfl)
        simp only [Act.put, List.setIfInBounds_toArray, List.set_cons_zero, List.set_cons_succ, List.getElem_toArray, List.getElem_cons_zero, List.getElem_cons_succ]
        refine wpAnyH_take (i := 4) (v := ?_) rfl (by kernel_rfl) (by kernel_rfl) (by kernel_rfl) (fun _ _ _ h => h) (Or.inl ⟨by rfl, ?_⟩) (by assumption) ?_
        rotate_left
        · intro wt hSt
          try dsimp only at hSt
          first | (go_simp; done) | (go_simp; with_reducible rfl)
        simp only [Act.put, List.setIfInBounds_toArray, List.set_cons_zero, List.set_cons_succ, List.getElem_toArray, List.getElem_cons_zero, List.getElem_cons_succ]
        refine wpAnyH_take (i := 5) (v := ?_) rfl (by kernel_rfl) (by kernel_rfl) (by kernel_rfl) (fun _ _ _ h => h) (Or.inl ⟨by rfl, ?_⟩) (by assumption) ?_
        rotate_left
        · intro wt hSt
          try dsimp only at hSt
          first | (go_simp; done) | (go_simp; with_reducible rfl)
        simp only [Act.put, List.setIfInBounds_toArray, List.set_cons_zero, List.set_cons_succ, List.getElem_toArray, List.getElem_cons_zero, List.getElem_cons_succ]
        refine wpAnyH_done (by kernel_rfl) ?_ _
        dsimp only [noOut]
        gi_wp2_with fail
        gi_meet
        case rel => exact ⟨⟨_, rfl, HF⟩, rfl⟩
      | true =>
      cases q2 : (e1 : Int) == (f1 : Int) with
      | false =>
        have HF : Hid (Tells true (S[k] ≠ T[k])) := by show _ ↔ _; exact ⟨fun _ => fin _ _ _ _ q1 q2 rfl rfl (by simp), fun _ => rfl⟩
        clear fin fin2 hP1 hP2
        refine region_round_held (S := fun W => W.cell? ⟨gx, 0, none⟩ = some (.int .i64 e0) ∧ W.cell? ⟨gx, 1, none⟩ = some (.int .u64 (e1 : Int)) ∧ W.cell? ⟨gx, 2, none⟩ = some (.int .u64 (e2 : Int)) ∧ W.cell? ⟨gx, 3, none⟩ = some (.int .i64 e3) ∧ W.cell? ⟨w.heap.size, 0, none⟩ = some (.slice (some ⟨g, off, none⟩) n d') ∧ W.cell? ⟨g, off + k * 4, none⟩ = some (.int .i64 f0) ∧ W.cell? ⟨g, off + k * 4 + 1, none⟩ = some (.int .u64 (f1 : Int)) ∧ W.cell? ⟨g, off + k * 4 + 2, none⟩ = some (.int .u64 (f2 : Int)) ∧ W.cell? ⟨g, off + k * 4 + 3, none⟩ = some (.int .i64 f3)) (by kernel_rfl) (by kernel_rfl) ⟨v0, v1, v2, v3, cB, j0, j1, j2, j3⟩ (fun hHeld => ?_)
        refine wpAnyH_take (i := 0) (v := ?_) rfl (by kernel_rfl) (by kernel_rfl) (by kernel_rfl) (fun _ _ _ h => h) (Or.inl ⟨by rfl, ?_⟩) (by assumption) ?_
        rotate_left
        · intro wt hSt
          try dsimp only at hSt
          first | (go_simp; done) | (go_simp; with_reducible rfl)
        simp only [Act.put, List.setIfInBounds_toArray, List.set_cons_zero, List.set_cons_succ, List.getElem_toArray, List.getElem_cons_zero]
        refine wpAnyH_take (i := 1) (v := ?_) rfl (by kernel_rfl) (by kernel_rfl) (by kernel_rfl) (fun _ _ _ h => h) (Or.inl ⟨by rfl, ?_⟩) (by assumption) ?_
        rotate_left
        · intro wt hSt
          try dsimp only at hSt
          first | (go_simp; done) | (go_simp; with_reducible rfl)
        simp only [Act.put, List.setIfInBounds_toArray, List.set_cons_zero, List.set_cons_succ, List.getElem_toArray, List.getElem_cons_zero, List.getElem_cons_succ]
        refine wpAnyH_take (i := 2) (v := ?_) rfl (by kernel_rfl) (by kernel_rfl) (by kernel_rfl) (fun _ _ _ h => h) (Or.inl ⟨by rfl, ?_⟩) (by assumption) ?_
        rotate_left
        · intro wt hSt
          try dsimp only at hSt
          first | (go_simp; done) | (go_simp; with_reducible rfl)
        simp only [Act.put, List.setIfInBounds_toArray, List.set_cons_zero, List.set_cons_succ, List.getElem_toArray, List.getElem_cons_zero, List.getElem_cons_succ]
        refine wpAnyH_take (i := 3) (v := ?_) rfl (by kernel_rfl) (by kernel_rfl) (by kernel_rfl) (fun _ _ _ h => h) (Or.inl ⟨by rfl, ?_⟩) (by assumption) ?_
        rotate_left
        · intro wt hSt
          try dsimp only at hSt
          first | (go_simp; done) | (go_simp; with_reducible rfl)
        simp only [Act.put, List.setIfInBounds_toArray, List.set_cons_zero, List.set_cons_succ, List.getElem_toArray, List.getElem_cons_zero, List.getElem_cons_succ]
        refine wpAnyH_take (i := 4) (v := ?_) rfl (by kernel_rfl) (by kernel_rfl) (by kernel_rfl) (fun _ _ _ h => h) (Or.inl ⟨by rfl, ?_⟩) (by assumption) ?_
        rotate_left
        · intro wt hSt
          try dsimp only at hSt
          first | (go_simp; done) | (go_simp; with_reducible rfl)
        simp only [Act.put, List.setIfInBounds_toArray, List.set_cons_zero, List.set_cons_succ, List.getElem_toArray, List.getElem_cons_zero, List.getElem_cons_succ]
        refine wpAnyH_take (i := 5) (v := ?_) rfl (by kernel_rfl) (by kernel_rfl) (by kernel_rfl) (fun _ _ _ h => h) (Or.inl ⟨by rfl, ?_⟩) (by assumption) ?_
        rotate_left
        · intro wt hSt
          try dsimp only at hSt
          first | (go_simp; done) | (go_simp; with_reducible rfl)
        simp only [Act.put, List.setIfInBounds_toArray, List.set_cons_zero, List.set_cons_succ, List.getElem_toArray, List.getElem_cons_zero, List.getElem_cons_succ]
        refine wpAnyH_done (by kernel_rfl) ?_ _
        dsimp only [noOut]
        gi_wp2_with fail
        gi_meet
        case rel => exact ⟨⟨_, rfl, HF⟩, rfl⟩
      | true =>
      cases q3 : (e2 : Int) == (f2 : Int) with
      | false =>
        have HF : Hid (Tells true (S[k] ≠ T[k])) := by show _ ↔ _; exact ⟨fun _ => fin _ _ _ _ q1 q2 q3 rfl (by simp), fun _ => rfl⟩
        clear fin fin2 hP1 hP2
        refine region_round_held (S := fun W => W.cell? ⟨gx, 0, none⟩ = some (.int .i64 e0) ∧ W.cell? ⟨gx, 1, none⟩ = some (.int .u64 (e1 : Int)) ∧ W.cell? ⟨gx, 2, none⟩ = some (.int .u64 (e2 : Int)) ∧ W.cell? ⟨gx, 3, none⟩ = some (.int .i64 e3) ∧ W.cell? ⟨w.heap.size, 0, none⟩ = some (.slice (some ⟨g, off, none⟩) n d') ∧ W.cell? ⟨g, off + k * 4, none⟩ = some (.int .i64 f0) ∧ W.cell? ⟨g, off + k * 4 + 1, none⟩ = some (.int .u64 (f1 : Int)) ∧ W.cell? ⟨g, off + k * 4 + 2, none⟩ = some (.int .u64 (f2 : Int)) ∧ W.cell? ⟨g, off + k * 4 + 3, none⟩ = some (.int .i64 f3)) (by kernel_rfl) (by kernel_rfl) ⟨v0, v1, v2, v3, cB, j0, j1, j2, j3⟩ (fun hHeld => ?_)
        refine wpAnyH_take (i := 0) (v := ?_) rfl (by kernel_rfl) (by kernel_rfl) (by kernel_rfl) (fun _ _ _ h => h) (Or.inl ⟨by rfl, ?_⟩) (by assumption) ?_
        rotate_left
        · intro wt hSt
          try dsimp only at hSt
          first | (go_simp; done) | (go_simp; with_reducible rfl)
        simp only [Act.put, List.setIfInBounds_toArray, List.set_cons_zero, List.set_cons_succ, List.getElem_toArray, List.getElem_cons_zero]
        refine wpAnyH_take (i := 1) (v := ?_) rfl (by kernel_rfl) (by kernel_rfl) (by kernel_rfl) (fun _ _ _ h => h) (Or.inl ⟨by rfl, ?_⟩) (by assumption) ?_
        rotate_left
        · intro wt hSt
          try dsimp only at hSt
          first | (go_simp; done) | (go_simp; with_reducible rfl)
        simp only [Act.put, List.setIfInBounds_toArray, List.set_cons_zero, List.set_cons_succ, List.getElem_toArray, List.getElem_cons_zero, List.getElem_cons_succ]
        refine wpAnyH_take (i := 2) (v := ?_) rfl (by kernel_rfl) (by kernel_rfl) (by kernel_rfl) (fun _ _ _ h => h) (Or.inl ⟨by rfl, ?_⟩) (by assumption) ?_
        rotate_left
        · intro wt hSt
          try dsimp only at hSt
          first | (go_simp; done) | (go_simp; with_reducible rfl)
        simp only [Act.put, List.setIfInBounds_toArray, List.set_cons_zero, List.set_cons_succ, List.getElem_toArray, List.getElem_cons_zero, List.getElem_cons_succ]
        refine wpAnyH_take (i := 3) (v := ?_) rfl (by kernel_rfl) (by kernel_rfl) (by kernel_rfl) (fun _ _ _ h => h) (Or.inl ⟨by rfl, ?_⟩) (by assumption) ?_
        rotate_left
        · intro wt hSt
          try dsimp only at hSt
          first | (go_simp; done) | (go_simp; with_reducible rfl)
        simp only [Act.put, List.setIfInBounds_toArray, List.set_cons_zero, List.set_cons_succ, List.getElem_toArray, List.getElem_cons_zero, List.getElem_cons_succ]
        refine wpAnyH_take (i := 4) (v := ?_) rfl (by kernel_rfl) (by kernel_rfl) (by kernel_rfl) (fun _ _ _ h => h) (Or.inl ⟨by rfl, ?_⟩) (by assumption) ?_
        rotate_left
        · intro wt hSt
          try dsimp only at hSt
          first | (go_simp; done) | (go_simp; with_reducible rfl)
        simp only [Act.put, List.setIfInBounds_toArray, List.set_cons_zero, List.set_cons_succ, List.getElem_toArray, List.getElem_cons_zero, List.getElem_cons_succ]
        refine wpAnyH_take (i := 5) (v := ?_) rfl (by kernel_rfl) (by kernel_rfl) (by kernel_rfl) (fun _ _ _ h => h) (Or.inl ⟨by rfl, ?_⟩) (by assumption) ?_
        rotate_left
        · intro wt hSt
          try dsimp only at hSt
          first | (go_simp; done) | (go_simp; with_reducible rfl)
        simp only [Act.put, List.setIfInBounds_toArray, List.set_cons_zero, List.set_cons_succ, List.getElem_toArray, List.getElem_cons_zero, List.getElem_cons_succ]
        refine wpAnyH_done (by kernel_rfl) ?_ _
        dsimp only [noOut]
        gi_wp2_with fail
        gi_meet
        case rel => exact ⟨⟨_, rfl, HF⟩, rfl⟩
      | true =>
      cases q4 : e3 == f3 with
      | false =>
        have HF : Hid (Tells true (S[k] ≠ T[k])) := by show _ ↔ _; exact ⟨fun _ => fin _ _ _ _ q1 q2 q3 q4 (by simp), fun _ => rfl⟩
        clear fin fin2 hP1 hP2
        refine region_round_held (S := fun W => W.cell? ⟨gx, 0, none⟩ = some (.int .i64 e0) ∧ W.cell? ⟨gx, 1, none⟩ = some (.int .u64 (e1 : Int)) ∧ W.cell? ⟨gx, 2, none⟩ = some (.int .u64 (e2 : Int)) ∧ W.cell? ⟨gx, 3, none⟩ = some (.int .i64 e3) ∧ W.cell? ⟨w.heap.size, 0, none⟩ = some (.slice (some ⟨g, off, none⟩) n d') ∧ W.cell? ⟨g, off + k * 4, none⟩ = some (.int .i64 f0) ∧ W.cell? ⟨g, off + k * 4 + 1, none⟩ = some (.int .u64 (f1 : Int)) ∧ W.cell? ⟨g, off + k * 4 + 2, none⟩ = some (.int .u64 (f2 : Int)) ∧ W.cell? ⟨g, off + k * 4 + 3, none⟩ = some (.int .i64 f3)) (by kernel_rfl) (by kernel_rfl) ⟨v0, v1, v2, v3, cB, j0, j1, j2, j3⟩ (fun hHeld => ?_)
        refine wpAnyH_take (i := 0) (v := ?_) rfl (by kernel_rfl) (by kernel_rfl) (by kernel_rfl) (fun _ _ _ h => h) (Or.inl ⟨by rfl, ?_⟩) (by assumption) ?_
        rotate_left
        · intro wt hSt
          try dsimp only at hSt
          first | (go_simp; done) | (go_simp; with_reducible rfl)
        simp only [Act.put, List.setIfInBounds_toArray, List.set_cons_zero, List.set_cons_succ, List.getElem_toArray, List.getElem_cons_zero]
        refine wpAnyH_take (i := 1) (v := ?_) rfl (by kernel_rfl) (by kernel_rfl) (by kernel_rfl) (fun _ _ _ h => h) (Or.inl ⟨by rfl, ?_⟩) (by assumption) ?_
        rotate_left
        · intro wt hSt
          try dsimp only at hSt
          first | (go_simp; done) | (go_simp; with_reducible rfl)
        simp only [Act.put, List.setIfInBounds_toArray, List.set_cons_zero, List.set_cons_succ, List.getElem_toArray, List.getElem_cons_zero, List.getElem_cons_succ]
        refine wpAnyH_take (i := 2) (v := ?_) rfl (by kernel_rfl) (by kernel_rfl) (by kernel_rfl) (fun _ _ _ h => h) (Or.inl ⟨by rfl, ?_⟩) (by assumption) ?_
        rotate_left
        · intro wt hSt
          try dsimp only at hSt
          first | (go_simp; done) | (go_simp; with_reducible rfl)
        simp only [Act.put, List.setIfInBounds_toArray, List.set_cons_zero, List.set_cons_succ, List.getElem_toArray, List.getElem_cons_zero, List.getElem_cons_succ]
        refine wpAnyH_take (i := 3) (v := ?_) rfl (by kernel_rfl) (by kernel_rfl) (by kernel_rfl) (fun _ _ _ h => h) (Or.inl ⟨by rfl, ?_⟩) (by assumption) ?_
        rotate_left
        · intro wt hSt
          try dsimp only at hSt
          first | (go_simp; done) | (go_simp; with_reducible rfl)
        simp only [Act.put, List.setIfInBounds_toArray, List.set_cons_zero, List.set_cons_succ, List.getElem_toArray, List.getElem_cons_zero, List.getElem_cons_succ]
        refine wpAnyH_take (i := 4) (v := ?_) rfl (by kernel_rfl) (by kernel_rfl) (by kernel_rfl) (fun _ _ _ h => h) (Or.inl ⟨by rfl, ?_⟩) (by assumption) ?_
        rotate_left
        · intro wt hSt
          try dsimp only at hSt
          first | (go_simp; done) | (go_simp; with_reducible rfl)
        simp only [Act.put, List.setIfInBounds_toArray, List.set_cons_zero, List.set_cons_succ, List.getElem_toArray, List.getElem_cons_zero, List.getElem_cons_succ]
        refine wpAnyH_take (i := 5) (v := ?_) rfl (by kernel_rfl) (by kernel_rfl) (by kernel_rfl) (fun _ _ _ h => h) (Or.inl ⟨by rfl, ?_⟩) (by assumption) ?_
        rotate_left
        · intro wt hSt
          try dsimp only at hSt
          first | (go_simp; done) | (go_simp; with_reducible rfl)
        simp only [Act.put, List.setIfInBounds_toArray, List.set_cons_zero, List.set_cons_succ, List.getElem_toArray, List.getElem_cons_zero, List.getElem_cons_succ]
        refine wpAnyH_done (by kernel_rfl) ?_ _
        dsimp only [noOut]
        gi_wp2_with fail
        gi_meet
        case rel => exact ⟨⟨_, rfl, HF⟩, rfl⟩
      | true =>
        have HF : Hid (Tells false (S[k] ≠ T[k])) := by show _ ↔ _; exact ⟨fun h => Bool.noConfusion h, fun h => absurd (fin2 q1 q2 q3 q4) h⟩
        clear fin fin2 hP1 hP2
        refine region_round_held (S := fun W => W.cell? ⟨gx, 0, none⟩ = some (.int .i64 e0) ∧ W.cell? ⟨gx, 1, none⟩ = some (.int .u64 (e1 : Int)) ∧ W.cell? ⟨gx, 2, none⟩ = some (.int .u64 (e2 : Int)) ∧ W.cell? ⟨gx, 3, none⟩ = some (.int .i64 e3) ∧ W.cell? ⟨w.heap.size, 0, none⟩ = some (.slice (some ⟨g, off, none⟩) n d') ∧ W.cell? ⟨g, off + k * 4, none⟩ = some (.int .i64 f0) ∧ W.cell? ⟨g, off + k * 4 + 1, none⟩ = some (.int .u64 (f1 : Int)) ∧ W.cell? ⟨g, off + k * 4 + 2, none⟩ = some (.int .u64 (f2 : Int)) ∧ W.cell? ⟨g, off + k * 4 + 3, none⟩ = some (.int .i64 f3)) (by kernel_rfl) (by kernel_rfl) ⟨v0, v1, v2, v3, cB, j0, j1, j2, j3⟩ (fun hHeld => ?_)
        refine wpAnyH_take (i := 0) (v := ?_) rfl (by kernel_rfl) (by kernel_rfl) (by kernel_rfl) (fun _ _ _ h => h) (Or.inl ⟨by rfl, ?_⟩) (by assumption) ?_
        rotate_left
        · intro wt hSt
          try dsimp only at hSt
          first | (go_simp; done) | (go_simp; with_reducible rfl)
        simp only [Act.put, List.setIfInBounds_toArray, List.set_cons_zero, List.set_cons_succ, List.getElem_toArray, List.getElem_cons_zero]
        refine wpAnyH_take (i := 1) (v := ?_) rfl (by kernel_rfl) (by kernel_rfl) (by kernel_rfl) (fun _ _ _ h => h) (Or.inl ⟨by rfl, ?_⟩) (by assumption) ?_
        rotate_left
        · intro wt hSt
          try dsimp only at hSt
          first | (go_simp; done) | (go_simp; with_reducible rfl)
        simp only [Act.put, List.setIfInBounds_toArray, List.set_cons_zero, List.set_cons_succ, List.getElem_toArray, List.getElem_cons_zero, List.getElem_cons_succ]
        refine wpAnyH_take (i := 2) (v := ?_) rfl (by kernel_rfl) (by kernel_rfl) (by kernel_rfl) (fun _ _ _ h => h) (Or.inl ⟨by rfl, ?_⟩) (by assumption) ?_
        rotate_left
        · intro wt hSt
          try dsimp only at hSt
          first | (go_simp; done) | (go_simp; with_reducible rfl)
        simp only [Act.put, List.setIfInBounds_toArray, List.set_cons_zero, List.set_cons_succ, List.getElem_toArray, List.getElem_cons_zero, List.getElem_cons_succ]
        refine wpAnyH_take (i := 3) (v := ?_) rfl (by kernel_rfl) (by kernel_rfl) (by kernel_rfl) (fun _ _ _ h => h) (Or.inl ⟨by rfl, ?_⟩) (by assumption) ?_
        rotate_left
        · intro wt hSt
          try dsimp only at hSt
          first | (go_simp; done) | (go_simp; with_reducible rfl)
        simp only [Act.put, List.setIfInBounds_toArray, List.set_cons_zero, List.set_cons_succ, List.getElem_toArray, List.getElem_cons_zero, List.getElem_cons_succ]
        refine wpAnyH_take (i := 4) (v := ?_) rfl (by kernel_rfl) (by kernel_rfl) (by kernel_rfl) (fun _ _ _ h => h) (Or.inl ⟨by rfl, ?_⟩) (by assumption) ?_
        rotate_left
        · intro wt hSt
          try dsimp only at hSt
          first | (go_simp; done) | (go_simp; with_reducible rfl)
        simp only [Act.put, List.setIfInBounds_toArray, List.set_cons_zero, List.set_cons_succ, List.getElem_toArray, List.getElem_cons_zero, List.getElem_cons_succ]
        refine wpAnyH_take (i := 5) (v := ?_) rfl (by kernel_rfl) (by kernel_rfl) (by kernel_rfl) (fun _ _ _ h => h) (Or.inl ⟨by rfl, ?_⟩) (by assumption) ?_
        rotate_left
        · intro wt hSt
          try dsimp only at hSt
          first | (go_simp; done) | (go_simp; with_reducible rfl)
        simp only [Act.put, List.setIfInBounds_toArray, List.set_cons_zero, List.set_cons_succ, List.getElem_toArray, List.getElem_cons_zero, List.getElem_cons_succ]
        refine wpAnyH_done (by kernel_rfl) ?_ _
        dsimp only [noOut]
        gi_wp2_with fail
        gi_meet
        case rel => exact ⟨⟨_, rfl, HF⟩, rfl⟩
    case rest =>
      obtain ⟨⟨b, rfl, HF⟩, rfl⟩ := hcut
      clear fin fin2
      cases b with
      | true =>
        have HF' := Lib.hid (HF.out.1 rfl)
        have nx1 : w.heap.size + 1 ≠ gx := by have := hcb.b1.lt; have := hn4.b1.lt; omega
        have nx2 : w.heap.size + 1 + 1 ≠ gx := by have := hn4.b2.lt; omega
        have nx3 : w.heap.size + 1 + 1 + 1 ≠ gx := by have := hn4.b3.lt; omega
        have ng1 := boxed_ne hcb.b1 j1
        have ng2 := boxed_ne hcb.b2 j1
        have ng3 := boxed_ne hcb.b3 j1
        have hSk : ∀ W' : World, Below W.heap.size W W' → (W'.cell? ⟨gx, 0, none⟩ = some (.int .i64 e0) ∧ W'.cell? ⟨gx, 1, none⟩ = some (.int .u64 (e1 : Int)) ∧ W'.cell? ⟨gx, 2, none⟩ = some (.int .u64 (e2 : Int)) ∧ W'.cell? ⟨gx, 3, none⟩ = some (.int .i64 e3) ∧ W'.cell? ⟨w.heap.size, 0, none⟩ = some (.slice (some ⟨g, off, none⟩) n d') ∧ W'.cell? ⟨g, off + k * 4, none⟩ = some (.int .i64 f0) ∧ W'.cell? ⟨g, off + k * 4 + 1, none⟩ = some (.int .u64 (f1 : Int)) ∧ W'.cell? ⟨g, off + k * 4 + 2, none⟩ = some (.int .u64 (f2 : Int)) ∧ W'.cell? ⟨g, off + k * 4 + 3, none⟩ = some (.int .i64 f3)) := fun W' hb => ⟨kept v0 hb, kept v1 hb, kept v2 hb, kept v3 hb, kept cB hb, kept j0 hb, kept j1 hb, kept j2 hb, kept j3 hb⟩
        have hset : ∀ (W' : World) (B : Nat) (u : Value), B ≠ w.heap.size → B ≠ gx → B ≠ g → (W'.cell? ⟨gx, 0, none⟩ = some (.int .i64 e0) ∧ W'.cell? ⟨gx, 1, none⟩ = some (.int .u64 (e1 : Int)) ∧ W'.cell? ⟨gx, 2, none⟩ = some (.int .u64 (e2 : Int)) ∧ W'.cell? ⟨gx, 3, none⟩ = some (.int .i64 e3) ∧ W'.cell? ⟨w.heap.size, 0, none⟩ = some (.slice (some ⟨g, off, none⟩) n d') ∧ W'.cell? ⟨g, off + k * 4, none⟩ = some (.int .i64 f0) ∧ W'.cell? ⟨g, off + k * 4 + 1, none⟩ = some (.int .u64 (f1 : Int)) ∧ W'.cell? ⟨g, off + k * 4 + 2, none⟩ = some (.int .u64 (f2 : Int)) ∧ W'.cell? ⟨g, off + k * 4 + 3, none⟩ = some (.int .i64 f3)) → ((W'.setCell ⟨B, 0, none⟩ u).cell? ⟨gx, 0, none⟩ = some (.int .i64 e0) ∧ (W'.setCell ⟨B, 0, none⟩ u).cell? ⟨gx, 1, none⟩ = some (.int .u64 (e1 : Int)) ∧ (W'.setCell ⟨B, 0, none⟩ u).cell? ⟨gx, 2, none⟩ = some (.int .u64 (e2 : Int)) ∧ (W'.setCell ⟨B, 0, none⟩ u).cell? ⟨gx, 3, none⟩ = some (.int .i64 e3) ∧ (W'.setCell ⟨B, 0, none⟩ u).cell? ⟨w.heap.size, 0, none⟩ = some (.slice (some ⟨g, off, none⟩) n d') ∧ (W'.setCell ⟨B, 0, none⟩ u).cell? ⟨g, off + k * 4, none⟩ = some (.int .i64 f0) ∧ (W'.setCell ⟨B, 0, none⟩ u).cell? ⟨g, off + k * 4 + 1, none⟩ = some (.int .u64 (f1 : Int)) ∧ (W'.setCell ⟨B, 0, none⟩ u).cell? ⟨g, off + k * 4 + 2, none⟩ = some (.int .u64 (f2 : Int)) ∧ (W'.setCell ⟨B, 0, none⟩ u).cell? ⟨g, off + k * 4 + 3, none⟩ = some (.int .i64 f3)) := fun W' B u n0 n1 n2 ⟨x0, x1, x2, x3, x4, x5, x6, x7, x8⟩ =>
          ⟨(World.cell?_setCell_other W' ⟨B, 0, none⟩ _ u (fun e => n1 (congrArg Addr.block e))).trans x0, (World.cell?_setCell_other W' ⟨B, 0, none⟩ _ u (fun e => n1 (congrArg Addr.block e))).trans x1, (World.cell?_setCell_other W' ⟨B, 0, none⟩ _ u (fun e => n1 (congrArg Addr.block e))).trans x2, (World.cell?_setCell_other W' ⟨B, 0, none⟩ _ u (fun e => n1 (congrArg Addr.block e))).trans x3, (World.cell?_setCell_other W' ⟨B, 0, none⟩ _ u (fun e => n0 (congrArg Addr.block e))).trans x4, (World.cell?_setCell_other W' ⟨B, 0, none⟩ _ u (fun e => n2 (congrArg Addr.block e))).trans x5, (World.cell?_setCell_other W' ⟨B, 0, none⟩ _ u (fun e => n2 (congrArg Addr.block e))).trans x6, (World.cell?_setCell_other W' ⟨B, 0, none⟩ _ u (fun e => n2 (congrArg Addr.block e))).trans x7, (World.cell?_setCell_other W' ⟨B, 0, none⟩ _ u (fun e => n2 (congrArg Addr.block e))).trans x8⟩
        have hb49 : Below W.heap.size W W.drew.drew := bdrew (bdrew (Below.refl _ W))
        clear HF
        gi_upto_region 10 with fail
        refine region_round_held (S := fun W => W.cell? ⟨gx, 0, none⟩ = some (.int .i64 e0) ∧ W.cell? ⟨gx, 1, none⟩ = some (.int .u64 (e1 : Int)) ∧ W.cell? ⟨gx, 2, none⟩ = some (.int .u64 (e2 : Int)) ∧ W.cell? ⟨gx, 3, none⟩ = some (.int .i64 e3) ∧ W.cell? ⟨w.heap.size, 0, none⟩ = some (.slice (some ⟨g, off, none⟩) n d') ∧ W.cell? ⟨g, off + k * 4, none⟩ = some (.int .i64 f0) ∧ W.cell? ⟨g, off + k * 4 + 1, none⟩ = some (.int .u64 (f1 : Int)) ∧ W.cell? ⟨g, off + k * 4 + 2, none⟩ = some (.int .u64 (f2 : Int)) ∧ W.cell? ⟨g, off + k * 4 + 3, none⟩ = some (.int .i64 f3)) (by kernel_rfl) (by kernel_rfl) ⟨v0, v1, v2, v3, cB, j0, j1, j2, j3⟩ (fun hHeld => ?_)
        refine wpAnyH_take (i := 0) (v := ?_) rfl (by kernel_rfl) (by kernel_rfl) (by kernel_rfl) (fun _ _ _ h => h) (Or.inl ⟨by rfl, ?_⟩) (by assumption) ?_
        rotate_left
        · intro wt hSt
          try dsimp only at hSt
          first | (go_simp; done) | (go_simp; with_reducible rfl)
        simp only [Act.put, List.setIfInBounds_toArray, List.set_cons_zero, List.set_cons_succ, List.getElem_toArray, List.getElem_cons_zero]
        refine wpAnyH_take (i := 2) (v := ?_) rfl (by kernel_rfl) (by kernel_rfl) (by kernel_rfl) (fun _ _ _ h => h) (Or.inl ⟨by rfl, ?_⟩) (by assumption) ?_
        rotate_left
        · intro wt hSt
          try dsimp only at hSt
          first | (go_simp; done) | (go_simp; with_reducible rfl)
        simp only [Act.put, List.setIfInBounds_toArray, List.set_cons_zero, List.set_cons_succ, List.getElem_toArray, List.getElem_cons_zero, List.getElem_cons_succ]
        refine wpAnyH_take (i := 3) (v := ?_) rfl (by kernel_rfl) (by kernel_rfl) (by kernel_rfl) (fun _ _ _ h => h) (Or.inl ⟨by rfl, ?_⟩) (by assumption) ?_
        rotate_left
        · intro wt hSt
          try dsimp only at hSt
          first | (go_simp; done) | (go_simp; with_reducible rfl)
        simp only [Act.put, List.setIfInBounds_toArray, List.set_cons_zero, List.set_cons_succ, List.getElem_toArray, List.getElem_cons_zero, List.getElem_cons_succ]
        refine wpAnyH_take (i := 4) (v := ?_) rfl (by kernel_rfl) (by kernel_rfl) (by kernel_rfl) (fun _ _ _ h => h) (Or.inl ⟨by rfl, ?_⟩) (by assumption) ?_
        rotate_left
        · intro wt hSt
          try dsimp only at hSt
          first | (go_simp; done) | (go_simp; with_reducible rfl)
        simp only [Act.put, List.setIfInBounds_toArray, List.set_cons_zero, List.set_cons_succ, List.getElem_toArray, List.getElem_cons_zero, List.getElem_cons_succ]
        refine wpAnyH_take (i := 5) (v := ?_) rfl (by kernel_rfl) (by kernel_rfl) (by kernel_rfl) (fun _ _ _ h => h) (Or.inl ⟨by rfl, ?_⟩) (by assumption) ?_
        rotate_left
        · intro wt hSt
          try dsimp only at hSt
          first | (go_simp; done) | (go_simp; with_reducible rfl)
        simp only [Act.put, List.setIfInBounds_toArray, List.set_cons_zero, List.set_cons_succ, List.getElem_toArray, List.getElem_cons_zero, List.getElem_cons_succ]
        refine wpAnyH_ready (rs := [1]) (by kernel_rfl) (by simp) ?_
        refine AllReadyH.cons rfl (fun K hK => ?_) AllReadyH.nil
        go_simp
        go_at_call 38
        refine (hP1 _).out.mono ?_
        rintro e w5 ⟨rfl, hb5⟩
        have hb50 := below_chain hb49 hb5
        have hS5 := hSk _ hb50
        go_wp2_with fail
        refine hK.out _ _ hS5 (fun hHeld => ?_)
        clear hK K
        refine wpAnyH_ready (rs := [6]) (by kernel_rfl) (by simp) ?_
        refine AllReadyH.cons rfl (fun K hK => ?_) AllReadyH.nil
        go_simp
        go_at_call 38
        refine (hP2 _).out.mono ?_
        rintro e w6 ⟨rfl, hb6⟩
        have hb60 := below_chain hb50 hb6
        have hS6 := hSk _ hb60
        have hcb6 := hcb.below hb60
        obtain ⟨⟨y0, y1, y2, y3⟩, r0, r1, r2, r3⟩ := hcb6.cells
        have hcb7 := hcb6.set123 (.string (Proofs.Ythkhafgcpmoalaa.S s1)) (.string (Proofs.Ythkhafgcpmoalaa.S s2)) (.int .i64 0)
        have hbw7 := below_set123 (below_chain (hb4.trans (hB.mono hb4.size)) hb60) (.string (Proofs.Ythkhafgcpmoalaa.S s1)) (.string (Proofs.Ythkhafgcpmoalaa.S s2)) (.int .i64 0)
        have hk7 := (keeps_below hb60).trans (((KeepsOthers.setCell w6 ⟨w.heap.size + 1, 0, none⟩ (.string (Proofs.Ythkhafgcpmoalaa.S s1))).trans (KeepsOthers.setCell _ ⟨w.heap.size + 1 + 1, 0, none⟩ (.string (Proofs.Ythkhafgcpmoalaa.S s2)))).trans (KeepsOthers.setCell _ ⟨w.heap.size + 1 + 1 + 1, 0, none⟩ (.int .i64 0)))
        have hS7 := hset _ _ (.string (Proofs.Ythkhafgcpmoalaa.S s1)) (by omega) nx1 ng1 hS6
        have hS8 := hset _ _ (.string (Proofs.Ythkhafgcpmoalaa.S s2)) (by omega) nx2 ng2 hS7
        have hS9 := hset _ _ (.int .i64 0) (by omega) nx3 ng3 hS8
        have hcb61 := hcb6.set1 (.string (Proofs.Ythkhafgcpmoalaa.S s1))
        obtain ⟨⟨-, -, y22, -⟩, -, -, r22, -⟩ := hcb61.cells
        have hcb62 := hcb61.set2 (.string (Proofs.Ythkhafgcpmoalaa.S s2))
        obtain ⟨⟨-, -, -, y33⟩, -, -, -, r33⟩ := hcb62.cells
        go_wp2_with fail
        refine hK.out _ _ hS6 (fun hHeld => ?_)
        clear hK K
        refine wpAnyH_ready (rs := [7]) (by kernel_rfl) (by simp) ?_
        refine AllReadyH.cons rfl (fun K hK => ?_) AllReadyH.nil
        go_simp
        refine hK.out _ _ hS7 (fun hHeld => ?_)
        clear hK K
        refine wpAnyH_ready (rs := [8]) (by kernel_rfl) (by simp) ?_
        refine AllReadyH.cons rfl (fun K hK => ?_) AllReadyH.nil
        go_simp
        refine hK.out _ _ hS8 (fun hHeld => ?_)
        clear hK K
        refine wpAnyH_ready (rs := [9]) (by kernel_rfl) (by simp) ?_
        refine AllReadyH.cons rfl (fun K hK => ?_) AllReadyH.nil
        go_simp
        refine hK.out _ _ hS9 (fun hHeld => ?_)
        clear hK K
        refine wpAnyH_done (by kernel_rfl) ?_ _
        dsimp only [noOut]
        gi_wp2
        exact ⟨hk7.from _, ⟨rfl, pre, ⟨k, hk⟩, rfl, HF'.out, hsub, by dsimp only; rw [HXs.out.1, HXs.out.2]; exact hcb7⟩, hbw7⟩
      | false =>
        have HF' : Hid (S[k] = T[k]) := by
          show _ = _
          exact Classical.byContradiction fun h => by have := HF.out.2 h; cases this
        have hp' : ∀ q ∈ pre ++ [⟨k, hk⟩], (S[q.1]'(by rw [hs]; exact q.2)) = (T[q.1]'(by rw [ht]; exact q.2)) := fun q hq => by
          rcases List.mem_append.1 hq with h | h
          · exact hsub q h
          · rw [List.mem_singleton.1 h]; exact HF'.out
        clear HF hP1 hP2
        gi_wp2
        exact ⟨(KeepsOthers.drew _).from _, Below.drew (Below.refl _ _), ⟨hp', hcb.below (bdrew (Below.refl _ _))⟩, hB.drew⟩
  case done =>
    rintro D ys W hD hall ⟨⟨hp, hcb⟩, hB⟩ hK
    obtain ⟨⟨y0, y1, y2, y3⟩, r0, r1, r2, r3⟩ := hcb.cells
    have hST : S = T := by
      refine List.ext_getElem (by omega) fun j h1 h2 => ?_
      exact hp ⟨j, by omega⟩ (hall _)
    have hcb7 := hcb.set123 (.string ⟨#[]⟩) (.string ⟨#[]⟩) (.int .i64 6)
    have hbw7 := below_set123 (hb4.trans (hB.mono hb4.size)) (.string ⟨#[]⟩) (.string ⟨#[]⟩) (.int .i64 6)
    have hk7 := ((KeepsOthers.setCell W ⟨w.heap.size + 1, 0, none⟩ (.string ⟨#[]⟩)).trans (KeepsOthers.setCell _ ⟨w.heap.size + 1 + 1, 0, none⟩ (.string ⟨#[]⟩))).trans (KeepsOthers.setCell _ ⟨w.heap.size + 1 + 1 + 1, 0, none⟩ (.int .i64 6))
    have hK7 := hk7.same D _ hK rfl
    go_wp2
    refine ⟨by simp, .inl ⟨_, _, rfl, run_takeDeferred hK7, ?_⟩⟩
    have hcb8 := CB.own w.heap.size (fun (_ : Unit) => .slice B' n d') (fun _ => .string ⟨#[]⟩) (fun _ => .string ⟨#[]⟩) (fun _ => .int .i64 6) () _ _ _ hcb7 (grownBy_putObj' _ D (.deferred none)) (fun r e => by cases e; exact ⟨_, hK7, rfl⟩)
    obtain ⟨⟨y0, y1, y2, y3⟩, -⟩ := hcb8.cells
    refine ⟨.tuple #[.string ⟨#[]⟩, .string ⟨#[]⟩, .int .i64 6], ?_, .inl ⟨hST, rfl⟩, hbw7.trans (belowK_b (w := w) (Nat.le_refl _) _ D _ _ (Nat.le_trans hb4.size hD) hK7 rfl rfl)⟩
    simp [results, Try.f22, go_sem, y1, y2, y3]
  case stop =>
    rintro D cd pre W hD ⟨ini', last', e1', hall⟩ ⟨⟨rfl, ini, last, e1, hne, hp, hcb⟩, hB⟩ hK
    gi_wp2
    refine ⟨by simp, .inl ⟨_, _, rfl, run_takeDeferred hK, ?_⟩⟩
    rw [e1'] at e1
    obtain ⟨rfl, e5⟩ := List.append_inj' e1 rfl
    obtain rfl : last' = last := by simpa using e5
    have hcb8 := CB.own w.heap.size (fun (_ : Unit) => .slice B' n d') (fun _ => .string (Proofs.Ythkhafgcpmoalaa.S (hsaid (S[last'.1]'(by rw [hs]; exact last'.2))))) (fun _ => .string (Proofs.Ythkhafgcpmoalaa.S (hsaid (T[last'.1]'(by rw [ht]; exact last'.2))))) (fun _ => .int .i64 0) () _ _ _ hcb (grownBy_putObj' _ D (.deferred none)) (fun r e => by cases e; exact ⟨_, hK, rfl⟩)
    obtain ⟨⟨y0, y1, y2, y3⟩, -⟩ := hcb8.cells
    refine ⟨.tuple #[.string (Proofs.Ythkhafgcpmoalaa.S (hsaid (S[last'.1]'(by rw [hs]; exact last'.2)))), .string (Proofs.Ythkhafgcpmoalaa.S (hsaid (T[last'.1]'(by rw [ht]; exact last'.2)))), .int .i64 0], ?_, .inr ⟨last'.1, by rw [hs]; exact last'.2, by rw [ht]; exact last'.2, hne, fun j i1 i2 hj => hp ⟨j, by omega⟩ (hall _ hj), rfl⟩, hB.trans (belowK_b (w := w) (Nat.le_refl _) _ D _ _ (Nat.le_trans hb4.size hD) hK rfl rfl)⟩
    simp [results, Try.f22, go_sem, y1, y2, y3]
end Go.Proofs.Ythkhafgcpmoalaa
