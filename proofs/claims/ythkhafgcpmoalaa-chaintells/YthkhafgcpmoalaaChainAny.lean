/- Package chain: Grow, Part whatever they are given; the head of an epoch in a chain; three variables of a law in memory. -/
import Derived.Test.YthkhafgcpmoalaaChainPart
import Derived.Test.YthkhafgcpmoalaaChainParted
import Derived.Test.YthkhafgcpmoalaaRefHeadOf
import Derived.Test.YthkhafgcpmoalaaDropHeads
namespace Go.Proofs.Ythkhafgcpmoalaa
set_option maxRecDepth 100000
open Go.RowKit

/-- What Grow hands back, in whatever world stands behind it. -/
structure Grew (l : List Hd) (rt : Nat) (tm : Int) (D : Option Addr) (n : Nat) (f : Int) (W : World) : Prop where
  e : growErr l rt tm = f
  no : f ≠ 0 → n = 0
  yes : f = 0 → n = (l ++ [nextOf (lastH l) rt tm]).length ∧ Row W D (hcells (l ++ [nextOf (lastH l) rt tm]))
theorem Grew.below {l : List Hd} {rt : Nat} {tm : Int} {D : Option Addr} {n : Nat} {f : Int} {W W' : World} (h : Grew l rt tm D n f W) (hb : Below W.heap.size W W') : Grew l rt tm D n f W' :=
  ⟨h.e, h.no, fun e => ⟨(h.yes e).1, (h.yes e).2.below hb⟩⟩
theorem chainGrow_any (A : Option Addr) (c : Nat) (l : List Hd) (rt : Nat) (tm : Int) (w : World) (hm : l.length ≤ maxLen) (hA : Row w A (hcells l)) :
    Calls Try.prog 9 #[.slice A l.length c, .int .u64 (rt : Int), .int .i64 tm] w fun e w' => ∃ D n d f, e = .returned (.tuple #[.slice D n d, .int .i64 f]) ∧ Grew l rt tm D n f w' ∧ Below w.heap.size w w' := by
  by_cases h : growErr l rt tm = 0
  · refine (chainGrow_ok A c l rt tm w hA ((growErr_ok _ _ _).1 h)).mono ?_
    rintro e w' ⟨D, d, rfl, hown, hb⟩
    exact ⟨D, _, d, 0, rfl, ⟨h, fun e => absurd rfl e, fun _ => ⟨rfl, Row.ownN hown⟩⟩, hb⟩
  · refine (chainGrow_no A c l rt tm w hm hA _ rfl h).mono ?_
    rintro e w' ⟨rfl, hb⟩
    exact ⟨none, 0, 0, _, rfl, ⟨rfl, fun _ => rfl, fun e => absurd e h⟩, hb⟩
structure Parted (l : List Hd) (fr to : Int) (D : Option Addr) (n : Nat) (f : Int) (W : World) : Prop where
  e : partErr l fr to = f
  no : f ≠ 0 → n = 0
  yes : f = 0 → n = (partOf l fr to).length ∧ Row W D (hcells (partOf l fr to))
theorem Parted.below {l : List Hd} {fr to : Int} {D : Option Addr} {n : Nat} {f : Int} {W W' : World} (h : Parted l fr to D n f W) (hb : Below W.heap.size W W') : Parted l fr to D n f W' :=
  ⟨h.e, h.no, fun e => ⟨(h.yes e).1, (h.yes e).2.below hb⟩⟩
theorem chainPart_any (A : Option Addr) (c : Nat) (l : List Hd) (fr to : Int) (w : World) (hc : l.length ≤ c) (hcm : c ≤ maxLen) (hA : Row w A (hcells l)) :
    Calls Try.prog 10 #[.slice A l.length c, .int .i64 fr, .int .i64 to] w fun e w' => ∃ D n d f, e = .returned (.tuple #[.slice D n d, .int .i64 f]) ∧ Parted l fr to D n f w' ∧ Below w.heap.size w w' := by
  by_cases h : partErr l fr to = 0
  · refine (chainPart_ok A c l fr to w hc hcm hA ((partErr_ok _ _ _).1 h)).mono ?_
    rintro e w' ⟨D, d, rfl, hown, hb⟩
    exact ⟨D, _, d, 0, rfl, ⟨h, fun e => absurd rfl e, fun _ => ⟨rfl, Row.ownN hown⟩⟩, hb⟩
  · refine (chainPart_no A c l fr to w (by omega) hA _ rfl h).mono ?_
    rintro e w' ⟨rfl, hb⟩
    exact ⟨none, 0, 0, _, rfl, ⟨rfl, fun _ => rfl, fun e => absurd e h⟩, hb⟩

/-- The errors of Grow at a chain. -/
theorem grow_cases {l : List Hd} (hg : CGood l) (nr : Nat) (na : Int) (h : Hd) (he : lastH l = h) :
    (l.length = 40 ∨ h.1 = 1000000 → growErr l nr na = 7) ∧ (¬ (l.length = 40 ∨ h.1 = 1000000) → (2305843009213693951 ≤ nr ∨ na < h.2.2.2 ∨ 1000000000 < na → growErr l nr na = 4) ∧ (¬ (2305843009213693951 ≤ nr ∨ na < h.2.2.2 ∨ 1000000000 < na) → GrowOk l nr na)) := by
  have hh := lastH_good hg
  subst he
  have e1 : growErr l nr na = if l.length = 40 then 7 else nextErr (lastH l) nr na := by rw [growErr, if_pos ((cfault_ok l).2 hg)]
  have e2 : nextErr (lastH l) nr na = if (lastH l).1 = 1000000 then 7 else if 2305843009213693951 ≤ nr then 4 else if (lastH l).2.2.2 ≤ na ∧ na ≤ 1000000000 then 0 else 4 := by rw [nextErr, if_pos ((hfault_ok _).2 hh)]
  refine ⟨fun k => ?_, fun k => ⟨fun j => ?_, fun j => ?_⟩⟩
  · rw [e1]
    by_cases h1 : l.length = 40
    · rw [if_pos h1]
    · rw [if_neg h1, e2, if_pos (by omega)]
  · rw [e1, if_neg (by omega), e2, if_neg (by omega)]
    by_cases h1 : 2305843009213693951 ≤ nr
    · rw [if_pos h1]
    · rw [if_neg h1, if_neg (by omega)]
  · exact ⟨hg, by have := hg.len; omega, ⟨hh, by omega, by omega, by omega⟩⟩

theorem hof_any (l : List Hd) (q : Int) : ∃ (b : Bool) (ep : Int) (rt pv : Nat) (tm : Int), (hof l q = if b = true then some (ep, rt, pv, tm) else none) ∧ (b = false → ep = 0 ∧ rt = 0 ∧ pv = 0 ∧ tm = 0) := by
  cases h : hof l q with
  | none => exact ⟨false, 0, 0, 0, 0, by simp, fun _ => ⟨rfl, rfl, rfl, rfl⟩⟩
  | some x => exact ⟨true, x.1, x.2.1, x.2.2.1, x.2.2.2, by simp, fun e => by cases e⟩
theorem hof_at {l : List Hd} (hg : CGood l) (i : Nat) (hi : i < l.length) : hof l ((firstH l).1 + i) = some l[i] := by
  have he := hg.epoch i hi
  rw [firstH_at hg.pos, ← he]
  unfold hof
  rw [List.find?_eq_some_iff_getElem]
  refine ⟨by simp, i, hi, rfl, fun j hj => ?_⟩
  have h2 := hg.epoch j (by omega)
  simp
  omega
theorem hof_none {l : List Hd} (hg : CGood l) (q : Int) (h : q < (firstH l).1 ∨ (lastH l).1 < q) : hof l q = none := by
  unfold hof
  rw [List.find?_eq_none]
  intro x hx
  obtain ⟨i, hi, rfl⟩ := List.mem_iff_getElem.1 hx
  have h1 := hg.epoch i hi
  have h2 := hg.lastE
  rw [firstH_at hg.pos] at h h2
  simp
  omega
/-- A chain has a head of each epoch from its first one to its last one, and of no other. -/
theorem hof_in {l : List Hd} (hg : CGood l) (q : Int) (b : Bool) (x : Hd) (h : hof l q = if b = true then some x else none) : b = true ↔ (firstH l).1 ≤ q ∧ q ≤ (lastH l).1 := by
  have h2 := hg.lastE
  by_cases k : (firstH l).1 ≤ q ∧ q ≤ (lastH l).1
  · refine ⟨fun _ => k, fun _ => ?_⟩
    have := hof_at hg (q - (firstH l).1).toNat (by omega)
    rw [show (firstH l).1 + ((q - (firstH l).1).toNat : Int) = q by omega, h] at this
    cases b with
    | true => rfl
    | false => cases this
  · refine ⟨fun e => ?_, fun e => absurd e k⟩
    have := hof_none hg q (by omega)
    rw [h, e] at this
    cases this

/-- The law's test of the two bounds tells whether Part has an error. -/
theorem part_test {l : List Hd} (hg : CGood l) (fr to : Int) (bi bo : Bool) (h1 : bi = true ↔ (firstH l).1 ≤ fr ∧ fr ≤ (lastH l).1) (h2 : bo = true ↔ (firstH l).1 ≤ to ∧ to ≤ (lastH l).1) :
    partErr l fr to = if (decide (to < fr) || (!bi || !bo)) = true then 4 else 0 := by
  rw [partErr, if_pos ((cfault_ok l).2 hg)]
  by_cases k : to < fr
  · rw [if_pos (.inl k), decide_eq_true k]
    simp
  · rw [decide_eq_false k]
    have e : (to < fr ∨ fr < (firstH l).1 ∨ (lastH l).1 < to) ↔ ¬ (bi = true ∧ bo = true) := by rw [h1, h2]; omega
    by_cases j : bi = true ∧ bo = true
    · rw [if_neg (fun x => e.1 x j), j.1, j.2]
      simp
    · rw [if_pos (e.2 j), if_pos]
      cases bi <;> cases bo <;> simp at j ⊢

theorem filter_mid {α : Type} (p : α → Bool) (l : List α) (a n : Nat) (h : ∀ i (hi : i < l.length), p l[i] = true ↔ a ≤ i ∧ i < a + n) : l.filter p = (l.drop a).take n := by
  have e1 : l = l.take a ++ ((l.drop a).take n ++ (l.drop a).drop n) := by rw [List.take_append_drop, List.take_append_drop]
  have f1 : (l.take a).filter p = [] := by
    rw [List.filter_eq_nil_iff]
    intro x hx
    obtain ⟨i, hi, rfl⟩ := List.mem_iff_getElem.1 hx
    rw [List.length_take] at hi
    rw [List.getElem_take, h i (by omega)]
    omega
  have f2 : ((l.drop a).take n).filter p = (l.drop a).take n := by
    rw [List.filter_eq_self]
    intro x hx
    obtain ⟨i, hi, rfl⟩ := List.mem_iff_getElem.1 hx
    rw [List.length_take, List.length_drop] at hi
    rw [List.getElem_take, List.getElem_drop, h (a + i) (by omega)]
    omega
  have f3 : ((l.drop a).drop n).filter p = [] := by
    rw [List.filter_eq_nil_iff]
    intro x hx
    obtain ⟨i, hi, rfl⟩ := List.mem_iff_getElem.1 hx
    rw [List.length_drop, List.length_drop] at hi
    rw [List.getElem_drop, List.getElem_drop, h (a + (n + i)) (by omega)]
    omega
  conv => lhs; rw [e1]
  rw [List.filter_append, List.filter_append, f1, f2, f3]
  simp
/-- What is left of a chain without the epochs outside two bounds is its part. -/
theorem part_filter {l : List Hd} {fr to : Int} (k : PartOk l fr to) : l.filter (keepB fr to) = partOf l fr to := by
  obtain ⟨e1, e2, e3, e4⟩ := k.spot
  refine filter_mid _ _ _ _ fun i hi => ?_
  have he := k.g.epoch i hi
  rw [firstH_at k.g.pos] at e1 e2
  simp only [keepB, outB, Bool.not_or, Bool.and_eq_true, Bool.not_eq_true', decide_eq_false_iff_not]
  omega

/-- Three variables in memory: two times and a head. -/
structure TB (W : World) (g : Nat) (fr to ep : Int) (rt pv : Nat) (tm : Int) : Prop where
  c0 : W.cell? ⟨g, 0, none⟩ = some (.int .i64 fr)
  c1 : W.cell? ⟨g + 1, 0, none⟩ = some (.int .i64 to)
  c2 : Bx W (g + 1 + 1) [.int .i64 ep, .int .u64 (rt : Int), .int .u64 (pv : Int), .int .i64 tm]
theorem TB.below {W W' : World} {g : Nat} {fr to ep : Int} {rt pv : Nat} {tm : Int} (h : TB W g fr to ep rt pv tm) (hb : Below W.heap.size W W') : TB W' g fr to ep rt pv tm := ⟨kept h.c0 hb, kept h.c1 hb, h.c2.below hb⟩
theorem TB.cells {W : World} {g : Nat} {fr to ep : Int} {rt pv : Nat} {tm : Int} (h : TB W g fr to ep rt pv tm) :
    W.cell? ⟨g, 0, none⟩ = some (.int .i64 fr) ∧ W.cell? ⟨g + 1, 0, none⟩ = some (.int .i64 to) ∧ W.cell? ⟨g + 1 + 1, 0, none⟩ = some (.int .i64 ep) ∧ W.cell? ⟨g + 1 + 1, 1, none⟩ = some (.int .u64 (rt : Int)) ∧ W.cell? ⟨g + 1 + 1, 2, none⟩ = some (.int .u64 (pv : Int)) ∧ W.cell? ⟨g + 1 + 1, 3, none⟩ = some (.int .i64 tm) := by
  obtain ⟨⟨a, b, c, d⟩, -⟩ := h.c2.get4
  exact ⟨h.c0, h.c1, a, b, c, d⟩
theorem below_new3 (w : World) (a b c : Obj) : Below w.heap.size w (((w.alloc a).alloc b).alloc c) := balloc (balloc (balloc (Below.refl _ _) a) b) c
theorem TB.new (w : World) (fr to ep : Int) (rt pv : Nat) (tm : Int) : TB (((w.alloc (.cells #[.int .i64 fr] 2)).alloc (.cells #[.int .i64 to] 2)).alloc (.cells #[.int .i64 ep, .int .u64 (rt : Int), .int .u64 (pv : Int), .int .i64 tm] 25)) w.heap.size fr to ep rt pv tm := by
  have b1 := (Below.refl (w.alloc (.cells #[.int .i64 fr] 2)).heap.size _).alloc (Nat.le_refl _) (.cells #[.int .i64 to] 2)
  have b2 := (Below.refl ((w.alloc (.cells #[.int .i64 fr] 2)).alloc (.cells #[.int .i64 to] 2)).heap.size _).alloc (Nat.le_refl _) (.cells #[.int .i64 ep, .int .u64 (rt : Int), .int .u64 (pv : Int), .int .i64 tm] 25)
  refine ⟨kept (kept (new_cell w _ _) b1) b2, ?_, Bx.new _ _ (by simp) _ _ _ rfl⟩
  have := kept (new_cell (w.alloc (.cells #[.int .i64 fr] 2)) (.int .i64 to) 2) b2
  rwa [World.size_alloc] at this
end Go.Proofs.Ythkhafgcpmoalaa
