/- package change: Look returns the names found by comparing the trees from the root, in order, and how many prefixes were examined, or the error of tree.Check. It writes nothing that was there. -/
import Derived.Test.YtmmmolbejfdamaaLookRec
import Derived.Test.YtmmmolbejfdamaaChangeDiff
import Derived.Laws.EntriesVeiled
namespace Go.Proofs.Ytmmmolbejfdamaa
set_option maxRecDepth 100000
open Go.RowKit

/-- What Look leaves. -/
def LooksGives (T : List Bytes) (n : Nat) (w : World) (e : Ending) (w' : World) : Prop := ∃ D d, e = .returned (.tuple #[.slice D T.length d, .int .i64 (n : Int), .int .i64 0]) ∧ Row w' D (scells T) ∧ Below w.heap.size w w'

set_option maxHeartbeats 800000 in
theorem changeLook_no (A B : Option Addr) (c d : Nat) (a b : List Ent) (w : World) (hma : a.length ≤ maxLen) (hea : ∀ x ∈ a, x.1.length ≤ maxLen ∧ x.2.length ≤ maxLen) (hmb : b.length ≤ maxLen) (heb : ∀ x ∈ b, x.1.length ≤ maxLen ∧ x.2.length ≤ maxLen)
    (hA : Row w A (encells a)) (hB : Row w B (encells b)) (r : Int) (hr : diffErr a b = r) (h0 : r ≠ 0) :
    Calls Try.prog 9 #[.slice A a.length c, .slice B b.length d] w fun e w' => e = .returned (.tuple #[.slice none 0 0, .int .i64 0, .int .i64 r]) ∧ Below w.heap.size w w' := by
  have hD := fun (w : World) hA hB => Lib.hid (changeDiff_no A B c d a b w hma hea hmb heb hA hB r hr h0)
  have c1 : (r == 0) = false := beq_eq_false_iff_ne.2 h0
  have hb0 : Below w.heap.size w ((w.alloc (.cells #[.slice A a.length c] 22)).alloc (.cells #[.slice B b.length d] 22)) := balloc (balloc (Below.refl _ w) _) _
  clear hma hea hmb heb hr h0
  go_enter Try.func9, Try.ntmps9
  go_wp2_with fail
  refine (hD _ (hA.below hb0) (hB.below hb0)).out.mono ?_
  rintro e w1 ⟨rfl, hb1⟩
  have hb01 := below_chain hb0 hb1
  clear hD hA hB hb0
  have hb9 := balloc hb01 (.cells #[.slice none 0 0] 23)
  go_wp2_with fail
  go_ret3
  exact ⟨rfl, hb9⟩

theorem differ_names {a b : List Ent} (ha : Good a) (hb : Good b) : ∀ n ∈ differ a b, Bin.name n = true := fun n hn => by
  obtain ⟨x, hx, rfl⟩ := List.mem_map.1 ((Bin.srt_mem _ _).1 (List.mem_filter.1 hn).1)
  rcases List.mem_append.1 hx with h | h
  · exact ha.name x h
  · exact hb.name x h
theorem differ_le (a b : List Ent) : (differ a b).length ≤ a.length + b.length := by
  have h1 := Bin.srt_le ((a ++ b).map (·.1))
  rw [List.length_map, List.length_append] at h1
  exact Nat.le_trans (List.length_filter_le _ _) h1

theorem box_new (w : World) (v : Value) (t : TypeId) (g : Nat) (hg : w.heap.size = g) :
    (w.alloc (.cells #[v] t)).cell? ⟨g, 0, none⟩ = some v ∧ (w.alloc (.cells #[v] t)).frozen? ⟨g, 0, none⟩ = false ∧ (w.alloc (.cells #[v] t)).heap.size = g + 1 ∧ Below w.heap.size w (w.alloc (.cells #[v] t)) := by
  subst hg
  exact ⟨new_cell w v t, by simp, by simp, (Below.refl _ _).alloc (Nat.le_refl _) _⟩
/-- The four variables that the search starts with. -/
theorem look_start (w1 : World) (g gA gB n cn : Nat) (N : Option Addr) (hg : w1.heap.size = g) (t1 t2 t3 t4 : TypeId) (W : World)
    (hW : W = (((w1.alloc (.cells #[.slice N n cn] t1)).alloc (.cells #[.slice none 0 0] t2)).alloc (.cells #[.int .i64 0] t3)).alloc (.cells #[.func (.func 33) #[] #[.pointer (some ⟨g + 2, 0, none⟩), .pointer (some ⟨gA, 0, none⟩), .pointer (some ⟨gB, 0, none⟩), .pointer (some ⟨g + 1, 0, none⟩), .pointer (some ⟨g, 0, none⟩), .pointer (some ⟨g + 3, 0, none⟩)]] t4)) :
    Lk w1 g gA gB N n cn W 0 (.slice none 0 0) [] := by
  obtain ⟨a1, a2, a3, a4⟩ := box_new w1 (.slice N n cn) t1 g hg
  generalize w1.alloc (.cells #[.slice N n cn] t1) = u1 at *
  obtain ⟨b1, b2, b3, b4⟩ := box_new u1 (.slice none 0 0) t2 (g + 1) a3
  generalize u1.alloc (.cells #[.slice none 0 0] t2) = u2 at *
  obtain ⟨c1, c2, c3, c4⟩ := box_new u2 (.int .i64 0) t3 (g + 1 + 1) b3
  generalize u2.alloc (.cells #[.int .i64 0] t3) = u3 at *
  obtain ⟨d1, d2, d3, d4⟩ := box_new u3 (.func (.func 33) #[] #[.pointer (some ⟨g + 2, 0, none⟩), .pointer (some ⟨gA, 0, none⟩), .pointer (some ⟨gB, 0, none⟩), .pointer (some ⟨g + 1, 0, none⟩), .pointer (some ⟨g, 0, none⟩), .pointer (some ⟨g + 3, 0, none⟩)]) t4 (g + 1 + 1 + 1) c3
  rw [← hW] at d1 d2 d3 d4
  clear hW
  have hb24 := below_chain c4 d4
  have hb14 := below_chain b4 hb24
  have hb04 := below_chain a4 hb14
  exact ⟨World.ownsRow_nil _ _ _ _, kept a1 hb14, kept b1 hb24, (hb24.frozen (p := ⟨g + 1, 0, none⟩) (by show g + 1 < _; omega)).trans b2, kept c1 d4, (d4.frozen (p := ⟨g + 2, 0, none⟩) (by show g + 2 < _; omega)).trans c2, d1, by rw [← hg]; exact hb04, by omega⟩
theorem look_root {w1 : World} {g gA gB : Nat} {A B N : Option Addr} {a b : List Ent} {ca cb cn : Nat} (HB : LkBase w1 g gA gB A B N a b ca cb cn) (ha : Good a) (hb : Good b) (W : World) (n : Nat) (T : List Bytes) (hn : visitsAt a b [] = n) (hT : foundAt a b [] = T) (h : Lk w1 g gA gB N (differ a b).length cn W 0 (.slice none 0 0) []) :
    Calls Try.prog 33 #[.string ⟨#[]⟩, .pointer (some ⟨g + 2, 0, none⟩), .pointer (some ⟨gA, 0, none⟩), .pointer (some ⟨gB, 0, none⟩), .pointer (some ⟨g + 1, 0, none⟩), .pointer (some ⟨g, 0, none⟩), .pointer (some ⟨g + 3, 0, none⟩)] W fun e W' => e = .returned (.tuple #[]) ∧ ∃ v', Lk w1 g gA gB N (differ a b).length cn W' n v' T := by
  have hla := ha.len
  have hlb := hb.len
  have hdl := differ_le a b
  have hdo := look_does HB ha hb (by omega) (differ_names ha hb) 16 [] W 0 (.slice none 0 0) [] rfl rfl (by omega) (Nat.zero_le _) h
  rw [hn, hT, Nat.zero_add, List.nil_append] at hdo
  exact hdo

set_option maxHeartbeats 800000 in
theorem changeLook_yes (A B : Option Addr) (c d : Nat) (a b : List Ent) (w : World) (ha : Good a) (hb : Good b) (hA : Row w A (encells a)) (hB : Row w B (encells b)) :
    Calls Try.prog 9 #[.slice A a.length c, .slice B b.length d] w (LooksGives (foundAt a b []) (visitsAt a b []) w) := by
  have hD := fun (w : World) hA hB => Lib.hid (changeDiff_yes A B c d a b w ha hb hA hB)
  obtain ⟨n, hn⟩ : ∃ n, visitsAt a b [] = n := ⟨_, rfl⟩
  obtain ⟨T, hT⟩ : ∃ T, foundAt a b [] = T := ⟨_, rfl⟩
  rw [hn, hT]
  have hL := fun (w1 : World) (g gA gB : Nat) (N : Option Addr) (cn : Nat) (HB : LkBase w1 g gA gB A B N a b c d cn) (W : World) (h : Lk w1 g gA gB N (differ a b).length cn W 0 (.slice none 0 0) []) => Lib.hid (look_root HB ha hb W n T hn hT h)
  clear hn hT
  have hb0 : Below w.heap.size w ((w.alloc (.cells #[.slice A a.length c] 22)).alloc (.cells #[.slice B b.length d] 22)) := balloc (balloc (Below.refl _ w) _) _
  have kA : ((w.alloc (.cells #[.slice A a.length c] 22)).alloc (.cells #[.slice B b.length d] 22)).cell? ⟨w.heap.size, 0, none⟩ = some (.slice A a.length c) := by
    rw [World.cell?_alloc_lt _ _ _ (by simp), World.cell?_alloc_new]; rfl
  have kB : ((w.alloc (.cells #[.slice A a.length c] 22)).alloc (.cells #[.slice B b.length d] 22)).cell? ⟨w.heap.size + 1, 0, none⟩ = some (.slice B b.length d) := by
    have e : (w.alloc (.cells #[.slice A a.length c] 22)).heap.size = w.heap.size + 1 := by simp
    rw [← e, World.cell?_alloc_new]; rfl
  go_enter Try.func9, Try.ntmps9
  go_wp2_with fail
  refine (hD _ (hA.below hb0) (hB.below hb0)).out.mono ?_
  rintro e w1 ⟨N, cn, rfl, rN, hb1⟩
  have hb01 := below_chain hb0 hb1
  have HB : LkBase w1 w1.heap.size w.heap.size (w.heap.size + 1) A B N a b c d cn := ⟨rfl, kept kA hb1, kept kB hb1, hA.below hb01, hB.below hb01, rN⟩
  have hL1 := fun W h => hL _ _ _ _ _ _ HB W h
  clear hD hA hB hb0 hL kA kB HB ha hb
  have x3 := look_start w1 w1.heap.size w.heap.size (w.heap.size + 1) (differ a b).length cn N rfl 23 23 3 64 _ rfl
  generalize differ a b = ns at *
  go_wp2_with fail
  refine (hL1 _ x3).out.mono ?_
  rintro e w5 ⟨rfl, v5, h5⟩
  have h6 := h5.cF
  have h7 : w5.cell? ⟨w1.heap.size + 1 + 1, 0, none⟩ = some (.int .i64 (n : Int)) := h5.cE
  obtain ⟨D5, d5, rfl⟩ := own_shape h5.own
  have hr := Row.own h5.own
  have hb5 := below_chain hb01 h5.bl
  clear h5 x3 hL1 hb01
  go_wp2
  go_quiet (fail)
  go_wp2
  go_ret3
  exact ⟨D5, d5, rfl, hr.below (below_drewN (Below.refl _ _) _), below_drewN hb5 _⟩
end Go.Proofs.Ytmmmolbejfdamaa
