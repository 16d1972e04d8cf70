/- The reference's Parts returns the encoding of a list of strings, and whether it is one of at most 600 bytes and 60 strings. It writes nothing that was there. -/
import Derived.Test.YtjcockcilkiggaaJ01
import Derived.Test.YtjcockcilkiggaaJ03
import Derived.Handy
import Derived.Lib.BufferWrite
import Derived.Test.YtjcockcilkiggaaJ04
import Derived.Deep.RegionWith
import Derived.Test.YtjcockcilkiggaaJ05
import Derived.Test.YtjcockcilkiggaaJ02
import Derived.Deep.RegionHeld3
namespace Go.Proofs.Ytjcockcilkiggaa
open Go.RowKit

theorem hdr_conv (w : World) (m : Nat) :
    (convert 128 9 (.slice (some ⟨w.heap.size, 0, none⟩) 2 2)).run Try.prog (w.alloc (.cells #[.int .u8 ((m : Int) / 256), .int .u8 ((m : Int) % 256)] 5)) =
      .ok (.string (S [UInt8.ofNat (m / 256), UInt8.ofNat m])) (w.alloc (.cells #[.int .u8 ((m : Int) / 256), .int .u8 ((m : Int) % 256)] 5)) := by
  rw [run_convert_bytes_arg (P := Try.prog) _ 128 5 Try.underlying128 Try.underlying5 w.heap.size 0 2 2 [((m / 256 : Nat) : Int), ((m % 256 : Nat) : Int)] rfl (fun i hi => by
    have hi' : i = 0 ∨ i = 1 := by omega
    rcases hi' with rfl | rfl <;> simp) 9 Try.underlying9]
  congr 2
  have h1 : ((m : Int) / 256).toNat = m / 256 := by omega
  have h2 : ((m : Int) % 256).toNat = m % 256 := by omega
  have h3 : UInt8.ofNat (m % 256) = UInt8.ofNat m := by apply UInt8.toNat_inj.1; simp
  simp [strOfNums, S, h1, h2, h3]

end Go.Proofs.Ytjcockcilkiggaa
/- wire.Num and the reference's Num: a number in eight bytes, most significant first. They write nothing that was there. -/
namespace Go.Proofs.Ytjcockcilkiggaa
open Go.RowKit

/-- Eight bytes, most significant first. -/
def be8 (n : Nat) : Bytes :=
  [UInt8.ofNat (n / 72057594037927936), UInt8.ofNat (n / 281474976710656), UInt8.ofNat (n / 1099511627776), UInt8.ofNat (n / 4294967296), UInt8.ofNat (n / 16777216), UInt8.ofNat (n / 65536), UInt8.ofNat (n / 256), UInt8.ofNat n]

theorem conv_new (w : World) (g : Nat) (hg : g = w.heap.size) (zs : List Int) (m : Nat) (hm : zs.length = m) (t : TypeId) :
    (convert 128 9 (.slice (some ⟨g, 0, none⟩) m m)).run Try.prog (w.alloc (.cells (zs.map (Value.int .u8)).toArray t)) = .ok (.string (S (zs.map fun z => UInt8.ofNat z.toNat))) (w.alloc (.cells (zs.map (Value.int .u8)).toArray t)) := by
  subst hg
  rw [run_convert_bytes_arg (P := Try.prog) _ 128 5 Try.underlying128 Try.underlying5 w.heap.size 0 m m zs hm (fun i hi => by
    rw [Nat.zero_add, World.cell?_alloc_new]
    simp [List.getD, show i < zs.length by omega]) 9 Try.underlying9]
  rfl

theorem ofNat_congr {a b : Nat} (h : a % 256 = b % 256) : UInt8.ofNat a = UInt8.ofNat b := by
  apply UInt8.toNat_inj.1
  simpa using h

set_option maxRecDepth 100000 in
theorem num_conv (n : Nat) (w : World) :
    (convert 128 9 (.slice (some ⟨w.heap.size, 0, none⟩) 8 8)).run Try.prog (w.alloc (.cells #[.int .u8 ((n : Int) / 256 / 256 / 256 / 256 / 256 / 256 / 256), .int .u8 ((n : Int) / 256 / 256 / 256 / 256 / 256 / 256 % 256), .int .u8 ((n : Int) / 256 / 256 / 256 / 256 / 256 % 256), .int .u8 ((n : Int) / 256 / 256 / 256 / 256 % 256), .int .u8 ((n : Int) / 256 / 256 / 256 % 256), .int .u8 ((n : Int) / 256 / 256 % 256), .int .u8 ((n : Int) / 256 % 256), .int .u8 ((n : Int) % 256)] 132)) =
      .ok (.string (S (be8 n))) (w.alloc (.cells #[.int .u8 ((n : Int) / 256 / 256 / 256 / 256 / 256 / 256 / 256), .int .u8 ((n : Int) / 256 / 256 / 256 / 256 / 256 / 256 % 256), .int .u8 ((n : Int) / 256 / 256 / 256 / 256 / 256 % 256), .int .u8 ((n : Int) / 256 / 256 / 256 / 256 % 256), .int .u8 ((n : Int) / 256 / 256 / 256 % 256), .int .u8 ((n : Int) / 256 / 256 % 256), .int .u8 ((n : Int) / 256 % 256), .int .u8 ((n : Int) % 256)] 132)) := by
  have h := conv_new w _ rfl [(n : Int) / 256 / 256 / 256 / 256 / 256 / 256 / 256, (n : Int) / 256 / 256 / 256 / 256 / 256 / 256 % 256, (n : Int) / 256 / 256 / 256 / 256 / 256 % 256, (n : Int) / 256 / 256 / 256 / 256 % 256, (n : Int) / 256 / 256 / 256 % 256, (n : Int) / 256 / 256 % 256, (n : Int) / 256 % 256, (n : Int) % 256] 8 rfl 132
  simp only [List.map_cons, List.map_nil] at h
  rw [h]
  have e : ∀ a b : Bytes, a = b → (Result.ok (Value.string (S a)) (w.alloc (.cells #[.int .u8 ((n : Int) / 256 / 256 / 256 / 256 / 256 / 256 / 256), .int .u8 ((n : Int) / 256 / 256 / 256 / 256 / 256 / 256 % 256), .int .u8 ((n : Int) / 256 / 256 / 256 / 256 / 256 % 256), .int .u8 ((n : Int) / 256 / 256 / 256 / 256 % 256), .int .u8 ((n : Int) / 256 / 256 / 256 % 256), .int .u8 ((n : Int) / 256 / 256 % 256), .int .u8 ((n : Int) / 256 % 256), .int .u8 ((n : Int) % 256)] 132))) = .ok (.string (S b)) _ := fun a b h => by rw [h]
  apply e
  unfold be8
  congr 1
  · exact ofNat_congr (by omega)
  congr 1
  · exact ofNat_congr (by omega)
  congr 1
  · exact ofNat_congr (by omega)
  congr 1
  · exact ofNat_congr (by omega)
  congr 1
  · exact ofNat_congr (by omega)
  congr 1
  · exact ofNat_congr (by omega)
  congr 1
  · exact ofNat_congr (by omega)
  congr 1
  exact ofNat_congr (by omega)

set_option maxRecDepth 100000 in
set_option maxHeartbeats 400000 in
theorem num_any (n : Nat) (w : World) (hn : n < 18446744073709551616) :
    Calls Try.prog 79 #[.int .u64 (n : Int)] w fun e w' => e = .returned (.string (S (be8 n))) ∧ Below w.heap.size w w' := by
  have hcv := num_conv n w
  go_enter Try.func79, Try.ntmps79
  go_wp2
  go_rounds 9
  go_ret
  exact ⟨rfl, (Below.refl _ _).alloc (Nat.le_refl _) _⟩

theorem conv_one (w : World) (g : Nat) (hg : g = w.heap.size) (z : Int) (t : TypeId) :
    (convert 128 9 (.slice (some ⟨g, 0, none⟩) 1 1)).run Try.prog (w.alloc (.cells #[.int .u8 z] t)) = .ok (.string (S [UInt8.ofNat z.toNat])) (w.alloc (.cells #[.int .u8 z] t)) :=
  conv_new w g hg [z] 1 rfl t

theorem be8_ref (n : Nat) : S [UInt8.ofNat (n / 256 / 256 / 256 / 256 / 256 / 256 / 256 % 256)] ++ (S [UInt8.ofNat (n / 256 / 256 / 256 / 256 / 256 / 256 % 256)] ++ (S [UInt8.ofNat (n / 256 / 256 / 256 / 256 / 256 % 256)] ++ (S [UInt8.ofNat (n / 256 / 256 / 256 / 256 % 256)] ++ (S [UInt8.ofNat (n / 256 / 256 / 256 % 256)] ++ (S [UInt8.ofNat (n / 256 / 256 % 256)] ++ (S [UInt8.ofNat (n / 256 % 256)] ++ (S [UInt8.ofNat (n % 256)] ++ ⟨#[]⟩))))))) = S (be8 n) := by
  rw [← S_nil]
  simp only [S_append, List.cons_append, List.nil_append, be8]
  rw [ofNat_congr (a := n / 256 / 256 / 256 / 256 / 256 / 256 / 256 % 256) (b := n / 72057594037927936) (by omega), ofNat_congr (a := n / 256 / 256 / 256 / 256 / 256 / 256 % 256) (b := n / 281474976710656) (by omega), ofNat_congr (a := n / 256 / 256 / 256 / 256 / 256 % 256) (b := n / 1099511627776) (by omega),
    ofNat_congr (a := n / 256 / 256 / 256 / 256 % 256) (b := n / 4294967296) (by omega), ofNat_congr (a := n / 256 / 256 / 256 % 256) (b := n / 16777216) (by omega), ofNat_congr (a := n / 256 / 256 % 256) (b := n / 65536) (by omega), ofNat_congr (a := n / 256 % 256) (b := n / 256) (by omega), ofNat_congr (a := n % 256) (b := n) (by omega)]


theorem List.reverseRecOn' {α : Type} {P : List α → Prop} (nil : P []) (snoc : ∀ l b, P l → P (l ++ [b])) (l : List α) : P l := by
  rw [← List.reverse_reverse l]
  induction l.reverse with
  | nil => exact nil
  | cons a t ih => rw [List.reverse_cons]; exact snoc _ _ ih

/-- Eight bytes as a number. -/
def num8 : Bytes → Nat := List.foldl (fun n b => 256 * n + b.toNat) 0

theorem num8_be8 (n : Nat) (h : n < 18446744073709551616) : num8 (be8 n) = n := by
  simp only [num8, be8, List.foldl_cons, List.foldl_nil, UInt8.toNat_ofNat']
  omega

theorem be8_inj {n m : Nat} (hn : n < 18446744073709551616) (hm : m < 18446744073709551616) (h : be8 n = be8 m) : n = m := by
  rw [← num8_be8 n hn, h, num8_be8 m hm]
theorem be8_length (n : Nat) : (be8 n).length = 8 := rfl
end Go.Proofs.Ytjcockcilkiggaa
/- mark.Said and the reference's Two return the 17 bytes: the kind and both numbers; mark.Two returns their hash. They write nothing that was there. -/
namespace Go.Proofs.Ytjcockcilkiggaa
open Go.RowKit

def said (k : UInt8) (a b : Nat) : Bytes := k :: (be8 a ++ be8 b)

theorem conv_at (w : World) (g : Nat) (k : UInt8) (hc : w.cell? ⟨g, 0, none⟩ = some (.int .u8 (k.toNat : Int))) :
    (convert 128 9 (.slice (some ⟨g, 0, none⟩) 1 1)).run Try.prog w = .ok (.string (S [k])) w := by
  rw [run_convert_bytes_arg (P := Try.prog) _ 128 5 Try.underlying128 Try.underlying5 g 0 1 1 [(k.toNat : Int)] rfl (fun i hi => by
    obtain rfl : i = 0 := by omega
    rw [Nat.zero_add, hc]
    rfl) 9 Try.underlying9]
  simp [strOfNums, S]
theorem new_cell' (w : World) (v : Value) (t : TypeId) : ((w.alloc (.cells #[v] t)).drew).cell? ⟨w.heap.size, 0, none⟩ = some v := new_cell w v t

theorem balloc {a b : World} (h : Below a.heap.size a b) (o : Obj) : Below a.heap.size a (b.alloc o) := h.alloc h.size o
theorem bdrew {a b : World} (h : Below a.heap.size a b) : Below a.heap.size a b.drew := below_drewN h 1

set_option maxRecDepth 100000 in
set_option maxHeartbeats 400000 in
theorem markSaid (k : UInt8) (a b : Nat) (w : World) (ha : a < 18446744073709551616) (hb : b < 18446744073709551616) :
    Calls Try.prog 78 #[.int .u8 (k.toNat : Int), .int .u64 (a : Int), .int .u64 (b : Int)] w fun e w' => e = .returned (.string (S (said k a b))) ∧ Below w.heap.size w w' := by
  have hA := fun w => Lib.hid (num_any a w ha)
  have hB := fun w => Lib.hid (num_any b w hb)
  have hC := fun (w : World) (g : Nat) hc => conv_at w g k hc
  have hp := be8_length a
  have hq := be8_length b
  have HS : Hid (said k a b = k :: (be8 a ++ be8 b)) := rfl
  generalize said k a b = s at *
  generalize be8 a = p at *
  generalize be8 b = q at *
  clear ha hb
  go_enter Try.func78, Try.ntmps78
  go_wp2
  go_region_with (first | (go_at_call_of 79 a; refine (hA _).out.mono ?_; rintro e w1 ⟨rfl, hb1⟩; try have hc1 := kept (new_cell' w (.int .u8 (k.toNat : Int)) 5) hb1) | (go_at_call_of 79 b; refine (hB _).out.mono ?_; rintro e w2 ⟨rfl, hb2⟩; first | have hc2 := kept hc1 hb2 | have hc2 := kept (new_cell w1 (.int .u8 (k.toNat : Int)) 5) hb2 | skip))
  all_goals go_wp2
  all_goals go_ret
  all_goals refine ⟨congrArg (fun s => Ending.returned (.string s)) (congrArg S HS.out.symm), ?_⟩
  all_goals first | exact below_chain (below_chain (balloc (bdrew (Below.refl _ _)) _) hb1) hb2 | exact below_chain (balloc (below_chain (bdrew (Below.refl _ _)) hb1) _) hb2 | exact balloc (below_chain (below_chain (bdrew (Below.refl _ _)) hb1) hb2) _


set_option maxHeartbeats 400000 in
theorem markTwo (k : UInt8) (a b : Nat) (w : World) (ha : a < 18446744073709551616) (hb : b < 18446744073709551616) :
    Calls Try.prog 71 #[.int .u8 (k.toNat : Int), .int .u64 (a : Int), .int .u64 (b : Int)] w fun e w' => e = .returned (.int .u64 (Hash.of (said k a b) : Int)) ∧ Below w.heap.size w w' := by
  have hS := fun w => Lib.hid (markSaid k a b w ha hb)
  have hO := fun w => Lib.hid (markOf (said k a b) w (by show _ ≤ (2 : Nat) ^ 63 - 1; simp [said, be8]))
  clear ha hb
  generalize said k a b = s at *
  go_enter Try.func71, Try.ntmps71
  go_wp2_with fail
  refine (hS _).out.mono ?_
  rintro e w1 ⟨rfl, hb1⟩
  go_wp2_with fail
  refine (hO _).out.mono ?_
  rintro e w2 ⟨rfl, m, rfl⟩
  go_wp2
  go_ret
  exact ⟨rfl, below_drewN hb1 m⟩
end Go.Proofs.Ytjcockcilkiggaa
/- The reference: LeafSaid returns the preimage of entries of one path, NodeSaid that of two hashes. They write nothing that was there. -/
namespace Go.Proofs.Ytjcockcilkiggaa
open Go.RowKit

/-- What the entries say, one behind the other. -/
def leafBytes (es : List Ent) : Bytes := es.flatMap fun x => Wire.enc [x.1, x.2]
def leafOf (es : List Ent) : Bytes := if es = [] then [0] else 1 :: leafBytes es
theorem leafBytes_snoc (es : List Ent) (x : Ent) : leafBytes (es ++ [x]) = leafBytes es ++ Wire.enc [x.1, x.2] := by simp [leafBytes]
/-- The hash of nothing. -/
def nil0 : Nat := Hash.of [0]
def nodeOf (a b : Nat) : Bytes := if a = nil0 ∧ b = nil0 then [0] else said 2 a b

end Go.Proofs.Ytjcockcilkiggaa
/- The reference: AskFault returns the first error of a request, Tag and AskTag the tag of a string and of a request. They write nothing that was there. -/
namespace Go.Proofs.Ytjcockcilkiggaa
open Go.RowKit

def askFault (n v : Bytes) : Int := if Bin.name n = true then (if 20 < v.length then 2 else 0) else 3
theorem askFault_ok (n v : Bytes) : askFault n v = 0 ↔ Bin.name n = true ∧ v.length ≤ 20 := by
  unfold askFault
  by_cases h : Bin.name n = true
  · rw [if_pos h]
    by_cases h2 : 20 < v.length
    · rw [if_pos h2]
      exact ⟨fun h => by simp at h, fun h => by have := h.2; omega⟩
    · rw [if_neg h2]
      exact ⟨fun _ => ⟨h, by omega⟩, fun _ => rfl⟩
  · rw [if_neg h]
    exact ⟨fun h => by simp at h, fun k => absurd k.1 h⟩
def tagOf (key : Nat) (s : Bytes) : Nat := Hash.of (be8 key ++ s ++ be8 key)
def askTag (key : Nat) (n v : Bytes) (num : Nat) : Nat := tagOf key (be8 num ++ Wire.enc [n, v])



end Go.Proofs.Ytjcockcilkiggaa
/- Queues: the error of one; the reference's QueueFault and SameQueue. They write nothing that was there. -/
namespace Go.Proofs.Ytjcockcilkiggaa
set_option maxRecDepth 100000
open Go.RowKit

/-- The first error of requests. -/
def asksFault : List Ak → Int
  | [] => 0
  | x :: l => if askFault x.1 x.2.1 = 0 then asksFault l else askFault x.1 x.2.1
/-- The error of a queue. -/
def qfault (most : Int) (l : List Ak) : Int := if most < 1 ∨ 30 < most then 4 else if most < (l.length : Int) then 7 else asksFault l
theorem asksFault_ok (l : List Ak) : asksFault l = 0 ↔ ∀ x ∈ l, askFault x.1 x.2.1 = 0 := by
  induction l with
  | nil => simp [asksFault]
  | cons x l ih =>
    rw [asksFault]
    by_cases h : askFault x.1 x.2.1 = 0
    · rw [if_pos h, ih]
      simp [h]
    · rw [if_neg h]
      exact ⟨fun e => absurd e h, fun e => e x (by simp)⟩
/-- A queue. -/
structure QGood (most : Int) (l : List Ak) : Prop where
  m1 : 1 ≤ most
  m30 : most ≤ 30
  len : (l.length : Int) ≤ most
  each : ∀ x ∈ l, askFault x.1 x.2.1 = 0
theorem qfault_ok (most : Int) (l : List Ak) : qfault most l = 0 ↔ QGood most l := by
  unfold qfault
  constructor
  · intro h
    split at h
    · cases h
    · split at h
      · cases h
      · exact ⟨by omega, by omega, by omega, (asksFault_ok l).1 h⟩
  · rintro ⟨h1, h2, h3, h4⟩
    rw [if_neg (by omega), if_neg (by omega)]
    exact (asksFault_ok l).2 h4
/-- A request's strings fit. -/
def AkFits (x : Ak) : Prop := x.1.length ≤ maxLen ∧ x.2.1.length ≤ maxLen


set_option maxHeartbeats 2000000 in
theorem refSameQueue (m n : Int) (A B : Option Addr) (c d : Nat) (l k : List Ak) (w : World) (hl : l.length ≤ maxLen) (hA : Row w A (qcells l)) (hB : Row w B (qcells k)) (r : Bool) (hr : (m == n && decide (l = k)) = r) :
    Calls Try.prog 36 #[.agg #[.int .i64 m, .slice A l.length c], .agg #[.int .i64 n, .slice B k.length d]] w fun e w' => e = .returned (.bool r) ∧ Below w.heap.size w w' := by
  have hS := fun (w : World) hA hB => Lib.hid (refSameAsks A B c d l k w hl _ rfl hA hB)
  have hb1 := (Below.refl w.heap.size w).alloc (Nat.le_refl _) (.cells #[.int .i64 m, .slice A l.length c] 24)
  have hb2 := hb1.alloc hb1.size (.cells #[.int .i64 n, .slice B k.length d] 24)
  have y := Bx.new w _ rfl _ [.int .i64 m, .slice A l.length c] 24 rfl
  have y2 := y.alloc (.cells #[.int .i64 n, .slice B k.length d] 24)
  have z := Bx.new (w.alloc (.cells #[.int .i64 m, .slice A l.length c] 24)) _ rfl _ [.int .i64 n, .slice B k.length d] 24 rfl
  have y0 := y2.c 0 (by simp)
  have y1 := y2.c 1 (by simp)
  have z0 := z.c 0 (by simp)
  have z1 := z.c 1 (by simp)
  have hA2 := (hA.alloc (.cells #[.int .i64 m, .slice A l.length c] 24)).alloc (.cells #[.int .i64 n, .slice B k.length d] 24)
  have hB2 := (hB.alloc (.cells #[.int .i64 m, .slice A l.length c] 24)).alloc (.cells #[.int .i64 n, .slice B k.length d] 24)
  simp only [List.getElem_cons_zero, List.getElem_cons_succ] at y0 y1 z0 z1
  have HR := Lib.hid hr
  generalize decide (l = k) = q at *
  clear hr y y2 z hA hB
  cases c1 : m == n with
  | false =>
    have HF : Hid (r = false) := by show r = false; rw [← HR.out, c1]; rfl
    clear HR hS hA2 hB2
    go_enter Try.func36, Try.ntmps36
    go_wp2
    go_ret
    exact ⟨by rw [HF.out]; rfl, hb2⟩
  | true =>
    have HF : Hid (r = q) := by show r = q; rw [← HR.out, c1]; rfl
    clear HR
    go_enter Try.func36, Try.ntmps36
    go_wp2_with fail
    refine (hS _ hA2 hB2).out.mono ?_
    rintro e w1 ⟨rfl, s, rfl⟩
    go_wp2
    go_ret
    exact ⟨by rw [HF.out]; rfl, below_drewN hb2 s⟩
end Go.Proofs.Ytjcockcilkiggaa
/- Heads: a number, a root, the hash of the one before, a time. The reference's HeadFault, HeadSaid, HeadMark and Links. They write nothing that was there. -/
namespace Go.Proofs.Ytjcockcilkiggaa
set_option maxRecDepth 100000
open Go.RowKit

/-- A head: its epoch, root, previous hash and time. -/
abbrev Hd := Int × Nat × Nat × Int
def hval (h : Hd) : Value := .agg #[.int .i64 h.1, .int .u64 (h.2.1 : Int), .int .u64 (h.2.2.1 : Int), .int .i64 h.2.2.2]
def hfault (h : Hd) : Int :=
  if h.1 < 0 then 4 else if 1000000 < h.1 then 4 else if 2305843009213693951 ≤ h.2.1 then 4 else if 2305843009213693951 ≤ h.2.2.1 then 4 else if h.2.2.2 < 0 then 4 else if 1000000000 < h.2.2.2 then 4 else
    if h.1 = 0 then (if h.2.2.1 = 0 then 0 else 3) else 0
structure HGood (h : Hd) : Prop where
  e0 : 0 ≤ h.1
  e1 : h.1 ≤ 1000000
  r : h.2.1 < 2305843009213693951
  p : h.2.2.1 < 2305843009213693951
  t0 : 0 ≤ h.2.2.2
  t1 : h.2.2.2 ≤ 1000000000
  z : h.1 = 0 → h.2.2.1 = 0
theorem hfault_ok (h : Hd) : hfault h = 0 ↔ HGood h := by
  unfold hfault
  constructor
  · intro e
    by_cases h1 : h.1 < 0
    · rw [if_pos h1] at e; exact absurd e (by decide)
    rw [if_neg h1] at e
    by_cases h2 : 1000000 < h.1
    · rw [if_pos h2] at e; exact absurd e (by decide)
    rw [if_neg h2] at e
    by_cases h3 : 2305843009213693951 ≤ h.2.1
    · rw [if_pos h3] at e; exact absurd e (by decide)
    rw [if_neg h3] at e
    by_cases h4 : 2305843009213693951 ≤ h.2.2.1
    · rw [if_pos h4] at e; exact absurd e (by decide)
    rw [if_neg h4] at e
    by_cases h5 : h.2.2.2 < 0
    · rw [if_pos h5] at e; exact absurd e (by decide)
    rw [if_neg h5] at e
    by_cases h6 : 1000000000 < h.2.2.2
    · rw [if_pos h6] at e; exact absurd e (by decide)
    rw [if_neg h6] at e
    refine ⟨by omega, by omega, by omega, by omega, by omega, by omega, fun hz => ?_⟩
    rw [if_pos hz] at e
    by_cases h7 : h.2.2.1 = 0
    · exact h7
    · rw [if_neg h7] at e; exact absurd e (by decide)
  · rintro ⟨e0, e1, r, p, t0, t1, z⟩
    rw [if_neg (by omega), if_neg (by omega), if_neg (by omega), if_neg (by omega), if_neg (by omega), if_neg (by omega)]
    by_cases hz : h.1 = 0
    · rw [if_pos hz, if_pos (z hz)]
    · rw [if_neg hz]
def hsaid (h : Hd) : Bytes := 3 :: (be8 h.1.toNat ++ be8 h.2.1 ++ be8 h.2.2.1 ++ be8 h.2.2.2.toNat)
def hmark (h : Hd) : Nat := Hash.of (hsaid h)
theorem hsaid_length (h : Hd) : (hsaid h).length = 33 := by
  unfold hsaid
  rw [List.length_cons, List.length_append, List.length_append, List.length_append, be8_length, be8_length, be8_length, be8_length]
theorem hsaid_le (h : Hd) : (hsaid h).length ≤ maxLen := by rw [hsaid_length]; unfold maxLen; omega
def links (h g : Hd) : Bool := decide (hfault h = 0) && decide (hfault g = 0) && decide (g.1 = h.1 + 1) && decide (g.2.2.1 = hmark h) && decide (h.2.2.2 ≤ g.2.2.2)


/-- A head in its box. -/
structure HBox (w : World) (g : Nat) (ep : Int) (rt pv : Nat) (tm : Int) : Prop where
  h0 : w.cell? ⟨g, 0, none⟩ = some (.int .i64 ep)
  h1 : w.cell? ⟨g, 1, none⟩ = some (.int .u64 (rt : Int))
  h2 : w.cell? ⟨g, 2, none⟩ = some (.int .u64 (pv : Int))
  h3 : w.cell? ⟨g, 3, none⟩ = some (.int .i64 tm)
theorem HBox.below {w w' : World} {g : Nat} {ep : Int} {rt pv : Nat} {tm : Int} (h : HBox w g ep rt pv tm) (hb : Below w.heap.size w w') : HBox w' g ep rt pv tm := ⟨kept h.h0 hb, kept h.h1 hb, kept h.h2 hb, kept h.h3 hb⟩
theorem HBox.alloc {w : World} {g : Nat} {ep : Int} {rt pv : Nat} {tm : Int} (h : HBox w g ep rt pv tm) (o : Obj) : HBox (w.alloc o) g ep rt pv tm := h.below ((Below.refl _ _).alloc (Nat.le_refl _) o)
theorem HBox.new (w : World) (ep : Int) (rt pv : Nat) (tm : Int) (t : TypeId) : HBox (w.alloc (.cells #[.int .i64 ep, .int .u64 (rt : Int), .int .u64 (pv : Int), .int .i64 tm] t)) w.heap.size ep rt pv tm :=
  ⟨by rw [World.cell?_alloc_new]; rfl, by rw [World.cell?_alloc_new]; rfl, by rw [World.cell?_alloc_new]; rfl, by rw [World.cell?_alloc_new]; rfl⟩

end Go.Proofs.Ytjcockcilkiggaa
