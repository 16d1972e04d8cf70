/- slices.Equal at []string returns whether two lists of strings are the same; wire.fits returns whether the encodings of a list of strings have at most 600 bytes together. Both write nothing. -/
import Derived.Test.YtjcockcilkiggaaJ01
import Derived.Test.YtjcockcilkiggaaJ03
import Derived.Test.YtjcockcilkiggaaJ20
import Derived.Test.YtjcockcilkiggaaJ06
namespace Go.Proofs.Ytjcockcilkiggaa
open Go.RowKit

set_option maxHeartbeats 400000 in
theorem fits (A : Option Addr) (ca : Nat) (ss : List Bytes) (w : World) (hm : ss.length ≤ maxLen) (b : Bool) (hb : Wire.fitsB ss = b) (hA : Row w A (scells ss)) :
    Calls Try.prog 81 #[.slice A ss.length ca] w fun e w' => e = .returned (.bool b) ∧ w = w' := by
  unfold maxLen at hm
  have HB := Lib.hid hb
  clear hb
  go_enter Try.func81, Try.ntmps81
  go_wp2
  go_loop [3, 8] (fun l i => ∃ k n : Nat, k ≤ ss.length ∧ i = .int .i64 k ∧ l = .int .i64 (600 - (n : Int)) ∧ n ≤ 600 ∧ Hid (Wire.encLen (ss.take k) = n)) (fun _ i => ss.length - (intOf i).toNat)
  case atStart => exact ⟨0, 0, Nat.zero_le _, rfl, rfl, by omega, rfl⟩
  case round =>
    obtain ⟨k, n, hk, rfl, rfl, hn, hpre⟩ := hrel
    by_cases hlt : k < ss.length
    · obtain ⟨g, off, rfl, hc⟩ := hA (by rw [scells_length]; omega)
      have h1 := hc k (by rw [scells_length]; exact hlt)
      simp only [scells, List.getElem_map] at h1
      have hi0 : (0 : Int) ≤ (k : Int) := by omega
      have hi1 : (k : Int) < (ss.length : Int) := by omega
      have hst := Wire.encLen_step ss k hlt
      rw [hpre.out] at hst
      have hle := Wire.encLen_take_le ss (k + 1)
      clear hA hc
      by_cases hgt : n + (2 + ss[k].length) ≤ 600
      · have HS := Lib.hid hst
        clear hst hle
        go_wp2
        go_round
        case rel => exact ⟨k + 1, n + (2 + ss[k].length), by omega, by go_num, by go_num, by omega, HS⟩
        case measure => simp [intOf]; omega
      · have HF : Hid (b = false) := by
          show b = false
          rw [← HB.out]
          simp only [Wire.fitsB, decide_eq_false_iff_not]
          omega
        clear hst hle
        go_wp2
        go_ret
        exact ⟨by rw [HF.out]; rfl, rfl⟩
    · have HF : Hid (b = true) := by
        show b = true
        rw [← HB.out]
        have := hpre.out
        rw [List.take_of_length_le (by omega)] at this
        simp only [Wire.fitsB, decide_eq_true_eq]
        omega
      go_wp2
      go_ret
      exact ⟨by rw [HF.out]; rfl, rfl⟩
end Go.Proofs.Ytjcockcilkiggaa
/- wire.Put and the reference's Parts. -/
namespace Go.Proofs.Ytjcockcilkiggaa
open Go.RowKit

set_option maxHeartbeats 400000 in
theorem put_no (A : Option Addr) (ca : Nat) (ss : List Bytes) (w : World) (hm : ss.length ≤ maxLen) (hb : Wire.okB ss = false) (hA : Row w A (scells ss)) :
    Calls Try.prog 77 #[.slice A ss.length ca] w fun e w' => e = .returned (.tuple #[.string (S []), .int .i64 2]) ∧ w = w' := by
  by_cases h60 : ss.length ≤ 60
  · have hf : Wire.fitsB ss = false := by simpa [Wire.okB, h60] using hb
    clear hb
    go_enter Try.func77, Try.ntmps77
    go_wp2_with (go_at_call 81; refine (fits A ca ss _ hm false hf hA).mono ?_; rintro e w' ⟨rfl, rfl⟩)
    go_ret2
    exact ⟨rfl, rfl⟩
  · clear hb
    unfold maxLen at hm
    go_enter Try.func77, Try.ntmps77
    go_wp2
    go_ret2
    exact ⟨rfl, rfl⟩

theorem hdr_cells (w : World) (m : Nat) (t : TypeId) (hm : m ≤ 600) : ∀ j u, (bcells [UInt8.ofNat (m / 256), UInt8.ofNat m])[j]? = some u →
    (w.alloc (.cells #[.int .u8 ((m : Int) / 256), .int .u8 ((m : Int) % 256)] t)).cell? ((⟨w.heap.size, 0, none⟩ : Addr).add j) = some u := by
  have e : #[Value.int .u8 ((m : Int) / 256), .int .u8 ((m : Int) % 256)] = (bcells [UInt8.ofNat (m / 256), UInt8.ofNat m]).toArray := by
    have h1 : (UInt8.ofNat (m / 256)).toNat = m / 256 := by simp; omega
    have h2 : (UInt8.ofNat m).toNat = m % 256 := by simp
    simp only [bcells, List.map_cons, List.map_nil, h1, h2]
    simp
  rw [e]
  exact cells_new _ _ _ _ rfl

set_option maxHeartbeats 400000 in
theorem put_yes (A : Option Addr) (ca : Nat) (ss : List Bytes) (w : World) (hb : Wire.okB ss = true) (hA : Row w A (scells ss)) :
    Calls Try.prog 77 #[.slice A ss.length ca] w fun e w' => e = .returned (.tuple #[.string (S (Wire.enc ss)), .int .i64 0]) ∧ Below w.heap.size w w' := by
  obtain ⟨h60, hf⟩ : ss.length ≤ 60 ∧ Wire.fitsB ss = true := by simpa [Wire.okB] using hb
  clear hb
  have hm : ss.length ≤ maxLen := by unfold maxLen; omega
  go_enter Try.func77, Try.ntmps77
  go_wp2_with (go_at_call 81; refine (fits A ca ss _ hm true hf hA).mono ?_; rintro e w' ⟨rfl, rfl⟩)
  go_loopw [4, 17] (fun o i wr => ∃ k : Nat, k ≤ ss.length ∧ i = .int .i64 k ∧ wr.ownsRow w.heap.size 5 1 o (Wire.enc (ss.take k)).length (bcells (Wire.enc (ss.take k))) ∧ Below w.heap.size w wr) (fun _ i _ => ss.length - (intOf i).toNat)
  case atStart => exact ⟨0, Nat.zero_le _, rfl, World.ownsRow_nil _ _ _ _, Below.refl _ _⟩
  case round =>
    obtain ⟨k, hk, rfl, hown, hbl⟩ := hrel
    have hsz := hbl.size
    by_cases hlt : k < ss.length
    · obtain ⟨g, off, rfl, hc⟩ := hA.below hbl (by rw [scells_length]; omega)
      have h1 := hc k (by rw [scells_length]; exact hlt)
      simp only [scells, List.getElem_map] at h1
      have hi0 : (0 : Int) ≤ (k : Int) := by omega
      have hi1 : (k : Int) < (ss.length : Int) := by omega
      clear hA hc
      have hle := Wire.encLen_take_le ss (k + 1)
      have hst := Wire.encLen_step ss k hlt
      have hok : Wire.encLen ss ≤ 600 := by simpa [Wire.fitsB] using hf
      have hl1 : (Wire.enc (ss.take k)).length ≤ 600 := by rw [Wire.enc_length]; omega
      have hl2 : ss[k].length ≤ 600 := by omega
      clear hst hle hok
      go_wp2_with (first
        | (at_builtin; refine app_u8 _ rfl _ _ rfl w.heap.size _ (Wire.enc (ss.take k)) rfl (hown.alloc _) ⟨wr.heap.size, 0, none⟩ 2 [UInt8.ofNat (ss[k].length / 256), UInt8.ofNat ss[k].length] 2 rfl rfl (hdr_cells _ _ _ hl2) (by simp; omega) (by simp; omega) ?_; intro v1 w1 hown1 hgrow1)
        | (at_builtin; refine app_str _ rfl _ _ rfl w.heap.size _ (Wire.enc (ss.take k) ++ [UInt8.ofNat (ss[k].length / 256), UInt8.ofNat ss[k].length]) rfl hown1 ss[k] rfl (by simp; omega) (by have := hgrow1.size; simp at this; omega) ?_; intro v2 w2 hown2 hgrow2))
      have hb1 : Below w.heap.size w w1 := (hbl.alloc hsz _).grown hgrow1 (by simp; omega) (fun g' hg' => (hown.lt g' hg').1)
      have hb2 : Below w.heap.size w w2 := hb1.grown hgrow2 hb1.size (fun g' hg' => (hown1.lt g' hg').1)
      rw [List.append_assoc] at hown2
      have HS : Hid (w2.ownsRow w.heap.size 5 1 v2 (Wire.enc (ss.take (k + 1))).length (bcells (Wire.enc (ss.take (k + 1))))) := by
        show w2.ownsRow w.heap.size 5 1 v2 _ _
        rw [Wire.enc_step ss k hlt]
        exact hown2
      go_roundw
      case rel => exact ⟨k + 1, by omega, by go_num, HS.out, hb2⟩
      case measure => simp [intOf]; omega
    · have e : ss.take k = ss := List.take_of_length_le (by omega)
      rw [e] at hown
      clear e
      have hcv := conv_own (P := Try.prog) Try.underlying128 Try.underlying5 Try.underlying9 hown
      go_wp2
      go_ret2
      exact ⟨rfl, hbl⟩
theorem put_two (a b : Bytes) (w : World) (g : Nat) (hg : g = w.heap.size) (h : a.length + b.length ≤ 596) (t : TypeId) :
    Calls Try.prog 77 #[.slice (some ⟨g, 0, none⟩) 2 2] (w.alloc (.cells #[.string (S a), .string (S b)] t)) fun e w' => e = .returned (.tuple #[.string (S (Wire.enc [a, b])), .int .i64 0]) ∧ Below (w.alloc (.cells #[.string (S a), .string (S b)] t)).heap.size (w.alloc (.cells #[.string (S a), .string (S b)] t)) w' :=
  put_yes (some ⟨g, 0, none⟩) 2 [a, b] _ (by simp [Wire.okB, Wire.fitsB, Wire.encLen]; omega) (Row.new w g _ _ t hg rfl)
end Go.Proofs.Ytjcockcilkiggaa
/- package tree: preimage returns the preimage of entries of one path, isPrefix whether a string is a prefix; Leaf returns the preimage of a book of one path. They write nothing that was there. -/
namespace Go.Proofs.Ytjcockcilkiggaa
open Go.RowKit

set_option maxRecDepth 100000 in
set_option maxHeartbeats 400000 in
theorem treeSaid (A : Option Addr) (c : Nat) (es : List Ent) (w : World) (hm : es.length ≤ 1000) (hes : ∀ x ∈ es, x.1.length + x.2.length ≤ 596) (hA : Row w A (encells es)) :
    Calls Try.prog 69 #[.slice A es.length c] w fun e w' => e = .returned (.string (S (leafOf es))) ∧ Below w.heap.size w w' := by
  rcases Nat.eq_zero_or_pos es.length with h0 | h0
  · obtain rfl : es = [] := List.eq_nil_of_length_eq_zero h0
    rw [List.length_nil]
    clear hes h0 hm hA
    go_enter Try.func69, Try.ntmps69
    go_wp2
    go_ret
    exact ⟨rfl, Below.refl _ _⟩
  · have c1 : ((es.length : Int) == 0) = false := by
      rw [beq_eq_false_iff_ne]
      omega
    have HL : Hid (leafOf es = 1 :: leafBytes es) := by
      show leafOf es = _
      rw [leafOf, if_neg (by rintro rfl; simp at h0)]
    have HE := Lib.hid hes
    clear hes h0
    go_enter Try.func69, Try.ntmps69
    go_wp2
    go_loopw [3, 13] (fun o i wr => ∃ (k : Nat) (out : Bytes), k ≤ es.length ∧ i = .int .i64 k ∧ o = .string (S out) ∧ out.length ≤ 1 + k * 600 ∧ Hid (out = 1 :: leafBytes (es.take k)) ∧ Below w.heap.size w wr) (fun _ i _ => es.length - (intOf i).toNat)
    case atStart => exact ⟨0, [1], Nat.zero_le _, rfl, rfl, by simp, rfl, Below.refl _ _⟩
    case round =>
      obtain ⟨k, out, hk, rfl, rfl, hol, HO, hbl⟩ := hrel
      have hsz := hbl.size
      clear c1
      by_cases hlt : k < es.length
      · obtain ⟨g, off, rfl, h1, h2⟩ := (hA.below hbl).ent k hlt
        have hi0 : (0 : Int) ≤ (k : Int) := by omega
        have hi1 : (k : Int) < (es.length : Int) := by omega
        have hx := HE.out _ (List.getElem_mem hlt)
        have HO' : Hid (out ++ Wire.enc [es[k].1, es[k].2] = 1 :: leafBytes (es.take (k + 1))) := by
          show out ++ _ = _
          rw [List.take_succ_eq_append_getElem hlt, leafBytes_snoc, HO.out]
          rfl
        have hel : (Wire.enc [es[k].1, es[k].2]).length ≤ 600 := by
          rw [Wire.enc_length]
          simp [Wire.encLen]
          omega
        have hP := fun w g hg t => Lib.hid (put_two es[k].1 es[k].2 w g hg hx t)
        clear hA HO hx
        generalize Wire.enc [es[k].1, es[k].2] = z at *
        generalize es[k].1 = a at *
        generalize es[k].2 = b at *
        go_wp2_with fail
        refine (hP _ _ (by simp) _).out.mono ?_
        rintro e w1 ⟨rfl, hb1⟩
        have hb0 : Below w.heap.size w w1 := below_chain ((hbl.alloc hsz _).alloc (by simp; omega) _) hb1
        go_wp2
        go_roundw
        case rel => exact ⟨k + 1, out ++ z, by omega, by go_num, rfl, by rw [List.length_append]; omega, HO', hb0⟩
        case measure => simp [intOf]; omega
      · have HO' : Hid (leafOf es = out) := by
          show leafOf es = out
          rw [HL.out, HO.out, List.take_of_length_le (by omega)]
        go_wp2
        go_ret
        exact ⟨by rw [HO'.out]; rfl, hbl⟩

set_option maxRecDepth 100000 in
set_option maxHeartbeats 800000 in
theorem treeIsPrefix (l : Bytes) (w : World) (hl : l.length ≤ maxLen) (b : Bool) (hb : (l.all Bin.bitByte && decide (l.length ≤ 16)) = b) :
    Calls Try.prog 61 #[.string (S l)] w fun e w' => e = .returned (.bool b) ∧ w = w' := by
  unfold maxLen at hl
  have HB := Lib.hid hb
  clear hb
  go_enter Try.func61, Try.ntmps61
  go_wp2
  go_loop [3] (fun i => ∃ k : Nat, k ≤ l.length ∧ i = .int .i64 k ∧ Hid ((l.take k).all Bin.bitByte = true)) (fun i => l.length - (intOf i).toNat)
  case atStart => exact ⟨0, Nat.zero_le _, rfl, rfl⟩
  case round =>
    obtain ⟨k, hk, rfl, hpre⟩ := hrel
    by_cases hlt : k < l.length
    · have hi0 : (0 : Int) ≤ (k : Int) := by omega
      have hi1 : (k : Int) < (l.length : Int) := by omega
      have HV : Hid ((((l[k].toNat : Int) == 48) || ((l[k].toNat : Int) == 49)) = Bin.bitByte l[k]) := by
        show _ = _
        unfold Bin.bitByte
        congr 1 <;> rw [Bool.eq_iff_iff, beq_iff_eq, beq_iff_eq] <;> omega
      have HS : Hid (Bin.bitByte l[k] = true → (l.take (k + 1)).all Bin.bitByte = true) := by
        show Bin.bitByte l[k] = true → (l.take (k + 1)).all Bin.bitByte = true
        intro hv
        rw [List.take_succ_eq_append_getElem hlt, List.all_append, hpre.out]
        simp [hv]
      have HF : Hid (Bin.bitByte l[k] = false → b = false) := by
        show Bin.bitByte l[k] = false → b = false
        intro hv
        have : l.all Bin.bitByte = false := by
          rw [List.all_eq_false]
          exact ⟨l[k], List.getElem_mem hlt, by simp [hv]⟩
        rw [← HB.out, this, Bool.false_and]
      generalize Bin.bitByte l[k] = v at *
      clear HB
      have h1 : ((l[k].toNat : Int) == 48) = true ∨ ((l[k].toNat : Int) == 48) = false := by cases ((l[k].toNat : Int) == 48) <;> simp
      have h2 : ((l[k].toNat : Int) == 49) = true ∨ ((l[k].toNat : Int) == 49) = false := by cases ((l[k].toNat : Int) == 49) <;> simp
      rcases h1 with h1 | h1 <;> rcases h2 with h2 | h2 <;>
      · have H := HV.out
        rw [h1, h2] at H
        have g1 : ((l[k].toNat : Int) != 48) = !((l[k].toNat : Int) == 48) := rfl
        have g2 : ((l[k].toNat : Int) != 49) = !((l[k].toNat : Int) == 49) := rfl
        rw [h1] at g1
        rw [h2] at g2
        first
        | (obtain rfl : v = true := H.symm
           have HS' := Lib.hid (HS.out rfl)
           clear H HV HS HF
           go_wp2
           go_round
           case rel => exact ⟨k + 1, by omega, by go_num, HS'⟩
           case measure => simp [intOf]; omega)
        | (obtain rfl : v = false := H.symm
           have HF' := Lib.hid (HF.out rfl)
           clear H HV HS HF
           go_wp2
           go_ret
           exact ⟨by rw [HF'.out]; rfl, rfl⟩)
    · have hall : l.all Bin.bitByte = true := by
        have := hpre.out
        rwa [List.take_of_length_le (by omega)] at this
      have HV : Hid (decide ((l.length : Int) ≤ 16) = b) := by
        show _ = b
        rw [← HB.out, hall, Bool.true_and]
        exact decide_eq_decide.2 (by omega)
      clear hpre hall HB
      obtain rfl : k = l.length := by omega
      go_wp2
      go_ret
      exact ⟨by rw [← HV.out]; rfl, rfl⟩

/-- Whether all entries have one path. -/
def onePath : List Ent → Bool
  | [] => true
  | x :: es => es.all fun y => Bin.of y.1 == Bin.of x.1
theorem R_le {a b : Bytes} (h : Bin.R a b) : ¬ Bin.of b < Bin.of a := fun k => by
  rcases (Bin.R_iff a b).1 h with h | ⟨h, _⟩
  · exact Bin.bs_lt_irrefl _ (Bin.bs_lt_trans h k)
  · rw [h] at k; exact Bin.bs_lt_irrefl _ k
theorem bs_anti {a b : Bytes} (h : ¬ b < a) (k : ¬ a < b) : a = b := Classical.byContradiction fun e => k (Bin.bs_lt_of_le_ne (Bin.bs_le_of_not h) e)
theorem onePath_last (x : Ent) (es : List Ent) (n : Nat) (hn : (x :: es).length = n + 1) (ho : ((x :: es).map (·.1)).Pairwise Bin.R) : onePath (x :: es) = (Bin.of x.1 == Bin.of ((x :: es)[n]'(by omega)).1) := by
  have hg := List.pairwise_iff_getElem.1 ho
  rw [onePath, Bool.eq_iff_iff, List.all_eq_true, beq_iff_eq]
  constructor
  · intro h
    rcases Nat.eq_zero_or_pos n with rfl | hp
    · rfl
    · have hm : (x :: es)[n]'(by omega) ∈ es := by
        obtain ⟨m, rfl⟩ : ∃ m, n = m + 1 := ⟨n - 1, by omega⟩
        simp only [List.getElem_cons_succ]
        exact List.getElem_mem _
      exact (beq_iff_eq.1 (h _ hm)).symm
  · intro h y hy
    rw [beq_iff_eq]
    obtain ⟨j, hj, rfl⟩ := List.getElem_of_mem hy
    have h1 : Bin.R x.1 es[j].1 := by
      have := hg 0 (j + 1) (by simp) (by simpa using hj) (by omega)
      simpa using this
    rw [List.length_cons] at hn
    rcases Nat.lt_or_ge (j + 1) n with hlt | hge
    · have h2 := hg (j + 1) n (by simpa using hj) (by simp; omega) hlt
      simp only [List.getElem_map] at h2
      rw [List.getElem_cons_succ] at h2
      have h3 := R_le h2
      rw [← h] at h3
      exact (bs_anti (R_le h1) h3).symm
    · have e : n = j + 1 := by omega
      subst e
      rw [List.getElem_cons_succ] at h
      exact h.symm
end Go.Proofs.Ytjcockcilkiggaa
