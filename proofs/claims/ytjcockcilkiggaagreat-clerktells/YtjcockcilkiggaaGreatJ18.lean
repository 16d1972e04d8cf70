/- From a walk to a law's row: a law that returns true and turns nothing that was there before meets what its row asks. -/
import Derived.Test.YtjcockcilkiggaaGreatRows
import Derived.Test.YtjcockcilkiggaaGreatJ01
import Derived.ProofKit
import Derived.OpenShut
import Derived.SliceStrings
import Derived.ChangeSame
import Derived.SizedLaws
import Derived.Deep.CondSized
import Derived.Test.YtjcockcilkiggaaGreatJ17
import Derived.Maps.AppendAt
import Derived.ChangeSlices
import Derived.Test.YtjcockcilkiggaaGreatJ04
import Derived.Test.YtjcockcilkiggaaGreatJ03
import Derived.Lib.BufferWrite
namespace Go.Proofs.YtjcockcilkiggaaGreat
set_option maxRecDepth 100000
open Go.ChangeShapes Go.WideShapes Go.ChangeAt Go.RowKit

theorem own : ownKnob Tryz.prog.godebug = none := by kernel_rfl
theorem laidOut : laidOutB Tryz.prog = true := by kernel_rfl

section
variable {H : Type} {enc : TypeId × Value → H} {P : Program}

/-- The arguments read as they did, where nothing old has turned. -/
theorem trodAll_below (hl : laidOutB P = true) {W W' : World} (hb : Below W.heap.size W W') {sp : Nat → Bool} :
    ∀ {ts : List TypeId} {vs : List Value} {ds : List (DataW H)} {ps : List MemPlace}, (∀ t ∈ ts, P.readableRec t = true ∧ t < P.types.size) → DataW.TrodAll enc P W 0 (fun _ => true) true ts vs ds ps →
      (∀ x ∈ ps, x.block < W.heap.size) → (∀ x ∈ ps, sp x.block = true) → DataW.TrodAll enc P W' 0 sp true ts vs ds ps := by
  intro ts
  induction ts with
  | nil =>
    intro vs ds ps _ h _ _
    obtain ⟨rfl, rfl, rfl⟩ := trodAll_nil h
    exact trodAll_mk0
  | cons t ts ih =>
    intro vs ds ps ht h hlt hsp
    obtain ⟨v, vs', d, ds', p, q, rfl, rfl, rfl, h0, hr⟩ := trodAll_cons h
    refine trodAll_cons_mk ?_ (ih (fun t' ht' => ht t' (List.mem_cons_of_mem _ ht')) hr (fun x hx => hlt x (List.mem_append_right _ hx)) (fun x hx => hsp x (List.mem_append_right _ hx)))
    exact WideElems.Trod_stays hl (ht t List.mem_cons_self).1 (ht t List.mem_cons_self).2 h0 (fun x hx => hb.same (hlt x (List.mem_append_left _ hx))) (fun x hx => hsp x (List.mem_append_left _ hx))

/-- A law's row: it returned true, its arguments' data are what they were, nothing old has turned. -/
theorem post_law {f : Func} {s : ChangeSpec} {B : TypeId} {W W' : World} {args : Array Value} {ds gs : List (DataW H)} {before : List MemPlace}
    (hl : laidOutB P = true) (hp : ∀ t ∈ f.params.toList, P.readableRec t = true ∧ t < P.types.size) (hv : s.vars = []) (hB : P.underlying B = some .bool) (hr : f.resultTypes = #[B])
    (hW : DataW.Whole enc P f.params.toList s.vars false W args.toList ds gs before)
    (hfn : s.fn H (ds ++ gs) = { results := [.lit (.bool true)], args := ds }) (hb : Below W.heap.size W W') :
    s.post enc P f false true false false W args (.bool true) W' := by
  have hlt : ∀ p ∈ before, p.block < W.heap.size := fun p hp => hW.lt p hp
  have hW0 := hW
  obtain ⟨p, q, hA, hV, rfl, hz, hn⟩ := hW
  rw [hv] at hV
  obtain ⟨rfl, rfl⟩ := trodVars_none hV
  simp only [List.append_nil] at hlt hz hn hW0
  have hres : ∀ (b : Nat) (sp : Nat → Bool) (hd : Bool), DataW.TrodAll enc P W' b sp hd f.resultTypes.toList ((Value.bool true).resultList f.resultTypes.size) (s.fn H (ds ++ [])).results [] := by
    intro b sp hd
    rw [hfn, hr]
    exact trodAll_cons_mk (shut_bool hB _) trodAll_mk0
  have hargs : ∀ sp : Nat → Bool, (∀ x ∈ p, sp x.block = true) → DataW.TrodAll enc P W' 0 sp true f.params.toList args.toList (s.fn H (ds ++ [])).args p := by
    intro sp hsp
    rw [hfn]
    exact trodAll_below hl hb hp hA hlt hsp
  have hvars : ∀ sp : Nat → Bool, DataW.TrodVars enc P W' sp s.vars (s.fn H (ds ++ [])).vars [] := by
    intro sp
    rw [hfn, hv]
    rfl
  have hold : ∀ x ∈ p, (fun b => decide (b < W.heap.size)) x.block = true := fun x hx => by simpa using hlt x hx
  refine ⟨ds, [], p, [], p, [], hW0, hres _ _ _, hargs _ hold, hvars _, World.keptBut_mono (fun x hx => ⟨hx, Or.inr (by simpa using hx)⟩) (hb.frame (· ∈ p)), fun _ => ?_⟩
  refine ⟨?_, _, _, ([] ++ p) ++ [], ⟨[] ++ p, [], trodAll_append (hargs _ (fun _ _ => rfl)) (hres _ _ _), hvars _, rfl, ?_, ?_⟩, ?_⟩
  · intro j t r ht hrj
    rw [hr] at ht hrj
    cases j with
    | zero =>
      simp at ht
      simp [Value.resultList] at hrj
      subst ht; subst hrj
      exact okWide_bool_mk hB _
    | succ j => simp at ht
  · intro b off hx
    have hin : MemPlace.cell b off ∈ p := by simpa using hx
    rw [hb.frozen (hlt _ hin)]
    exact hz b off hin
  · intro ha
    simpa using hn ha
  · intro x hx _
    simpa using hx
end

section
variable {H : Type} {enc : TypeId × Value → H} {W : World} {base : Nat} {v : Value} {d : DataW H} {ps : List MemPlace}

theorem cells_string : Tryz.prog.cellsOf 9 = 1 := by kernel_rfl

/-- A []string among the arguments: a list of strings, in a row of cells. -/
theorem arg_strs (hok : Value.okWide Tryz.prog W .any base 101 v) (h : DataW.Trod enc Tryz.prog W 0 (fun _ => true) true 101 v d ps) :
    ∃ (A : Option Addr) (c : Nat) (ss : List Bytes), v = .slice A ss.length c ∧ ss.length ≤ maxLen ∧ Row W A (scells ss) ∧ ∀ s ∈ ss, s.length ≤ maxLen := by
  obtain ⟨a0, len, cap, rfl⟩ := okWide_slice Tryz.underlying101 hok
  obtain ⟨fuel, hf⟩ := h
  rcases open_strings Tryz.underlying101 Tryz.underlying9 cells_string hf with ⟨hcs, _⟩ | ⟨a, len', cap', ss, hcs, _, hl, hm, hz, _, hcell, hws⟩
  · have e : (Value.slice a0 len cap) = .slice none 0 0 := by simpa [Value.cells] using hcs
    injection e with e1 e2 e3
    subst e1; subst e2; subst e3
    exact ⟨none, 0, [], rfl, by simp, Row.nil_ _ _, fun s hs => by simp at hs⟩
  · have e : (Value.slice a0 len cap) = .slice (some a) len' cap' := by simpa [Value.cells] using hcs
    injection e with e1 e2 e3
    subst e1; subst e2; subst e3
    simp only [if_true] at hz
    have hlen : ((ss.take len).map fun s : ByteArray => s.data.toList).length = len := by simp; omega
    refine ⟨some a, cap, (ss.take len).map fun s => s.data.toList, by rw [hlen], by omega, fun h0 => ?_, ?_⟩
    · rw [scells_length, hlen] at h0
      obtain ⟨b, off, spot⟩ := a
      have hspot : spot = none := by simpa [Addr.add] using World.cell?_spot (hcell 0 (by omega))
      subst hspot
      refine ⟨b, off, rfl, fun k hk => ?_⟩
      rw [scells_length, hlen] at hk
      have := hcell k (by omega)
      rw [Go.WideShapes.add_plain] at this
      rw [this]
      simp [scells, List.getD, show k < ss.length by omega, ← S_of]
    · intro s hs
      obtain ⟨b, hb, rfl⟩ := List.mem_map.1 hs
      have := hws b (List.mem_of_mem_take hb)
      rw [Array.length_toList]
      exact this
/-- .. within the form's own reach. -/
theorem arg_strs_sized {ts : List TypeId} {ds : List (DataW H)} {j : Nat} (hsz : (DataW.weightsEach Tryz.prog ts ds).all (· ≤ reachBytes) = true) (ht : ts[j]? = some 101) (hd : ds[j]? = some d)
    (hok : Value.okWide Tryz.prog W .any base 101 v) (h : DataW.Trod enc Tryz.prog W 0 (fun _ => true) true 101 v d ps) :
    ∃ (A : Option Addr) (c : Nat) (ss : List Bytes), v = .slice A ss.length c ∧ ss.length * 16 ≤ 140737488351232 ∧ Row W A (scells ss) ∧ ∀ s ∈ ss, s.length ≤ maxLen := by
  obtain ⟨A, c, ss, rfl, hm, hr, hs⟩ := arg_strs hok h
  refine ⟨A, c, ss, rfl, ?_, hr, hs⟩
  obtain ⟨fuel, hf⟩ := h
  rcases open_strings Tryz.underlying101 Tryz.underlying9 cells_string hf with ⟨hcs, _⟩ | ⟨a, len', cap', rs, hcs, _, hl, _, hz, hx, _, _⟩
  · have e : (Value.slice A ss.length c) = .slice none 0 0 := by simpa [Value.cells] using hcs
    injection e with e1 e2 e3
    omega
  · have e : (Value.slice A ss.length c) = .slice (some a) len' cap' := by simpa [Value.cells] using hcs
    injection e with e1 e2 e3
    have hdd : d = .slice (strs (rs.take len')) (strs (rs.drop len')) := by injection hx
    rw [hdd] at hd
    have := sized_slice hsz ht hd Tryz.underlying101
    have hb : Tryz.prog.bytesOf 9 = 16 := by kernel_rfl
    have hR : reachBytes = 140737488351232 := by kernel_rfl
    rw [hb, hR] at this
    simp only [strs, List.length_map, List.length_take, List.length_drop] at this
    simp only [if_true] at hz
    omega
theorem arg_str (hok : Value.okWide Tryz.prog W .any base 9 v) (h : DataW.Trod enc Tryz.prog W 0 (fun _ => true) true 9 v d ps) : ∃ l : Bytes, v = .string (S l) ∧ l.length ≤ maxLen := by
  obtain ⟨s, rfl, _, _, hs⟩ := Go.ChangeMaps.open_string Tryz.underlying9 hok h
  exact ⟨s.data.toList, by rw [← S_of], hs⟩
theorem arg_u64 (hok : Value.okWide Tryz.prog W .any base 29 v) (h : DataW.Trod enc Tryz.prog W 0 (fun _ => true) true 29 v d ps) : ∃ n : Nat, v = .int .u64 (n : Int) ∧ n < 18446744073709551616 := by
  obtain ⟨x, rfl, _, _, wx⟩ := open_int Tryz.underlying29 hok h
  have := bounds_u64 wx
  exact ⟨x.toNat, by rw [Int.toNat_of_nonneg this.1], by omega⟩
theorem arg_u8 (hok : Value.okWide Tryz.prog W .any base 5 v) (h : DataW.Trod enc Tryz.prog W 0 (fun _ => true) true 5 v d ps) : ∃ b : UInt8, v = .int .u8 (b.toNat : Int) := by
  obtain ⟨x, rfl, _, _, wx⟩ := open_int Tryz.underlying5 hok h
  have := bounds_u8 wx
  exact ⟨UInt8.ofNat x.toNat, by rw [UInt8.toNat_ofNat', Nat.mod_eq_of_lt (by omega), Int.toNat_of_nonneg this.1]⟩
theorem arg_i64 (hok : Value.okWide Tryz.prog W .any base 3 v) (h : DataW.Trod enc Tryz.prog W 0 (fun _ => true) true 3 v d ps) : ∃ x : Int, v = .int .i64 x ∧ -9223372036854775808 ≤ x ∧ x ≤ 9223372036854775807 := by
  obtain ⟨x, rfl, _, _, wx⟩ := open_int Tryz.underlying3 hok h
  have := bounds_i64 wx
  exact ⟨x, rfl, by omega, by omega⟩
end
end Go.Proofs.YtjcockcilkiggaaGreat
/- append onto rows of requests of the call's own, and in which block the new row lies; a list of ints among a law's arguments. -/
namespace Go.Proofs.YtjcockcilkiggaaGreat
set_option maxRecDepth 100000
open Go.ChangeShapes Go.WideShapes Go.ChangeAt Go.RowKit

theorem run_appQat (w : World) (ty : TypeId) (base : Nat) (v : Value) (l : List Ak) (hown : w.ownsRow base 31 4 v l.length (qcells l))
    (B : Option Addr) (c : Nat) (r : List Ak) (hB : Row w B (qcells r)) (hsmall : (l.length + r.length) * 48 ≤ 140737488355328) (hbase : base ≤ w.heap.size) :
    ∃ v' w', (Builtin.append_ #[22, 22] ty #[v, .slice B r.length c]).run Tryz.prog w = .ok v' w' ∧ w'.ownsRow base 31 4 v' (l ++ r).length (qcells (l ++ r)) ∧ w.grownBy w' v.ownBlock ∧ (v'.ownBlock = v.ownBlock ∨ v'.ownBlock = some w.heap.size) := by
  obtain ⟨i0, hi, hz0, hz1, hz2⟩ := ak_info
  by_cases h0 : r = []
  · subst h0
    refine ⟨v, w, ?_, by rw [List.append_nil]; exact hown, World.grownBy.refl w _, .inl rfl⟩
    rcases hown.2 with ⟨rfl, e0⟩ | ⟨g, cap, cur, rfl, _, _, hnc, _⟩
    · cases B <;> simp [Builtin.append_, run_underlying Tryz.underlying22, sizeOf, typeInfo, hi, Builtin.lenOf, Builtin.firstCells, loadCells, loadCellsFrom]
    · cases B <;> simp [Builtin.append_, run_underlying Tryz.underlying22, sizeOf, typeInfo, hi, Builtin.lenOf, Builtin.firstCells, loadCells, loadCellsFrom, hnc, storeCells]
  · have hr := List.length_pos_iff.2 h0
    obtain ⟨gb, off, rfl, hc⟩ := hB (by rw [qcells_length]; omega)
    have hnews : ∀ j u, (qcells r)[j]? = some u → w.cell? ((⟨gb, off, none⟩ : Addr).add j) = some u := fun j u hu => by
      obtain ⟨hj, rfl⟩ := List.getElem?_eq_some_iff.1 hu
      rw [Go.WideShapes.add_plain]
      exact hc j hj
    obtain ⟨v', w', h1, h2, h3, _, h5⟩ := run_append_own_at (P := Tryz.prog) w base 22 ty 31 i0 (.agg #[.string ⟨#[]⟩, .string ⟨#[]⟩, .int .u64 0, .int .u64 0]) 4 48 Tryz.underlying22 hi hz0 hz1 hz2 rfl (by decide) v l.length (qcells l) hown ⟨gb, off, none⟩ r.length c (qcells r) (qcells_length r) hnews (ak_one r) (by unfold maxLen; omega) hsmall hbase
    exact ⟨v', w', h1, by rw [List.length_append, qcells_append]; exact h2, h3, h5⟩
/-- .. as one step of a region that draws. -/
theorem step_app_asksAt {ops : Array Oper} {o : Oper} {a : Act} {w : World} {K : Act → World → Prop} {Q : Exit → Act → World → Prop} {E : Prop} (hgd : o.guard = none) (s x : Operand)
    (ho : o.op = .call { callee := .builtin .append, args := #[s, x], argTypes := #[22, 22] })
    (base : Nat) (v : Value) (l : List Ak) (hs : a.eval s = v) (hown : w.ownsRow base 31 4 v l.length (qcells l))
    (B : Option Addr) (c : Nat) (r : List Ak) (hx : a.eval x = .slice B r.length c) (hB : Row w B (qcells r)) (hsmall : (l.length + r.length) * 48 ≤ 140737488355328) (hbase : base ≤ w.heap.size)
    (h : ∀ v' w', w'.ownsRow base 31 4 v' (l ++ r).length (qcells (l ++ r)) → w.grownBy w' v.ownBlock → (v'.ownBlock = v.ownBlock ∨ v'.ownBlock = some w.heap.size) → K (a.put o.dst v') w') :
    if Region.wanted o (yielded ops a.tmps) = true then Oper.wp Tryz.prog o a w K Q else E := by
  have hw : Region.wanted o (yielded ops a.tmps) = true := by simp [Region.wanted, hgd]
  rw [if_pos hw]
  obtain ⟨v', w', hrun, h1, h2, h3⟩ := run_appQat w o.type base v l hown B c r hB hsmall hbase
  unfold Oper.wp
  simp [execOp, ho, resolve, invoke, builtin, hs, hx, hrun, Result.andThen]
  exact h v' w' h1 h2 h3

theorem Row.int {w : World} {A : Option Addr} {zs : List Int} (h : Row w A (icells zs)) (k : Nat) (hk : k < zs.length) : ∃ g off, A = some ⟨g, off, none⟩ ∧ w.cell? ⟨g, off + k, none⟩ = some (.int .i64 zs[k]) := by
  obtain ⟨g, off, e, hc⟩ := h (by rw [icells_length]; omega)
  refine ⟨g, off, e, ?_⟩
  rw [hc k (by rw [icells_length]; exact hk)]
  simp [icells]
end Go.Proofs.YtjcockcilkiggaaGreat
/- package path: Name, isPath, lowest, Of and Bit return what the plain functions say; they write nothing that was there. -/
namespace Go.Proofs.YtjcockcilkiggaaGreat
open Go.RowKit

theorem nameByte_val (c : UInt8) : ((decide ((97 : Int) ≤ (c.toNat : Int)) && decide ((c.toNat : Int) ≤ 122)) || (decide ((48 : Int) ≤ (c.toNat : Int)) && decide ((c.toNat : Int) ≤ 57))) = Bin.nameByte c := by
  unfold Bin.nameByte
  congr 2 <;> exact decide_eq_decide.2 (by omega)
theorem bitByte_val (c : UInt8) : (((c.toNat : Int) == 48) || ((c.toNat : Int) == 49)) = Bin.bitByte c := by
  unfold Bin.bitByte
  congr 1 <;> rw [Bool.eq_iff_iff, beq_iff_eq, beq_iff_eq] <;> omega

set_option maxHeartbeats 400000 in
theorem only_name1 (c : UInt8) (w : World) (b : Bool) (hb : Bin.nameByte c = b) :
    Calls Tryz.prog 92 #[.int .u8 (c.toNat : Int)] w fun e w' => e = .returned (.bool b) ∧ w = w' := by
  have HV := Lib.hid ((nameByte_val c).trans hb)
  clear hb
  generalize (c.toNat : Int) = x at *
  have h1 : decide ((97 : Int) ≤ x) = true ∨ decide ((97 : Int) ≤ x) = false := by cases decide ((97 : Int) ≤ x) <;> simp
  have h2 : decide (x ≤ 122) = true ∨ decide (x ≤ 122) = false := by cases decide (x ≤ 122) <;> simp
  have h3 : decide ((48 : Int) ≤ x) = true ∨ decide ((48 : Int) ≤ x) = false := by cases decide ((48 : Int) ≤ x) <;> simp
  have h4 : decide (x ≤ 57) = true ∨ decide (x ≤ 57) = false := by cases decide (x ≤ 57) <;> simp
  rcases h1 with h1 | h1 <;> rcases h2 with h2 | h2 <;> rcases h3 with h3 | h3 <;> rcases h4 with h4 | h4 <;>
  · have H := HV.out
    rw [h1, h2, h3, h4] at H
    clear HV
    have HH := Lib.hid H
    clear H
    go_enter Tryz.func92, Tryz.ntmps92
    go_wp2
    go_ret
    exact ⟨by rw [← HH.out]; rfl, rfl⟩

set_option maxHeartbeats 400000 in
theorem only_name (l : Bytes) (w : World) (hl : l.length ≤ maxLen) (b : Bool) (hb : l.all Bin.nameByte = b) :
    Calls Tryz.prog 91 #[.string (S l), .func (.func 92) #[] #[]] w fun e w' => e = .returned (.bool b) ∧ w = w' := by
  unfold maxLen at hl
  have HB := Lib.hid hb
  clear hb
  go_enter Tryz.func91, Tryz.ntmps91
  go_wp2
  go_loop [5] (fun i => ∃ k : Nat, k ≤ l.length ∧ i = .int .i64 k ∧ Hid ((l.take k).all Bin.nameByte = true)) (fun i => l.length - (intOf i).toNat)
  case atStart => exact ⟨0, Nat.zero_le _, rfl, rfl⟩
  case round =>
    obtain ⟨k, hk, rfl, hpre⟩ := hrel
    by_cases hlt : k < l.length
    · have hi0 : (0 : Int) ≤ (k : Int) := by omega
      have hi1 : (k : Int) < (l.length : Int) := by omega
      by_cases hv : Bin.nameByte l[k] = true
      · have HS : Hid ((l.take (k + 1)).all Bin.nameByte = true) := by
          show (l.take (k + 1)).all Bin.nameByte = true
          rw [List.take_succ_eq_append_getElem hlt, List.all_append, hpre.out]
          simp [hv]
        have ht := fun w => Lib.hid (only_name1 l[k] w true hv)
        clear hv
        go_wp2_with fail
        refine (ht _).out.mono ?_
        rintro e w1 ⟨rfl, rfl⟩
        go_wp2
        go_round
        case rel => exact ⟨k + 1, by omega, by go_num, HS⟩
        case measure => simp [intOf]; omega
      · rw [Bool.not_eq_true] at hv
        have HF : Hid (b = false) := by
          show b = false
          rw [← HB.out, List.all_eq_false]
          exact ⟨l[k], List.getElem_mem hlt, by simp [hv]⟩
        have ht := fun w => Lib.hid (only_name1 l[k] w false hv)
        clear hv
        go_wp2_with fail
        refine (ht _).out.mono ?_
        rintro e w1 ⟨rfl, rfl⟩
        go_wp2
        go_ret
        exact ⟨by rw [HF.out]; rfl, rfl⟩
    · have HF : Hid (b = true) := by
        show b = true
        rw [← HB.out]
        have := hpre.out
        rwa [List.take_of_length_le (by omega)] at this
      go_wp2
      go_ret
      exact ⟨by rw [HF.out]; rfl, rfl⟩

end Go.Proofs.YtjcockcilkiggaaGreat
/- package path: Name and isPath return whether a string is a name or a path; lowest returns the sixteen lowest bits; Of returns the path of a name. They write nothing that was there. -/
namespace Go.Proofs.YtjcockcilkiggaaGreat
open Go.RowKit

theorem le_int (a b : Nat) : decide ((a : Int) ≤ (b : Int)) = decide (a ≤ b) := decide_eq_decide.2 (by omega)

set_option maxHeartbeats 400000 in
theorem pathName (l : Bytes) (w : World) (hl : l.length ≤ maxLen) (b : Bool) (hb : Bin.name l = b) :
    Calls Tryz.prog 77 #[.string (S l)] w fun e w' => e = .returned (.bool b) ∧ w = w' := by
  have ht := fun w => Lib.hid (only_name l w hl _ rfl)
  clear hl
  by_cases h1 : 1 ≤ l.length
  · by_cases h2 : l.length ≤ 12
    · have HB : Hid (b = l.all Bin.nameByte) := by
        show b = _
        rw [← hb, Bin.name, decide_eq_true h1, decide_eq_true h2]
        rfl
      clear hb
      generalize l.all Bin.nameByte = c at *
      have c1 : decide ((1 : Int) ≤ (l.length : Int)) = true := decide_eq_true (by omega)
      have c2 : decide ((l.length : Int) ≤ 12) = true := decide_eq_true (by omega)
      clear h1 h2
      go_enter Tryz.func77, Tryz.ntmps77
      go_wp2_with fail
      refine (ht _).out.mono ?_
      rintro e w1 ⟨rfl, rfl⟩
      go_wp2
      go_ret
      exact ⟨by rw [HB.out]; rfl, rfl⟩
    · obtain rfl : b = false := by rw [← hb, Bin.name, decide_eq_false h2]; simp
      have c1 : decide ((1 : Int) ≤ (l.length : Int)) = true := decide_eq_true (by omega)
      have c2 : decide ((l.length : Int) ≤ 12) = false := decide_eq_false (by omega)
      clear h1 h2 hb ht
      go_enter Tryz.func77, Tryz.ntmps77
      go_wp2
      go_ret
      exact ⟨rfl, rfl⟩
  · obtain rfl : b = false := by rw [← hb, Bin.name, decide_eq_false h1]; simp
    have c1 : decide ((1 : Int) ≤ (l.length : Int)) = false := decide_eq_false (by omega)
    clear h1 hb ht
    go_enter Tryz.func77, Tryz.ntmps77
    go_wp2
    go_ret
    exact ⟨rfl, rfl⟩


/-- The array while its last places are filled. -/
def lowCells (n k : Nat) : List Value := List.replicate k (.int .u8 0) ++ bcells (Bin.low (16 - k) n)

theorem lowCells_length (n k : Nat) (hk : k ≤ 16) : (lowCells n k).length = 16 := by
  simp [lowCells, bcells_length, Bin.low_length]
  omega
theorem lowCells_at (n j : Nat) : (lowCells n (j + 1))[j]? = some (.int .u8 0) := by
  unfold lowCells
  rw [List.getElem?_append_left (by simp), List.getElem?_replicate, if_pos (by omega)]
theorem lowCells_set (n j : Nat) (hj : j < 16) : (lowCells n (j + 1)).set j (.int .u8 ((Bin.digit (n / 2 ^ (16 - (j + 1)))).toNat : Int)) = lowCells n j := by
  unfold lowCells
  rw [show 16 - j = (16 - (j + 1)) + 1 by omega, Bin.low_front, List.replicate_succ', List.append_assoc, List.set_append, if_neg (by simp)]
  simp [bcells]
theorem lowCells_all (n : Nat) : lowCells n 0 = bcells (Bin.low 16 n) := by
  unfold lowCells
  rw [List.replicate_zero, List.nil_append, Nat.sub_zero]
theorem lowCells_store (w : World) (n j : Nat) (t : TypeId) (hj : j < 16) :
    (w.alloc (.cells (lowCells n (j + 1)).toArray t)).setCell ⟨w.heap.size, j, none⟩ (.int .u8 ((Bin.digit (n / 2 ^ (16 - (j + 1)))).toNat : Int)) = w.alloc (.cells (lowCells n j).toArray t) := by
  rw [World.setCell_alloc_new, List.setIfInBounds_toArray, lowCells_set n j hj]

theorem digit_val (m : Nat) (hm : m < 18446744073709551616) : (48 + bits .and .u64 (m : Int) 1) % 256 = ((Bin.digit m).toNat : Int) := by
  have h := u64_and_nat m 1 hm (by omega)
  have e : m &&& 1 = m % 2 := Nat.and_two_pow_sub_one_eq_mod m 1
  rw [e] at h
  rw [show (1 : Int) = ((1 : Nat) : Int) from rfl, h, Bin.digit_toNat]
  omega
/-- The array's bytes as a string. -/
theorem conv_low (w : World) (n : Nat) (t : TypeId) :
    (convert 130 9 (.slice (some ⟨w.heap.size, 0, none⟩) 16 16)).run Tryz.prog (w.alloc (.cells (bcells (Bin.low 16 n)).toArray t)) = .ok (.string (S (Bin.low 16 n))) (w.alloc (.cells (bcells (Bin.low 16 n)).toArray t)) := by
  have hl := Bin.low_length 16 n
  generalize Bin.low 16 n = l at *
  rw [run_convert_bytes_arg (P := Tryz.prog) _ 130 5 Tryz.underlying130 Tryz.underlying5 w.heap.size 0 16 16 (l.map fun b : UInt8 => (b.toNat : Int)) (by simp [hl]) (fun i hi => by
    rw [Nat.zero_add, World.cell?_alloc_new]
    simp [bcells, List.getD, show i < l.length by omega]) 9 Tryz.underlying9]
  congr 2
  simp [strOfNums, S, Function.comp_def]

set_option maxRecDepth 100000 in
set_option maxHeartbeats 400000 in
theorem pathLowest (n : Nat) (w : World) (hn : n < 18446744073709551616) :
    Calls Tryz.prog 100 #[.int .u64 (n : Int)] w fun e w' => e = .returned (.string (S (Bin.low 16 n))) ∧ Below w.heap.size w w' := by
  go_enter Tryz.func100, Tryz.ntmps100
  go_wp2
  go_loopw [0, 4] (fun v i wr => ∃ k : Nat, k ≤ 16 ∧ i = .int .i64 ((k : Int) - 1) ∧ v = .int .u64 ((n / 2 ^ (16 - k) : Nat) : Int) ∧ wr = w.alloc (.cells (lowCells n k).toArray 139)) (fun _ i _ => (intOf i + 1).toNat)
  case atStart => exact ⟨16, Nat.le_refl _, rfl, by simp, rfl⟩
  case round =>
    obtain ⟨k, hk, rfl, rfl, hw⟩ := hrel
    by_cases hlt : 0 < k
    · obtain ⟨j, rfl⟩ : ∃ j, k = j + 1 := ⟨k - 1, by omega⟩
      rw [show ((j + 1 : Nat) : Int) - 1 = (j : Int) by omega]
      have hi0 : (0 : Int) ≤ (j : Int) := by omega
      have hi1 : (j : Int) < 16 := by omega
      have hc : wr.cell? ⟨w.heap.size, j, none⟩ = some (.int .u8 0) := by
        rw [hw, World.cell?_alloc_new]
        simpa using lowCells_at n j
      have hf : wr.frozen? ⟨w.heap.size, j, none⟩ = false := by rw [hw, World.frozen?_alloc_new]
      have hm : n / 2 ^ (16 - (j + 1)) < 18446744073709551616 := Nat.lt_of_le_of_lt (Nat.div_le_self _ _) hn
      have HS : Hid (wr.setCell ⟨w.heap.size, j, none⟩ (.int .u8 ((48 + bits .and .u64 ((n / 2 ^ (16 - (j + 1)) : Nat) : Int) 1) % 256)) = w.alloc (.cells (lowCells n j).toArray 139)) := by
        show _ = _
        rw [digit_val _ hm, hw, lowCells_store w n j _ (by omega)]
      have HN : Hid (n / 2 ^ (16 - (j + 1)) / 2 = n / 2 ^ (16 - j)) := by
        show _ = _
        rw [Nat.div_div_eq_div_mul, ← Nat.pow_succ, show (16 - (j + 1)).succ = 16 - j by omega]
      clear hw hn
      generalize n / 2 ^ (16 - (j + 1)) = m at *
      go_wp2
      go_roundw
      case rel => exact ⟨j, by omega, by go_num, by rw [← HN.out]; go_num, HS.out⟩
      case measure => simp [intOf]
    · obtain rfl : k = 0 := by omega
      have hcv := conv_low w n 139
      rw [lowCells_all] at hw
      generalize hl : Bin.low 16 n = l at hcv hw
      have HL := Lib.hid hl
      clear hl
      subst hw
      go_wp2
      go_ret
      exact ⟨by rw [HL.out]; rfl, (Below.refl _ _).alloc (Nat.le_refl _) _⟩

set_option maxHeartbeats 400000 in
theorem pathOf_yes (l : Bytes) (w : World) (h : Bin.name l = true) :
    Calls Tryz.prog 93 #[.string (S l)] w fun e w' => e = .returned (.tuple #[.string (S (Bin.of l)), .int .i64 0]) ∧ Below w.heap.size w w' := by
  have hl : l.length ≤ maxLen := by have := Bin.name_len h; unfold maxLen; omega
  have h1 := fun w => Lib.hid (pathName l w hl true h)
  have h2 := fun w => Lib.hid (markOf l w hl)
  have h3 := fun w => Lib.hid (pathLowest (Hash.of l) w (Nat.lt_trans (Hash.of_lt l) (by decide)))
  have HO : Hid (Bin.of l = Bin.low 16 (Hash.of l)) := rfl
  generalize Bin.of l = p at *
  generalize Bin.low 16 (Hash.of l) = q at *
  generalize Hash.of l = n at *
  clear h hl
  go_enter Tryz.func93, Tryz.ntmps93
  go_wp2_with fail
  refine (h1 _).out.mono ?_
  rintro e w1 ⟨rfl, rfl⟩
  go_wp2_with fail
  refine (h2 _).out.mono ?_
  rintro e w1 ⟨rfl, m, rfl⟩
  go_wp2_with fail
  refine (h3 _).out.mono ?_
  rintro e w1 ⟨rfl, hb⟩
  go_wp2
  go_ret2
  exact ⟨by rw [HO.out]; rfl, below_chain (below_of_drewN _ _ _) hb⟩
set_option maxHeartbeats 400000 in
theorem pathOf_no (l : Bytes) (w : World) (hl : l.length ≤ maxLen) (h : Bin.name l = false) :
    Calls Tryz.prog 93 #[.string (S l)] w fun e w' => e = .returned (.tuple #[.string (S []), .int .i64 3]) ∧ w = w' := by
  have h1 := fun w => Lib.hid (pathName l w hl false h)
  clear h hl
  go_enter Tryz.func93, Tryz.ntmps93
  go_wp2_with fail
  refine (h1 _).out.mono ?_
  rintro e w1 ⟨rfl, rfl⟩
  go_wp2
  go_ret2
  exact ⟨rfl, rfl⟩
end Go.Proofs.YtjcockcilkiggaaGreat
