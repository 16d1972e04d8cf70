/- Three rows of requests of the call's own in blocks apart from each other, one of them held by a struct: what appending to one and writing the struct keep. -/
import Derived.Test.YtjcockcilkiggaaGreatJ18
import Derived.Test.YtjcockcilkiggaaGreatJ21
import Derived.Test.YtjcockcilkiggaaGreatJ16
namespace Go.Proofs.YtjcockcilkiggaaGreat
set_option maxRecDepth 100000
open Go.RowKit

/-- Two slices that share no block. -/
def Apart (u v : Value) : Prop := ∀ k, u.ownBlock = some k → v.ownBlock ≠ some k
theorem Apart.symm {u v : Value} (h : Apart u v) : Apart v u := fun k hk e => h k e hk
theorem Apart.ne {u v : Value} (h : Apart u v) : v.ownBlock = none ∨ v.ownBlock ≠ u.ownBlock := by
  cases hv : v.ownBlock with
  | none => exact .inl rfl
  | some k => exact .inr fun e => h k e.symm hv
theorem Apart.fresh {w : World} {base B size n m e e' size'} {u v : Value} {xs ys : List Value} (hu : w.ownsRow base e size u n xs) {w' : World} (hv : w'.ownsRow B e' size' v m ys) (hB : w.heap.size ≤ B) : Apart u v := fun k hk e => by
  have h1 := (hu.lt k hk).2
  have h2 := (hv.lt k e).1
  omega
/-- .. behind an append to the first one. -/
theorem Apart.app {w : World} {u u' v : Value} (h : Apart u v) (hat : u'.ownBlock = u.ownBlock ∨ u'.ownBlock = some w.heap.size) (hv : ∀ k, v.ownBlock = some k → k < w.heap.size) : Apart u' v := fun k hk e => by
  rcases hat with h1 | h1
  · exact h k (by rw [← h1]; exact hk) e
  · rw [h1] at hk
    injection hk with hk
    have := hv k e
    omega

/-- A row of requests of the call's own. -/
abbrev Rq (W : World) (g : Nat) (v : Value) (l : List Ak) : Prop := W.ownsRow (g + 1) 31 4 v l.length (qcells l)
theorem Rq.cap {W : World} {g : Nat} {D : Option Addr} {d : Nat} {l : List Ak} (h : Rq W g (.slice D l.length d) l) : l.length ≤ d ∧ d ≤ maxLen := by
  rcases h.2 with ⟨h0, h1⟩ | ⟨g, cap, cur, hv, _, _, h1, h2, _⟩
  · injection h0 with _ _ e3
    unfold maxLen
    omega
  · injection hv with _ _ e3
    subst e3
    exact ⟨h1, h2⟩
structure Ord (g : Nat) (most : Int) (IN OUT QW : List Ak) (vi vo vq : Value) (W : World) : Prop where
  i : Rq W g vi IN
  o : Rq W g vo OUT
  q : Rq W g vq QW
  b : Bx W g [.int .i64 most, vq]
  io : Apart vi vo
  iq : Apart vi vq
  oq : Apart vo vq
theorem Ord.lt {g : Nat} {most : Int} {IN OUT QW : List Ak} {vi vo vq : Value} {W : World} (h : Ord g most IN OUT QW vi vo vq W) : g < W.heap.size := h.b.lt
theorem Ord.below {g : Nat} {most : Int} {IN OUT QW : List Ak} {vi vo vq : Value} {W W' : World} (h : Ord g most IN OUT QW vi vo vq W) (hb : Below W.heap.size W W') : Ord g most IN OUT QW vi vo vq W' :=
  ⟨own_belowN h.i hb, own_belowN h.o hb, own_belowN h.q hb, h.b.below hb, h.io, h.iq, h.oq⟩
theorem Ord.row {g : Nat} {most : Int} {IN OUT QW : List Ak} {vi vo vq : Value} {W : World} (h : Ord g most IN OUT QW vi vo vq W) : ∃ D d, vq = .slice D QW.length d ∧ Row W D (qcells QW) ∧ QW.length ≤ d := by
  obtain ⟨D, d, e⟩ := own_shape h.q
  have hq := h.q
  subst e
  refine ⟨D, d, rfl, Row.ownN hq, ?_⟩
  rcases hq.2 with ⟨h0, h1⟩ | ⟨g, cap, cur, hv, _, _, h1, _⟩
  · injection h0 with _ _ e3
    omega
  · injection hv with _ _ e3
    omega
/-- A row is kept by a store into the struct. -/
theorem Rq.set {g : Nat} {v : Value} {l : List Ak} {W : World} (h : Rq W g v l) (x y : Value) : Rq ((W.setCell ⟨g, 0, none⟩ x).setCell ⟨g, 1, none⟩ y) g v l := by
  have hne : v.ownBlock = none ∨ v.ownBlock ≠ some g := by
    cases hv : v.ownBlock with
    | none => exact .inl rfl
    | some k =>
      refine .inr fun e => ?_
      have := (h.lt k hv).1
      injection e with e
      omega
  exact h.kept ((grown_setQ W ⟨g, 0, none⟩ x).trans (grown_setQ _ ⟨g, 1, none⟩ y)) hne
/-- An append to the first row, with a row beside that is none of the three. -/
theorem Ord.appI {g : Nat} {most : Int} {IN OUT QW IN' : List Ak} {vi vo vq vi' : Value} {W W' : World} (h : Ord g most IN OUT QW vi vo vq W) (hown : Rq W' g vi' IN') (hg : W.grownBy W' vi.ownBlock)
    (hat : vi'.ownBlock = vi.ownBlock ∨ vi'.ownBlock = some W.heap.size) : Ord g most IN' OUT QW vi' vo vq W' :=
  ⟨hown, h.o.kept hg h.io.ne, h.q.kept hg h.iq.ne, h.b.kept hg (fun e => by have := (h.i.lt _ e.symm).1; omega), h.io.app hat (fun k hk => (h.o.lt k hk).2), h.iq.app hat (fun k hk => (h.q.lt k hk).2), h.oq⟩
theorem Ord.appO {g : Nat} {most : Int} {IN OUT QW OUT' : List Ak} {vi vo vq vo' : Value} {W W' : World} (h : Ord g most IN OUT QW vi vo vq W) (hown : Rq W' g vo' OUT') (hg : W.grownBy W' vo.ownBlock)
    (hat : vo'.ownBlock = vo.ownBlock ∨ vo'.ownBlock = some W.heap.size) : Ord g most IN OUT' QW vi vo' vq W' :=
  ⟨h.i.kept hg h.io.symm.ne, hown, h.q.kept hg h.oq.ne, h.b.kept hg (fun e => by have := (h.o.lt _ e.symm).1; omega), (h.io.symm.app hat (fun k hk => (h.i.lt k hk).2)).symm, h.iq, h.oq.app hat (fun k hk => (h.q.lt k hk).2)⟩
/-- The struct is written anew. -/
theorem Ord.put {g : Nat} {most : Int} {IN OUT QW QW' : List Ak} {vi vo vq vq' : Value} {W : World} (h : Ord g most IN OUT QW vi vo vq W) (hq : Rq W g vq' QW') (hi : Apart vi vq') (ho : Apart vo vq') :
    Ord g most IN OUT QW' vi vo vq' ((W.setCell ⟨g, 0, none⟩ (.int .i64 most)).setCell ⟨g, 1, none⟩ vq') :=
  ⟨Rq.set h.i _ _, Rq.set h.o _ _, Rq.set hq _ _, h.b.set2 _ _, h.io, hi, ho⟩
/-- What Put and Take leave of a queue is a queue. -/
theorem qgood_put {most : Int} {l : List Ak} {a : Ak} (h : QGood most l) (ha : askFault a.1 a.2.1 = 0) (hlt : (l.length : Int) < most) : QGood most (l ++ [a]) := by
  refine ⟨h.m1, h.m30, by rw [List.length_append, List.length_singleton]; omega, fun x hx => ?_⟩
  rcases List.mem_append.1 hx with hx | hx
  · exact h.each x hx
  · rw [List.mem_singleton.1 hx]; exact ha
theorem qgood_drop {most : Int} {l : List Ak} (j : Nat) (h : QGood most l) : QGood most (l.drop j) :=
  ⟨h.m1, h.m30, by have := h.len; rw [List.length_drop]; omega, fun x hx => h.each x (List.mem_of_mem_drop hx)⟩
theorem qfits_of {most : Int} {l : List Ak} (h : QGood most l) : ∀ x ∈ l, AkFits x := fun x hx => by
  have := (askFault_ok _ _).1 (h.each x hx)
  have hn := Bin.name_len this.1
  exact ⟨by unfold maxLen; omega, by unfold maxLen; omega⟩
theorem putErr_ok {most : Int} {l : List Ak} {a : Ak} (h : putErr most l a = 0) : QGood most l ∧ askFault a.1 a.2.1 = 0 ∧ (l.length : Int) < most := by
  unfold putErr at h
  split at h
  · rename_i h0
    have hg := (qfault_ok _ _).1 h0
    split at h
    · rename_i h1
      split at h
      · exact absurd h (by decide)
      · rename_i h2
        have := hg.len
        exact ⟨hg, h1, by omega⟩
    · rename_i h1
      exact absurd h h1
  · rename_i h0
    exact absurd h h0
theorem takeErr_ok {most : Int} {l : List Ak} {n : Int} (h : takeErr most l n = 0) : QGood most l ∧ 0 ≤ n := by
  unfold takeErr at h
  split at h
  · rename_i h0
    split at h
    · exact absurd h (by decide)
    · exact ⟨(qfault_ok _ _).1 h0, by omega⟩
  · rename_i h0
    exact absurd h h0
end Go.Proofs.YtjcockcilkiggaaGreat
/- Package queue: what Put, Take and Wait return, whatever they are given. They write nothing that was there. -/
namespace Go.Proofs.YtjcockcilkiggaaGreat
set_option maxRecDepth 100000
open Go.RowKit

/-- What Wait returns. -/
def waitAns (a b k : Int) : Int × Int := if WaitOk a b k then (((a.toNat / b.toNat + 1) * k.toNat : Nat), 0) else (0, 4)
theorem queueWait (a b k : Int) (w : World) (v r : Int) (h : waitAns a b k = (v, r)) :
    Calls Tryz.prog 18 #[.int .i64 a, .int .i64 b, .int .i64 k] w fun e w' => e = .returned (.tuple #[.int .i64 v, .int .i64 r]) ∧ w = w' := by
  unfold waitAns at h
  by_cases k0 : WaitOk a b k
  · rw [if_pos k0, Prod.mk.injEq] at h
    obtain ⟨rfl, rfl⟩ := h
    obtain ⟨⟨a0, a1⟩, ⟨b0, b1⟩, k1, k2⟩ := k0
    have := queueWait_ok a.toNat b.toNat k.toNat w (by omega) (by omega) (by omega) (by omega) (by omega) _ rfl
    rw [Int.toNat_of_nonneg a0, Int.toNat_of_nonneg (by omega : 0 ≤ b), Int.toNat_of_nonneg (by omega : 0 ≤ k)] at this
    exact this
  · rw [if_neg k0, Prod.mk.injEq] at h
    obtain ⟨rfl, rfl⟩ := h
    exact queueWait_no a b k w k0
theorem waitAns_err {a b k v r : Int} (h : waitAns a b k = (v, r)) : r = 0 ∧ WaitOk a b k ∧ v = ((a.toNat / b.toNat + 1) * k.toNat : Nat) ∨ r = 4 ∧ v = 0 := by
  unfold waitAns at h
  split at h
  · rename_i k0
    rw [Prod.mk.injEq] at h
    exact .inl ⟨h.2.symm, k0, h.1.symm⟩
  · rw [Prod.mk.injEq] at h
    exact .inr ⟨h.2.symm, h.1.symm⟩

/-- What Put returns: a capacity, requests, how many were ahead, an error. -/
def putRes (most : Int) (l : List Ak) (a : Ak) : Int × List Ak × Int × Int := if putErr most l a = 0 then (most, l ++ [a], (l.length : Int), 0) else (0, [], 0, putErr most l a)
def PutGives (m : Int) (T : List Ak) (k r : Int) (w : World) (e : Ending) (w' : World) : Prop :=
  ∃ D d, e = .returned (.tuple #[.agg #[.int .i64 m, .slice D T.length d], .int .i64 k, .int .i64 r]) ∧ Row w' D (qcells T) ∧ Below w.heap.size w w'
theorem queuePut (most : Int) (A : Option Addr) (c : Nat) (l : List Ak) (n v : Bytes) (x t : Nat) (w : World) (hm : l.length ≤ maxLen) (hl : ∀ x ∈ l, AkFits x) (hn : n.length ≤ maxLen) (hv : v.length ≤ maxLen) (hA : Row w A (qcells l))
    (m : Int) (T : List Ak) (k r : Int) (hr : putRes most l (n, v, x, t) = (m, T, k, r)) :
    Calls Tryz.prog 45 #[.agg #[.int .i64 most, .slice A l.length c], .agg #[.string (S n), .string (S v), .int .u64 (x : Int), .int .u64 (t : Int)]] w (PutGives m T k r w) := by
  unfold putRes at hr
  by_cases h : putErr most l (n, v, x, t) = 0
  · rw [if_pos h] at hr
    simp only [Prod.mk.injEq] at hr
    obtain ⟨rfl, rfl, rfl, rfl⟩ := hr
    obtain ⟨hg, hq, hlm⟩ := putErr_ok h
    refine (queuePut_ok most A c l n v x t w hg hl hn hv hA hq hlm).mono ?_
    rintro e w' ⟨D, d, he, ho, hb⟩
    exact ⟨D, d, he, Row.ownN ho, hb⟩
  · rw [if_neg h] at hr
    simp only [Prod.mk.injEq] at hr
    obtain ⟨rfl, rfl, rfl, rfl⟩ := hr
    refine (queuePut_no most A c l n v x t w hm hl hn hv hA _ rfl h).mono ?_
    rintro e w' ⟨he, hb⟩
    exact ⟨none, 0, he, Row.nil_ _ _, hb⟩
/-- What Take returns: a capacity, the requests that are left, those that were taken, an error. -/
def takeRes (most : Int) (l : List Ak) (n : Int) : Int × List Ak × List Ak × Int := if takeErr most l n = 0 then (most, l.drop (min n.toNat l.length), l.take (min n.toNat l.length), 0) else (0, [], [], takeErr most l n)
def TookGives (m : Int) (T U : List Ak) (r : Int) (w : World) (e : Ending) (w' : World) : Prop :=
  ∃ D d E f, e = .returned (.tuple #[.agg #[.int .i64 m, .slice D T.length d], .slice E U.length f, .int .i64 r]) ∧ Row w' D (qcells T) ∧ Row w' E (qcells U) ∧ Below w.heap.size w w'
theorem queueTake (most : Int) (A : Option Addr) (c : Nat) (l : List Ak) (n : Int) (w : World) (hm : l.length ≤ maxLen) (hl : ∀ x ∈ l, AkFits x) (hc : l.length ≤ c) (hA : Row w A (qcells l))
    (m : Int) (T U : List Ak) (r : Int) (hr : takeRes most l n = (m, T, U, r)) :
    Calls Tryz.prog 50 #[.agg #[.int .i64 most, .slice A l.length c], .int .i64 n] w (TookGives m T U r w) := by
  unfold takeRes at hr
  by_cases h : takeErr most l n = 0
  · rw [if_pos h] at hr
    simp only [Prod.mk.injEq] at hr
    obtain ⟨rfl, rfl, rfl, rfl⟩ := hr
    obtain ⟨hg, hn⟩ := takeErr_ok h
    have := queueTake_ok most A c l n.toNat _ w hg hl hc hA rfl
    rw [Int.toNat_of_nonneg hn] at this
    refine this.mono ?_
    rintro e w' ⟨D, d, E, f, he, h1, h2, hb⟩
    exact ⟨D, d, E, f, he, Row.ownN h1, Row.ownN h2, hb⟩
  · rw [if_neg h] at hr
    simp only [Prod.mk.injEq] at hr
    obtain ⟨rfl, rfl, rfl, rfl⟩ := hr
    refine (queueTake_no most A c l n w hm hl hA _ rfl h).mono ?_
    rintro e w' ⟨he, hb⟩
    exact ⟨none, 0, none, 0, he, Row.nil_ _ _, Row.nil_ _ _, hb⟩
end Go.Proofs.YtjcockcilkiggaaGreat
/- package tree: zeros returns how many paths at the front have 0 at a byte. It writes nothing. -/
namespace Go.Proofs.YtjcockcilkiggaaGreat
open Go.RowKit

theorem Row.strAt {w : World} {A : Option Addr} {ss : List Bytes} (h : Row w A (scells ss)) (k : Nat) (hk : k < ss.length) : ∃ g off, A = some ⟨g, off, none⟩ ∧ w.cell? ⟨g, off + k, none⟩ = some (.string (S ss[k])) := by
  obtain ⟨g, off, e, hc⟩ := h (by rw [scells_length]; omega)
  refine ⟨g, off, e, ?_⟩
  rw [hc k (by rw [scells_length]; exact hk)]
  simp [scells]

set_option maxHeartbeats 800000 in
theorem treeZeros (B : Option Addr) (d : Nat) (ps : List Bytes) (n : Nat) (w : World) (m : Nat) (hm : ps.length = m) (hml : m ≤ 1000) (hps : ∀ s ∈ ps, s.length = 16) (hn : n < 16) (hB : Row w B (scells ps)) (z : Nat) (hz : zcount n ps = z) :
    Calls Tryz.prog 84 #[.slice B m d, .int .i64 (n : Int)] w fun e w' => e = .returned (.int .i64 (z : Int)) ∧ w = w' := by
  have HP := Lib.hid hps
  have HZ : Hid (z = 0 + zcount n (ps.drop 0)) := by show z = _; rw [List.drop_zero, hz, Nat.zero_add]
  subst hm
  clear hps hz
  go_enter Tryz.func84, Tryz.ntmps84
  go_wp2
  go_loop [5] (fun i => ∃ k : Nat, k ≤ ps.length ∧ i = .int .i64 k ∧ Hid (z = k + zcount n (ps.drop k))) (fun i => ps.length - (intOf i).toNat)
  case atStart => exact ⟨0, Nat.zero_le _, rfl, HZ⟩
  case round =>
    obtain ⟨k, hk, rfl, HS⟩ := hrel
    by_cases hlt : k < ps.length
    · obtain ⟨g, off, rfl, h1⟩ := hB.strAt k hlt
      have hi0 : (0 : Int) ≤ (k : Int) := by omega
      have hi1 : (k : Int) < (ps.length : Int) := by omega
      have hl := HP.out _ (List.getElem_mem hlt)
      have HS' : Hid (z = k + if ps[k][n]? = some 48 then zcount n (ps.drop (k + 1)) + 1 else 0) := by
        have := HS.out
        rw [List.drop_eq_getElem_cons hlt, zcount] at this
        exact this
      clear HS HZ hB
      generalize ps[k] = s at *
      have hn0 : (0 : Int) ≤ (n : Int) := by omega
      have hn1 : (n : Int) < (s.length : Int) := by omega
      have hn2 : n < s.length := by omega
      rw [List.getElem?_eq_getElem hn2] at HS'
      by_cases hc : s[n] = 48
      · have c1 : ((s[n].toNat : Int) == 48) = true := by rw [hc]; rfl
        have HS2 : Hid (z = k + 1 + zcount n (ps.drop (k + 1))) := by
          show z = _
          rw [HS'.out, if_pos (by rw [hc])]
          omega
        clear HS' hc
        go_wp2
        go_round
        case rel => exact ⟨k + 1, by omega, by go_num, HS2⟩
        case measure => simp [intOf]; omega
      · have c1 : ((s[n].toNat : Int) == 48) = false := by
          rw [beq_eq_false_iff_ne]
          intro e
          apply hc
          have e' : s[n].toNat = 48 := by omega
          exact UInt8.toNat_inj.1 e'
        have HS2 : Hid (z = k) := by
          show z = _
          rw [HS'.out, if_neg (fun e => hc (by injection e))]
          rfl
        clear HS' hc
        go_wp2
        go_ret
        exact ⟨by rw [HS2.out]; rfl, rfl⟩
    · have HS2 : Hid (z = k) := by
        show z = k
        rw [HS.out, List.drop_eq_nil_of_le (by omega)]
        rfl
      have c0 : decide ((k : Int) < (ps.length : Int)) = false := decide_eq_false (by omega)
      go_wp2
      go_ret
      exact ⟨by rw [HS2.out]; rfl, rfl⟩
end Go.Proofs.YtjcockcilkiggaaGreat
