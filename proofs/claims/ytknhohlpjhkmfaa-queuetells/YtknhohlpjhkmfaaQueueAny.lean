/- Package queue: what Put, Take and Wait return, whatever they are given. They write nothing that was there. -/
import Derived.Test.YtknhohlpjhkmfaaQueueRows
namespace Go.Proofs.Ytknhohlpjhkmfaa
set_option maxRecDepth 100000
open Go.RowKit

/-- What Wait returns. -/
def waitAns (a b k : Int) : Int × Int := if WaitOk a b k then (((a.toNat / b.toNat + 1) * k.toNat : Nat), 0) else (0, 4)
theorem queueWait (a b k : Int) (w : World) (v r : Int) (h : waitAns a b k = (v, r)) :
    Calls Try.prog 8 #[.int .i64 a, .int .i64 b, .int .i64 k] w fun e w' => e = .returned (.tuple #[.int .i64 v, .int .i64 r]) ∧ w = w' := by
  unfold waitAns at h
  by_cases k0 : WaitOk a b k
  · rw [if_pos k0, Prod.mk.injEq] at h
    obtain ⟨rfl, rfl⟩ := h
    obtain ⟨⟨a0, a1⟩, ⟨b0, b1⟩, k1, k2⟩ := k0
    have := queueWait_ok a.toNat b.toNat k.toNat w (by omega) (by omega) (by omega) (by omega) (by omega) _ rfl
    rw [Int.toNat_of_nonneg a0, Int.toNat_of_nonneg (by omega : 0 ≤ b), Int.toNat_of_nonneg (by omega : 0 ≤ k)] at this
    exact this
  · rw [if_neg k0, Prod.mk.injEq] at h
    obtain ⟨rfl, rfl⟩ := h
    exact queueWait_no a b k w k0
theorem waitAns_err {a b k v r : Int} (h : waitAns a b k = (v, r)) : r = 0 ∧ WaitOk a b k ∧ v = ((a.toNat / b.toNat + 1) * k.toNat : Nat) ∨ r = 4 ∧ v = 0 := by
  unfold waitAns at h
  split at h
  · rename_i k0
    rw [Prod.mk.injEq] at h
    exact .inl ⟨h.2.symm, k0, h.1.symm⟩
  · rw [Prod.mk.injEq] at h
    exact .inr ⟨h.2.symm, h.1.symm⟩

/-- What Put returns: a capacity, requests, how many were ahead, an error. -/
def putRes (most : Int) (l : List Ak) (a : Ak) : Int × List Ak × Int × Int := if putErr most l a = 0 then (most, l ++ [a], (l.length : Int), 0) else (0, [], 0, putErr most l a)
def PutGives (m : Int) (T : List Ak) (k r : Int) (w : World) (e : Ending) (w' : World) : Prop :=
  ∃ D d, e = .returned (.tuple #[.agg #[.int .i64 m, .slice D T.length d], .int .i64 k, .int .i64 r]) ∧ Row w' D (qcells T) ∧ Below w.heap.size w w'
theorem queuePut (most : Int) (A : Option Addr) (c : Nat) (l : List Ak) (n v : Bytes) (x t : Nat) (w : World) (hm : l.length ≤ maxLen) (hl : ∀ x ∈ l, AkFits x) (hn : n.length ≤ maxLen) (hv : v.length ≤ maxLen) (hA : Row w A (qcells l))
    (m : Int) (T : List Ak) (k r : Int) (hr : putRes most l (n, v, x, t) = (m, T, k, r)) :
    Calls Try.prog 6 #[.agg #[.int .i64 most, .slice A l.length c], .agg #[.string (S n), .string (S v), .int .u64 (x : Int), .int .u64 (t : Int)]] w (PutGives m T k r w) := by
  unfold putRes at hr
  by_cases h : putErr most l (n, v, x, t) = 0
  · rw [if_pos h] at hr
    simp only [Prod.mk.injEq] at hr
    obtain ⟨rfl, rfl, rfl, rfl⟩ := hr
    obtain ⟨hg, hq, hlm⟩ := putErr_ok h
    refine (queuePut_ok most A c l n v x t w hg hl hn hv hA hq hlm).mono ?_
    rintro e w' ⟨D, d, he, ho, hb⟩
    exact ⟨D, d, he, Row.ownN ho, hb⟩
  · rw [if_neg h] at hr
    simp only [Prod.mk.injEq] at hr
    obtain ⟨rfl, rfl, rfl, rfl⟩ := hr
    refine (queuePut_no most A c l n v x t w hm hl hn hv hA _ rfl h).mono ?_
    rintro e w' ⟨he, hb⟩
    exact ⟨none, 0, he, Row.nil_ _ _, hb⟩
/-- What Take returns: a capacity, the requests that are left, those that were taken, an error. -/
def takeRes (most : Int) (l : List Ak) (n : Int) : Int × List Ak × List Ak × Int := if takeErr most l n = 0 then (most, l.drop (min n.toNat l.length), l.take (min n.toNat l.length), 0) else (0, [], [], takeErr most l n)
def TookGives (m : Int) (T U : List Ak) (r : Int) (w : World) (e : Ending) (w' : World) : Prop :=
  ∃ D d E f, e = .returned (.tuple #[.agg #[.int .i64 m, .slice D T.length d], .slice E U.length f, .int .i64 r]) ∧ Row w' D (qcells T) ∧ Row w' E (qcells U) ∧ Below w.heap.size w w'
theorem queueTake (most : Int) (A : Option Addr) (c : Nat) (l : List Ak) (n : Int) (w : World) (hm : l.length ≤ maxLen) (hl : ∀ x ∈ l, AkFits x) (hc : l.length ≤ c) (hA : Row w A (qcells l))
    (m : Int) (T U : List Ak) (r : Int) (hr : takeRes most l n = (m, T, U, r)) :
    Calls Try.prog 7 #[.agg #[.int .i64 most, .slice A l.length c], .int .i64 n] w (TookGives m T U r w) := by
  unfold takeRes at hr
  by_cases h : takeErr most l n = 0
  · rw [if_pos h] at hr
    simp only [Prod.mk.injEq] at hr
    obtain ⟨rfl, rfl, rfl, rfl⟩ := hr
    obtain ⟨hg, hn⟩ := takeErr_ok h
    have := queueTake_ok most A c l n.toNat _ w hg hl hc hA rfl
    rw [Int.toNat_of_nonneg hn] at this
    refine this.mono ?_
    rintro e w' ⟨D, d, E, f, he, h1, h2, hb⟩
    exact ⟨D, d, E, f, he, Row.ownN h1, Row.ownN h2, hb⟩
  · rw [if_neg h] at hr
    simp only [Prod.mk.injEq] at hr
    obtain ⟨rfl, rfl, rfl, rfl⟩ := hr
    refine (queueTake_no most A c l n w hm hl hA _ rfl h).mono ?_
    rintro e w' ⟨he, hb⟩
    exact ⟨none, 0, none, 0, he, Row.nil_ _ _, Row.nil_ _ _, hb⟩
end Go.Proofs.Ytknhohlpjhkmfaa
