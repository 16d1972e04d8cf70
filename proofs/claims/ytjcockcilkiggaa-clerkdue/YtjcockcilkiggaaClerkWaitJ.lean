/- Clerks: where a request waits, or in which book it is (plain). -/
import Derived.Test.YtjcockcilkiggaaJ37
namespace Go.Proofs.Ytjcockcilkiggaa
open Go.RowKit

theorem stands_setAll_other (bk : List Ent) (l : List Ak) (n : Bytes) (h : ∀ x ∈ l, x.1 ≠ n) : stands (setAll bk l) n = stands bk n := by
  induction l generalizing bk with
  | nil => rfl
  | cons a l ih =>
    rw [setAll_cons, ih _ (fun x hx => h x (List.mem_cons_of_mem _ hx)), stands_setTo, if_neg (fun e => h a (by simp) e.symm)]
theorem stands_setAll (bk : List Ent) (pre post : List Ak) (a : Ak) (h : ∀ x ∈ post, x.1 ≠ a.1) : stands (setAll bk (pre ++ a :: post)) a.1 = some a.2.1 := by
  have e : setAll bk (pre ++ a :: post) = setAll (setTo a.1 a.2.1 (setAll bk pre)) post := by
    unfold setAll
    rw [List.foldl_append, List.foldl_cons]
  rw [e, stands_setAll_other _ _ _ h, stands_setTo, if_pos rfl]
theorem div_next {N v : Nat} (hv : 1 ≤ v) (h : (N + 1) % v ≠ 0) : (N + 1) / v = N / v := by
  have e := Nat.div_add_mod N v
  have hr := Nat.mod_lt N (by omega : 0 < v)
  have h1 : N % v + 1 ≠ v := fun h2 => h (by
    have : N + 1 = v * (N / v) + v := by omega
    rw [this, Nat.add_mod_right, Nat.mul_mod_right])
  have e2 : N + 1 = v * (N / v) + (N % v + 1) := by omega
  rw [e2, Nat.mul_add_div (by omega), Nat.div_eq_of_lt (by omega : N % v + 1 < v), Nat.add_zero]
/-- Where a request is: it waits, and when it is had; or it stands in a book. -/
def DueInv (n0 : Nat) (a : Ak) (due : Int) (k : Ck) : Prop :=
  (∃ pre post, k.wait = pre ++ a :: post ∧ (∀ x ∈ post, x.1 ≠ a.1) ∧ due = (dueN k.now.toNat k.every.toNat pre.length k.batch.toNat : Nat)) ∨
  (∃ i, n0 ≤ i ∧ ∃ (h : i < k.books.length) (h' : i < k.heads.length), stands k.books[i] a.1 = some a.2.1 ∧ k.heads[i].2.2.2 ≤ due)
theorem ck_nat {k : Ck} (hg : CkGood k) : ∃ N v b : Nat, k.now = (N : Int) ∧ k.every = (v : Int) ∧ k.batch = (b : Int) ∧ 1 ≤ v ∧ v ≤ 1000 ∧ 1 ≤ b ∧ b ≤ 30 ∧ N ≤ 1000000000 := by
  have hr := hg.range
  unfold rangeBad at hr
  exact ⟨k.now.toNat, k.every.toNat, k.batch.toNat, by omega, by omega, by omega, by omega, by omega, by omega, by omega, by omega⟩
theorem due_nat {k : Ck} (hg : CkGood k) : dueOf k = (dueN k.now.toNat k.every.toNat k.wait.length k.batch.toNat : Nat) := by
  obtain ⟨N, v, b, h1, h2, h3, _⟩ := ck_nat hg
  rw [dueOf_nat N v b k h1 h2 h3, h1, h2, h3]
  rfl
theorem dueN_gt (N v p b : Nat) (hv : 1 ≤ v) : N < dueN N v p b := Nat.lt_of_lt_of_le (lt_nextAt N v hv) (nextAt_due N v p b)
theorem dueOf_gt {k : Ck} (hg : CkGood k) : k.now < dueOf k := by
  obtain ⟨N, v, b, h1, h2, h3, h4, _⟩ := ck_nat hg
  rw [dueOf_nat N v b k h1 h2 h3, h1]
  have := dueN_gt N v k.wait.length b h4
  omega
theorem dueOf_le {k : Ck} (hg : CkGood k) : dueOf k ≤ 1000031000 := by
  obtain ⟨N, v, b, h1, h2, h3, h4, h5, h6, h7, h8⟩ := ck_nat hg
  rw [dueOf_nat N v b k h1 h2 h3, dueN]
  have hw : k.wait.length ≤ 30 := by have := hg.queue.len; have := hg.queue.m30; omega
  have e1 := Nat.div_mul_le_self N v
  have e2 : (k.wait.length / b + 1) * v ≤ 31 * 1000 := Nat.mul_le_mul (by have := Nat.div_le_self k.wait.length b; omega) h5
  omega
theorem DueInv.start {k : Ck} (hg : CkGood k) (n0 : Nat) (a : Ak) : DueInv n0 a (dueOf k) (ckAsked k a) := .inl ⟨k.wait, [], rfl, by simp, due_nat hg⟩
theorem DueInv.asked {n0 : Nat} {a b : Ak} {due : Int} {k : Ck} (h : DueInv n0 a due k) (hb : b.1 ≠ a.1) : DueInv n0 a due (ckAsked k b) := by
  rcases h with ⟨pre, post, e, h1, h2⟩ | h
  · refine .inl ⟨pre, post ++ [b], ?_, fun x hx => ?_, h2⟩
    · show k.wait ++ [b] = _
      rw [e]
      simp
    · rcases List.mem_append.1 hx with hx | hx
      · exact h1 x hx
      · rw [List.mem_singleton.1 hx]; exact hb
  · exact .inr h
theorem DueInv.tick {n0 : Nat} {a : Ak} {due : Int} {k : Ck} (h : DueInv n0 a due k) (hg : CkGood k) (hn : n0 ≤ k.books.length) : DueInv n0 a due (ckTick k).1 := by
  obtain ⟨N, v, b, h1, h2, h3, h4, h5, h6, h7, h8⟩ := ck_nat hg
  unfold ckTick
  split
  · exact h
  · split
    · rename_i hc hm
      rw [h1, h2] at hm
      have hm' : (N + 1) % v = 0 := by exact_mod_cast hm
      have hnx : N + 1 = nextAt N v := nextAt_only h4 (by omega) (lt_nextAt N v h4) hm'
      have hbl : k.books.length = k.heads.length := by have := hg.form; unfold formBad at this; omega
      rcases h with ⟨pre, post, e, hp, hd⟩ | ⟨i, hi, hb1, hb2, hs, ht⟩
      · rw [h1, h2, h3] at hd
        simp only [Int.toNat_natCast] at hd
        by_cases hlt : pre.length < b
        · refine .inr ⟨k.books.length, hn, by simp, by simp [hbl], ?_, ?_⟩
          · dsimp only
            rw [List.getElem_append_right (Nat.le_refl _)]
            simp only [Nat.sub_self, List.getElem_singleton]
            rw [tickBk, h3, Int.toNat_natCast, e, List.take_append, List.take_of_length_le (by omega)]
            obtain ⟨j, hj⟩ : ∃ j, b - pre.length = j + 1 := ⟨b - pre.length - 1, by omega⟩
            rw [hj, List.take_succ_cons]
            exact stands_setAll _ _ _ _ fun x hx => hp x (List.mem_of_mem_take hx)
          · dsimp only
            rw [List.getElem_append_right (by omega)]
            simp only [List.getElem_singleton]
            show k.now + 1 ≤ due
            rw [hd, due_last hlt, ← hnx, h1]
            omega
        · refine .inl ⟨pre.drop b, post, ?_, hp, ?_⟩
          · dsimp only
            rw [h3, Int.toNat_natCast, e, List.drop_append_of_le_length (by omega)]
          · dsimp only
            rw [h1, h2, h3, List.length_drop, hd]
            simp only [Int.toNat_natCast]
            rw [show ((N : Int) + 1).toNat = N + 1 by omega, hnx, due_next h4 h6 (by omega)]
      · refine .inr ⟨i, hi, by simp; omega, by simp; omega, ?_, ?_⟩
        · dsimp only
          rw [List.getElem_append_left hb1]
          exact hs
        · dsimp only
          rw [List.getElem_append_left hb2]
          exact ht
    · rename_i hc hm
      rw [h1, h2] at hm
      have hm' : (N + 1) % v ≠ 0 := fun h => hm (by exact_mod_cast h)
      rcases h with ⟨pre, post, e, hp, hd⟩ | h
      · refine .inl ⟨pre, post, e, hp, ?_⟩
        rw [hd]
        dsimp only
        rw [h1, h2]
        simp only [Int.toNat_natCast]
        rw [show ((N : Int) + 1).toNat = N + 1 by omega, dueN, dueN, div_next h4 hm']
      · exact .inr h
/-- Behind its time a request stands in a book. -/
theorem DueInv.had {n0 : Nat} {a : Ak} {due : Int} {k : Ck} (h : DueInv n0 a due k) (hg : CkGood k) (ht : due ≤ k.now) : ∃ i, n0 ≤ i ∧ ∃ (h : i < k.books.length) (h' : i < k.heads.length), stands k.books[i] a.1 = some a.2.1 ∧ k.heads[i].2.2.2 ≤ due := by
  rcases h with ⟨pre, post, e, hp, hd⟩ | h
  · obtain ⟨N, v, b, h1, h2, h3, h4, _⟩ := ck_nat hg
    have := dueN_gt k.now.toNat k.every.toNat pre.length k.batch.toNat (by omega)
    omega
  · exact h
theorem ckTick_now (k : Ck) : (ckTick k).1.now = k.now ∨ (ckTick k).1.now = k.now + 1 := by
  unfold ckTick
  split
  · exact .inl rfl
  · split <;> exact .inr rfl
end Go.Proofs.Ytjcockcilkiggaa
