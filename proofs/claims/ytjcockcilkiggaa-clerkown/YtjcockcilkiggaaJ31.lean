/- The reference: ClerkAsk at a clerk that is right and has room: plain arithmetic of the time, and rows kept by stores elsewhere. -/
import Derived.Test.YtjcockcilkiggaaJ29
import Derived.Test.YtjcockcilkiggaaJ15
namespace Go.Proofs.Ytjcockcilkiggaa
set_option maxRecDepth 100000
open Go.RowKit

theorem own_far {W : World} {base g size n : Nat} {e : TypeId} {v : Value} {xs : List Value} (h : W.ownsRow base e size v n xs) (hne : ∀ k, v.ownBlock = some k → k ≠ g) (j : Nat) (u : Value) : (W.setCell ⟨g, j, none⟩ u).ownsRow base e size v n xs :=
  h.kept (row := some g) ⟨rfl, rfl, rfl, by simp [World.setCell], fun k _ hk => Below.heap_setCell _ _ _ k (fun e => hk (by rw [e]))⟩ (by
    cases hv : v.ownBlock with
    | none => exact .inl rfl
    | some k => exact .inr fun e => by injection e with e; exact hne k hv e)
/-- append in a straight line, and where the new row lies. -/
theorem app_asksAt {ops : Array Oper} {rest : List Oper} {o : Oper} {a : Act} {Q : Exit → Act → World → Prop} (w : World) (hgd : o.guard = none) (s x : Operand)
    (ho : o.op = .call { callee := .builtin .append, args := #[s, x], argTypes := #[22, 22] })
    (base : Nat) (v : Value) (l : List Ak) (hs : a.eval s = v) (hown : w.ownsRow base 35 4 v l.length (qcells l))
    (B : Option Addr) (c : Nat) (r : List Ak) (hx : a.eval x = .slice B r.length c) (hB : Row w B (qcells r)) (hsmall : (l.length + r.length) * 48 ≤ 140737488355328) (hbase : base ≤ w.heap.size)
    (h : ∀ v' w', w'.ownsRow base 35 4 v' (l ++ r).length (qcells (l ++ r)) → w.grownBy w' v.ownBlock → (v'.ownBlock = v.ownBlock ∨ v'.ownBlock = some w.heap.size) → wpList Try.prog ops Q rest (a.put o.dst v') w') : wpList Try.prog ops Q (o :: rest) a w := by
  obtain ⟨v', w', hrun, h1, h2, h3⟩ := run_appQat w o.type base v l hown B c r hB hsmall hbase
  exact app_run w hgd s x _ _ ho v _ v' w' hs hx hrun (h v' w' h1 h2 h3)
/-- The next time that an interval divides. -/
def nextAt (a v : Nat) : Nat := (a / v + 1) * v
theorem lt_nextAt (a v : Nat) (hv : 1 ≤ v) : a < nextAt a v := by
  have := Nat.div_add_mod a v
  have := Nat.mod_lt a (by omega : 0 < v)
  unfold nextAt
  rw [Nat.add_mul, Nat.one_mul, Nat.mul_comm]
  omega
theorem nextAt_mod (a v : Nat) : nextAt a v % v = 0 := Nat.mul_mod_left _ _
theorem nextAt_le (a v : Nat) : nextAt a v ≤ a + v := by
  have := Nat.div_add_mod a v
  unfold nextAt
  rw [Nat.add_mul, Nat.one_mul, Nat.mul_comm]
  omega
theorem nextAt_only {a v b : Nat} (hv : 1 ≤ v) (h1 : a < b) (h2 : b ≤ nextAt a v) (h3 : b % v = 0) : b = nextAt a v := by
  have e := Nat.div_add_mod b v
  rw [h3, Nat.add_zero] at e
  have e2 := Nat.div_add_mod a v
  have l1 : a / v ≤ b / v := Nat.div_le_div_right (by omega)
  have l2 : b / v ≤ a / v + 1 := by
    have := Nat.div_le_div_right (c := v) h2
    rwa [nextAt, Nat.mul_div_cancel _ (by omega)] at this
  have hne : b / v ≠ a / v := fun h => by rw [h] at e; omega
  have e3 : b / v = a / v + 1 := by omega
  rw [← e, e3, nextAt, Nat.mul_comm]
/-- When it is had, from a time on with so many ahead. -/
def dueN (a v left b : Nat) : Nat := (a / v) * v + (left / b + 1) * v
theorem due_last {a v left b : Nat} (h : left < b) : dueN a v left b = nextAt a v := by
  rw [dueN, Nat.div_eq_of_lt h, nextAt]
  simp only [Nat.add_mul, Nat.one_mul, Nat.zero_mul]
  omega
theorem due_next {a v left b : Nat} (hv : 1 ≤ v) (hb : 1 ≤ b) (h : b ≤ left) : dueN (nextAt a v) v (left - b) b = dueN a v left b := by
  have e1 : nextAt a v / v = a / v + 1 := by rw [nextAt, Nat.mul_div_cancel _ (by omega)]
  have e2 : left / b = (left - b) / b + 1 := by rw [← Nat.add_div_right _ (by omega : 0 < b), Nat.sub_add_cancel h]
  rw [dueN, dueN, e1, e2]
  simp only [Nat.add_mul, Nat.one_mul]
  omega
theorem nextAt_due (a v left b : Nat) : nextAt a v ≤ dueN a v left b := by
  rw [dueN, nextAt]
  simp only [Nat.add_mul, Nat.one_mul]
  omega
theorem dueOf_nat (N v b : Nat) (k : Ck) (h1 : k.now = (N : Int)) (h2 : k.every = (v : Int)) (h3 : k.batch = (b : Int)) : dueOf k = (dueN N v k.wait.length b : Nat) := by
  rw [dueOf, h1, h2, h3, dueN]
  have e := Nat.div_add_mod N v
  have : (N : Int) - (N : Int) % (v : Int) = ((N / v * v : Nat) : Int) := by
    have h : ((N : Nat) : Int) = ((v * (N / v) + N % v : Nat) : Int) := by rw [e]
    rw [Nat.mul_comm (N / v)]
    push_cast at h ⊢
    omega
  rw [this]
  push_cast
  rfl
end Go.Proofs.Ytjcockcilkiggaa
/- The reference: ClerkAsk at a clerk that is right and has room. It writes nothing that was there. -/
namespace Go.Proofs.Ytjcockcilkiggaa
set_option maxRecDepth 100000
open Go.RowKit

def AskedGives (most ba ev nw : Int) (l : List Ak) (hs : List Hd) (bs : List (List Ent)) (due : Int) (w : World) (x : Ending) (w' : World) : Prop :=
  ∃ D d E f F h qs, x = .returned (.tuple #[.agg #[.int .i64 most, .slice D l.length d, .int .i64 ba, .int .i64 ev, .int .i64 nw, .slice E hs.length f, .slice F qs.length h], .int .i64 due, .int .i64 0]) ∧ bks qs = bs ∧ OwnCk w' w.heap.size l hs D E F d f h qs ∧ Below w.heap.size w w'

end Go.Proofs.Ytjcockcilkiggaa
