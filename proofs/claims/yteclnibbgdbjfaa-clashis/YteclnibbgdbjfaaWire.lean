/- Plain facts on lists of bytes: the encoding of a list of strings, each behind its length in two bytes. No Go text. -/
namespace Go.Proofs.Yteclnibbgdbjfaa.Wire

def encLen (ss : List (List UInt8)) : Nat := (ss.map fun s => 2 + s.length).sum
def enc1 (s : List UInt8) : List UInt8 := UInt8.ofNat (s.length / 256) :: UInt8.ofNat s.length :: s
def enc (ss : List (List UInt8)) : List UInt8 := ss.flatMap enc1

theorem enc1_length (s : List UInt8) : (enc1 s).length = 2 + s.length := by simp [enc1]; omega
theorem encLen_nil : encLen [] = 0 := rfl
theorem encLen_cons (s : List UInt8) (ss : List (List UInt8)) : encLen (s :: ss) = 2 + s.length + encLen ss := by simp [encLen]
theorem encLen_append (a b : List (List UInt8)) : encLen (a ++ b) = encLen a + encLen b := by simp [encLen]
theorem enc_length (ss : List (List UInt8)) : (enc ss).length = encLen ss := by
  induction ss with
  | nil => rfl
  | cons s ss ih => simp only [enc, List.flatMap_cons, List.length_append, encLen_cons, enc1_length] at *; omega
theorem enc_append (a b : List (List UInt8)) : enc (a ++ b) = enc a ++ enc b := by simp [enc]
theorem take_step {α : Type} (l : List α) (k : Nat) (h : k < l.length) : l.take (k + 1) = l.take k ++ [l[k]] := by rw [List.take_succ_eq_append_getElem h]
theorem encLen_step (ss : List (List UInt8)) (k : Nat) (h : k < ss.length) : encLen (ss.take (k + 1)) = encLen (ss.take k) + (2 + ss[k].length) := by
  rw [take_step ss k h, encLen_append, encLen_cons, encLen_nil]; omega
theorem encLen_take_le (ss : List (List UInt8)) (k : Nat) : encLen (ss.take k) ≤ encLen ss := by
  have h := encLen_append (ss.take k) (ss.drop k)
  rw [List.take_append_drop] at h
  omega
theorem enc_step (ss : List (List UInt8)) (k : Nat) (h : k < ss.length) : enc (ss.take (k + 1)) = enc (ss.take k) ++ enc1 ss[k] := by
  rw [take_step ss k h, enc_append]; simp [enc]
theorem two_le (ss : List (List UInt8)) : ss.length * 2 ≤ encLen ss := by
  induction ss with
  | nil => simp [encLen]
  | cons s ss ih => rw [encLen_cons, List.length_cons]; omega
/-- What Put accepts. -/
def fitsB (ss : List (List UInt8)) : Bool := decide (encLen ss ≤ 600)
def okB (ss : List (List UInt8)) : Bool := decide (ss.length ≤ 60) && fitsB ss

/-- The number in the first two bytes. -/
def head2 (l : List UInt8) : Nat := 256 * (l[0]?.getD 0).toNat + (l[1]?.getD 0).toNat
theorem head2_eq (l : List UInt8) (h : 2 ≤ l.length) : 256 * l[0].toNat + l[1].toNat = head2 l := by
  simp [head2, show 0 < l.length by omega, show 1 < l.length by omega]
theorem head2_le (l : List UInt8) : head2 l ≤ 65535 := by
  have h1 := (l[0]?.getD 0).toNat_lt
  have h2 := (l[1]?.getD 0).toNat_lt
  unfold head2
  omega
/-- A string begins with an encoded string. -/
def firstB (l : List UInt8) : Bool := decide (2 ≤ l.length) && decide (head2 l + 2 ≤ l.length)

theorem head2_enc1 (p r : List UInt8) (h : p.length ≤ 65535) : head2 (enc1 p ++ r) = p.length := by
  simp only [head2, enc1, List.cons_append, List.getElem?_cons_zero, List.getElem?_cons_succ, Option.getD_some, UInt8.toNat_ofNat']
  omega
theorem first_enc1 (p r : List UInt8) (h : p.length ≤ 65535) : firstB (enc1 p ++ r) = true ∧ ((enc1 p ++ r).drop 2).take (head2 (enc1 p ++ r)) = p ∧ (enc1 p ++ r).drop (2 + head2 (enc1 p ++ r)) = r := by
  rw [firstB, head2_enc1 p r h]
  refine ⟨?_, ?_, ?_⟩
  · simp [enc1]
  · simp [enc1]
  · rw [← List.drop_drop]; simp [enc1]
theorem split_first (l : List UInt8) (h : firstB l = true) : l = enc1 ((l.drop 2).take (head2 l)) ++ l.drop (2 + head2 l) := by
  obtain ⟨h2, hle⟩ : 2 ≤ l.length ∧ head2 l + 2 ≤ l.length := by simpa [firstB] using h
  match l, h2 with
  | x :: y :: t, _ =>
    have hx := x.toNat_lt
    have hy := y.toNat_lt
    have hn : head2 (x :: y :: t) = 256 * x.toNat + y.toNat := by simp [head2]
    rw [hn] at hle ⊢
    simp only [List.length_cons] at hle
    have hlen : ((x :: y :: t).drop 2 |>.take (256 * x.toNat + y.toNat)).length = 256 * x.toNat + y.toNat := by simp; omega
    rw [enc1, hlen]
    have e1 : UInt8.ofNat ((256 * x.toNat + y.toNat) / 256) = x := by
      apply UInt8.toNat_inj.1; simp only [UInt8.toNat_ofNat']; omega
    have e2 : UInt8.ofNat (256 * x.toNat + y.toNat) = y := by
      apply UInt8.toNat_inj.1; simp only [UInt8.toNat_ofNat']; omega
    rw [e1, e2]
    have e3 : (x :: y :: t).drop (2 + (256 * x.toNat + y.toNat)) = t.drop (256 * x.toNat + y.toNat) := by rw [← List.drop_drop]; rfl
    rw [e3]
    simp
theorem first_length (l : List UInt8) (h : firstB l = true) : ((l.drop 2).take (head2 l)).length + 2 + (l.drop (2 + head2 l)).length = l.length := by
  have e := congrArg List.length (split_first l h)
  rw [List.length_append, enc1_length] at e
  omega
theorem enc_nil_iff (qs : List (List UInt8)) : enc qs = [] ↔ qs = [] := by
  cases qs with
  | nil => simp [enc]
  | cons q qs => simp [enc, enc1]
/-- What begins with encoded strings and is an encoding has an encoding behind them. -/
theorem enc_split : ∀ (ps qs : List (List UInt8)) (r : List UInt8), enc ps ++ r = enc qs → (enc qs).length ≤ 65535 → ∃ qs', qs = ps ++ qs' ∧ r = enc qs'
  | [], qs, r, h, _ => ⟨qs, rfl, by simpa [enc] using h⟩
  | p :: ps, qs, r, h, hl => by
    cases qs with
    | nil => simp [enc, enc1] at h
    | cons q qs =>
      have e1 : enc (p :: ps) ++ r = enc1 p ++ (enc ps ++ r) := by simp [enc]
      have e2 : enc (q :: qs) = enc1 q ++ enc qs := by simp [enc]
      rw [e1, e2] at h
      have hq : q.length ≤ 65535 := by rw [e2, List.length_append, enc1_length] at hl; omega
      have hp : p.length ≤ 65535 := by
        have := congrArg List.length h
        rw [← e2] at this
        rw [List.length_append, enc1_length] at this
        omega
      obtain ⟨_, a1, b1⟩ := first_enc1 p (enc ps ++ r) hp
      obtain ⟨_, a2, b2⟩ := first_enc1 q (enc qs) hq
      rw [h, a2] at a1
      rw [h, b2] at b1
      subst a1
      obtain ⟨qs', rfl, rfl⟩ := enc_split ps qs r b1.symm (by rw [e2, List.length_append] at hl; omega)
      exact ⟨qs', rfl, rfl⟩
theorem enc_inj (ps qs : List (List UInt8)) (h : enc ps = enc qs) (hl : (enc qs).length ≤ 65535) : ps = qs := by
  obtain ⟨qs', rfl, h0⟩ := enc_split ps qs [] (by simpa using h) hl
  rw [(enc_nil_iff qs').1 h0.symm, List.append_nil]
theorem enc_cons (q : List UInt8) (qs : List (List UInt8)) : enc (q :: qs) = enc1 q ++ enc qs := by simp [enc]
theorem firstB_enc (qs : List (List UInt8)) (hne : qs ≠ []) (hl : (enc qs).length ≤ 65535) : firstB (enc qs) = true := by
  cases qs with
  | nil => exact absurd rfl hne
  | cons q qs =>
    rw [enc_cons] at hl ⊢
    exact (first_enc1 q (enc qs) (by rw [List.length_append, enc1_length] at hl; omega)).1
end Go.Proofs.Yteclnibbgdbjfaa.Wire
