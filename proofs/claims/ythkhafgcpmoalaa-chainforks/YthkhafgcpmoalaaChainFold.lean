/- Two chains, the law's own road through them: one loop over the first chain, each head looked up in the second: what it has found at its end. No function of the program in this text. -/
import Derived.Test.YthkhafgcpmoalaaChainAny
import Derived.Test.YthkhafgcpmoalaaChainClash
namespace Go.Proofs.Ythkhafgcpmoalaa
set_option maxRecDepth 100000
open Go.RowKit

theorem snoc_ind {α : Type} {P : List α → Prop} (h0 : P []) (h1 : ∀ s x, P s → P (s ++ [x])) : ∀ l, P l := by
  intro l
  rw [← List.reverse_reverse l]
  induction l.reverse with
  | nil => exact h0
  | cons x s ih => rw [List.reverse_cons]; exact h1 _ _ ih
theorem snoc_cases {α : Type} (l : List α) : l = [] ∨ ∃ s x, l = s ++ [x] := snoc_ind (P := fun l => l = [] ∨ ∃ s x, l = s ++ [x]) (.inl rfl) (fun s x _ => .inr ⟨s, x, rfl⟩) l
/-- What the loop holds: whether there was a common epoch; the least and the last epoch whose heads differ; the last two heads of one epoch. -/
structure Fd where
  any : Bool
  least : Int
  last : Int
  x : Hd
  y : Hd
def fdInit : Fd := ⟨false, -1, -1, (0, 0, 0, 0), (0, 0, 0, 0)⟩
/-- A round with a head of the epoch in the second chain. -/
def fdHit (s : Fd) (x y : Hd) : Fd := if x = y then ⟨true, s.least, s.last, x, y⟩ else ⟨true, if s.least < 0 then x.1 else s.least, x.1, x, y⟩
def fdStep (b : List Hd) (s : Fd) (x : Hd) : Fd := match hof b x.1 with
  | none => s
  | some y => fdHit s x y
/-- The epoch of the last heads that differ, or -1. -/
def lastd (s t : List Hd) : Int := (s.zip t).foldl (fun acc p => if p.1 = p.2 then acc else p.1.1) (-1)
theorem lastd_snoc (s t : List Hd) (h : s.length = t.length) (x y : Hd) : lastd (s ++ [x]) (t ++ [y]) = if x = y then lastd s t else x.1 := by
  unfold lastd
  rw [List.zip_append h, List.foldl_append]
  rfl
theorem forkAt_snoc : ∀ (s t : List Hd), s.length = t.length → (∀ h ∈ s, 0 ≤ h.1) → ∀ (x y : Hd), forkAt (s ++ [x]) (t ++ [y]) = if forkAt s t < 0 then (if x = y then -1 else x.1) else forkAt s t
  | [], [], _, _, x, y => by
    by_cases e : x = y <;> simp [forkAt, e]
  | [], _ :: _, h, _, _, _ => by cases h
  | _ :: _, [], h, _, _, _ => by cases h
  | u :: s, v :: t, h, hg, x, y => by
    rw [List.cons_append, List.cons_append, forkAt, forkAt]
    by_cases e : u = v
    · rw [if_pos e, if_pos e]
      exact forkAt_snoc s t (by simpa using h) (fun z hz => hg z (List.mem_cons_of_mem _ hz)) x y
    · rw [if_neg e, if_neg e]
      have := hg u List.mem_cons_self
      rw [if_neg (by omega)]
/-- The fold over the common heads. -/
theorem fold_pairs (b : List Hd) : ∀ (S T : List Hd), S.length = T.length → (∀ h ∈ S, 0 ≤ h.1) → (∀ i (h1 : i < S.length) (h2 : i < T.length), hof b S[i].1 = some T[i]) → 0 < S.length →
    S.foldl (fdStep b) fdInit = ⟨true, forkAt S T, lastd S T, lastH S, lastH T⟩ := by
  intro S
  refine snoc_ind (P := fun S => ∀ T : List Hd, S.length = T.length → (∀ h ∈ S, 0 ≤ h.1) → (∀ i (h1 : i < S.length) (h2 : i < T.length), hof b S[i].1 = some T[i]) → 0 < S.length → S.foldl (fdStep b) fdInit = ⟨true, forkAt S T, lastd S T, lastH S, lastH T⟩) ?_ (fun s x ih => ?_) S
  · intro T _ _ _ h
    simp at h
  · intro T hl hg hh _
    rcases snoc_cases T with rfl | ⟨t, y, rfl⟩
    · simp at hl
    · have hl' : s.length = t.length := by simpa using hl
      have hx := hh s.length (by simp) (by simp; omega)
      have e1 : (s ++ [x])[s.length]'(by simp) = x := by simp
      have e2 : (t ++ [y])[s.length]'(by simp; omega) = y := by simp [hl']
      rw [e1, e2] at hx
      have l1 : lastH (s ++ [x]) = x := by simp [lastH]
      have l2 : lastH (t ++ [y]) = y := by simp [lastH]
      rw [List.foldl_append, List.foldl_cons, List.foldl_nil, lastd_snoc s t hl', forkAt_snoc s t hl' (fun h hh' => hg h (List.mem_append_left _ hh')), l1, l2]
      by_cases h0 : 0 < s.length
      · rw [ih t hl' (fun h hh' => hg h (List.mem_append_left _ hh')) (fun i h1 h2 => by
          have := hh i (by simp; omega) (by simp; omega)
          rwa [List.getElem_append_left h1, List.getElem_append_left h2] at this) h0, fdStep, hx]
        dsimp only [fdHit]
        by_cases e : x = y
        · rw [if_pos e, if_pos e, if_pos e]
          by_cases k : forkAt s t < 0
          · rw [if_pos k]
            congr 1
            have : ∀ (s t : List Hd), (∀ h ∈ s, 0 ≤ h.1) → forkAt s t < 0 → forkAt s t = -1 := by
              intro s
              induction s with
              | nil => intro t _ _; cases t <;> rfl
              | cons u s ih2 =>
                intro t hg2 hk
                cases t with
                | nil => rfl
                | cons v t =>
                  rw [forkAt] at hk ⊢
                  by_cases e2 : u = v
                  · rw [if_pos e2] at hk ⊢
                    exact ih2 t (fun z hz => hg2 z (List.mem_cons_of_mem _ hz)) hk
                  · rw [if_neg e2] at hk
                    have := hg2 u List.mem_cons_self
                    omega
            exact this s t (fun h hh' => hg h (List.mem_append_left _ hh')) k
          · rw [if_neg k]
        · rw [if_neg e, if_neg e, if_neg e]
      · have es : s = [] := List.eq_nil_of_length_eq_zero (by omega)
        have et : t = [] := List.eq_nil_of_length_eq_zero (by omega)
        subst es; subst et
        rw [List.foldl_nil, fdStep, hx]
        dsimp only [fdHit, fdInit]
        by_cases e : x = y
        · rw [if_pos e, if_pos e, if_pos e]
          rfl
        · rw [if_neg e, if_neg e, if_neg e]
          rfl
theorem fold_none (b : List Hd) (l : List Hd) (s : Fd) (h : ∀ x ∈ l, hof b x.1 = none) : l.foldl (fdStep b) s = s := by
  induction l generalizing s with
  | nil => rfl
  | cons x l ih =>
    rw [List.foldl_cons, fdStep, h x List.mem_cons_self]
    exact ih s (fun z hz => h z (List.mem_cons_of_mem _ hz))
theorem fold_apart {a b : List Hd} (ga : CGood a) (gb : CGood b) (h : comTo a b < comFrom a b) : a.foldl (fdStep b) fdInit = fdInit := by
  refine fold_none b a _ fun x hx => hof_none gb _ ?_
  obtain ⟨i, hi, rfl⟩ := List.mem_iff_getElem.1 hx
  have e := ga.epoch i hi
  have e1 := ga.lastE
  have e2 := gb.lastE
  have pb := gb.pos
  rw [firstH_at ga.pos] at e1
  unfold comTo comFrom at h
  rw [firstH_at ga.pos] at h
  split at h <;> split at h <;> omega
theorem fold_common {a b : List Hd} (k : ComOk a b) : a.foldl (fdStep b) fdInit = ⟨true, forkAt (comA a b) (comB a b), lastd (comA a b) (comB a b), lastH (comA a b), lastH (comB a b)⟩ := by
  obtain ⟨ka, kb⟩ := k.parts
  obtain ⟨hn0, _, h1, h2⟩ := k.len
  obtain ⟨a1, a2, a3, a4⟩ := ka.spot
  obtain ⟨b1, b2, b3, b4⟩ := kb.spot
  obtain ⟨gS, gT⟩ := k.good
  have ea := k.g.lastE
  have eb := k.h.lastE
  have cl : comLen a b = partLen (comFrom a b) (comTo a b) := rfl
  have e0 : a = a.take (partAt a (comFrom a b)) ++ (comA a b ++ (a.drop (partAt a (comFrom a b))).drop (comLen a b)) := by
    rw [comA, cut, List.take_append_drop, List.take_append_drop]
  have f1 : ∀ x ∈ a.take (partAt a (comFrom a b)), hof b x.1 = none := fun x hx => by
    obtain ⟨i, hi, rfl⟩ := List.mem_iff_getElem.1 hx
    rw [List.length_take] at hi
    rw [List.getElem_take]
    have e := k.g.epoch i (by omega)
    refine hof_none k.h _ (.inl ?_)
    have : comFrom a b = (firstH a).1 ∨ comFrom a b = (firstH b).1 := by unfold comFrom; split <;> simp
    rw [firstH_at k.g.pos] at *
    omega
  have f3 : ∀ x ∈ (a.drop (partAt a (comFrom a b))).drop (comLen a b), hof b x.1 = none := fun x hx => by
    obtain ⟨i, hi, rfl⟩ := List.mem_iff_getElem.1 hx
    rw [List.length_drop, List.length_drop] at hi
    rw [List.getElem_drop, List.getElem_drop]
    have e := k.g.epoch (partAt a (comFrom a b) + (comLen a b + i)) (by omega)
    refine hof_none k.h _ (.inr ?_)
    have : comTo a b = (lastH a).1 ∨ comTo a b = (lastH b).1 := by unfold comTo; split <;> simp
    rw [firstH_at k.g.pos] at *
    omega
  have hS : ∀ i (h : i < (comA a b).length), (comA a b)[i] = a[partAt a (comFrom a b) + i]'(by rw [h1] at h; omega) := fun i h => by simp only [comA, cut, List.getElem_take, List.getElem_drop]
  have hT : ∀ i (h : i < (comB a b).length), (comB a b)[i] = b[partAt b (comFrom a b) + i]'(by rw [h2] at h; omega) := fun i h => by simp only [comB, cut, List.getElem_take, List.getElem_drop]
  have f2 : ∀ i (i1 : i < (comA a b).length) (i2 : i < (comB a b).length), hof b (comA a b)[i].1 = some (comB a b)[i] := fun i i1 i2 => by
    rw [hS i i1, hT i i2, k.g.epoch _ (by rw [h1] at i1; omega)]
    have := hof_at k.h (partAt b (comFrom a b) + i) (by rw [h2] at i2; omega)
    rw [← this]
    congr 1
    rw [firstH_at k.g.pos] at a1
    push_cast
    omega
  conv => lhs; rw [e0]
  rw [List.foldl_append, List.foldl_append, fold_none b _ _ f1, fold_pairs b _ _ (h1.trans h2.symm) (fun h hh => (gS.good h hh).e0) f2 (by omega), fold_none b _ _ f3]
/-- What the last epoch of a difference is. -/
theorem lastd_spec : ∀ (S T : List Hd), S.length = T.length → (∀ h ∈ S, 0 ≤ h.1) → (S = T ∧ lastd S T = -1) ∨ ∃ (j : Nat) (h1 : j < S.length) (h2 : j < T.length), S[j] ≠ T[j] ∧ (∀ (i : Nat) (i1 : i < S.length) (i2 : i < T.length), j < i → S[i] = T[i]) ∧ lastd S T = S[j].1 := by
  intro S
  refine snoc_ind (P := fun S => ∀ T : List Hd, S.length = T.length → (∀ h ∈ S, 0 ≤ h.1) → (S = T ∧ lastd S T = -1) ∨ ∃ (j : Nat) (h1 : j < S.length) (h2 : j < T.length), S[j] ≠ T[j] ∧ (∀ (i : Nat) (i1 : i < S.length) (i2 : i < T.length), j < i → S[i] = T[i]) ∧ lastd S T = S[j].1) ?_ (fun s x ih => ?_) S
  · intro T h _
    rw [List.length_nil] at h
    rw [List.eq_nil_of_length_eq_zero h.symm]
    exact .inl ⟨rfl, rfl⟩
  · intro T hl hg
    rcases snoc_cases T with rfl | ⟨t, y, rfl⟩
    · simp at hl
    · have hl' : s.length = t.length := by simpa using hl
      rw [lastd_snoc s t hl']
      by_cases e : x = y
      · subst e
        rw [if_pos rfl]
        rcases ih t hl' (fun h hh => hg h (List.mem_append_left _ hh)) with ⟨rfl, k⟩ | ⟨j, h1, h2, h3, h4, h5⟩
        · exact .inl ⟨rfl, k⟩
        · refine .inr ⟨j, by simp; omega, by simp; omega, ?_, fun i i1 i2 hij => ?_, ?_⟩
          · rw [List.getElem_append_left h1, List.getElem_append_left h2]; exact h3
          · by_cases hi : i < s.length
            · rw [List.getElem_append_left hi, List.getElem_append_left (by omega)]
              exact h4 i hi (by omega) hij
            · simp at i1
              have : i = s.length := by omega
              subst this
              simp [hl']
          · rw [h5, List.getElem_append_left h1]
      · rw [if_neg e]
        refine .inr ⟨s.length, by simp, by simp; omega, ?_, fun i i1 i2 hij => ?_, ?_⟩
        · simp [hl', e]
        · simp at i1; omega
        · simp
end Go.Proofs.Ythkhafgcpmoalaa
