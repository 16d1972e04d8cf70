/- Logs, plain: half, the hash of a log, the sides of a way from the top down, what stands beside it, and what a proof makes. -/
import Derived.Test.YtlobpjpkldmnaaaSaid
namespace Go.Proofs.Ytlobpjpkldmnaaa

/-- The greatest power of two below n (n from 2 to 64). -/
def hlf (n : Nat) : Nat := if n ≤ 2 then 1 else if n ≤ 4 then 2 else if n ≤ 8 then 4 else if n ≤ 16 then 8 else if n ≤ 32 then 16 else 32
theorem hlf_six (n : Nat) : (n ≤ 2 ∧ hlf n = 1) ∨ (2 < n ∧ n ≤ 4 ∧ hlf n = 2) ∨ (4 < n ∧ n ≤ 8 ∧ hlf n = 4) ∨ (8 < n ∧ n ≤ 16 ∧ hlf n = 8) ∨ (16 < n ∧ n ≤ 32 ∧ hlf n = 16) ∨ (32 < n ∧ hlf n = 32) := by
  unfold hlf
  (repeat' split) <;> omega
theorem hlf_pos (n : Nat) : 1 ≤ hlf n := by have := hlf_six n; omega
theorem hlf_lt {n : Nat} (h : 2 ≤ n) : hlf n < n := by have := hlf_six n; omega
/-- What is longer than the first part has the same first part. -/
theorem hlf_same {n m : Nat} (h1 : hlf n < m) (h2 : m ≤ n) : hlf m = hlf n := by
  have := hlf_six n
  have := hlf_six m
  omega

/-- The hash of a log, of f strings at most. -/
def rhashF : Nat → List Bytes → Nat
  | 0, l => Hash.of (4 :: l.headD [])
  | f + 1, l => if l.length ≤ 1 then Hash.of (4 :: l.headD []) else Hash.of (said 5 (rhashF f (l.take (hlf l.length))) (rhashF f (l.drop (hlf l.length))))
theorem rhashF_small (f : Nat) (l : List Bytes) (h : l.length ≤ 1) : rhashF f l = Hash.of (4 :: l.headD []) := by
  cases f with
  | zero => rw [rhashF]
  | succ f => rw [rhashF, if_pos h]
theorem rhashF_more (f : Nat) : ∀ (g : Nat) (l : List Bytes), l.length ≤ f → l.length ≤ g → rhashF f l = rhashF g l := by
  induction f with
  | zero => intro g l h1 h2; rw [rhashF_small 0 l (by omega), rhashF_small g l (by omega)]
  | succ f ih =>
    intro g l h1 h2
    by_cases h : l.length ≤ 1
    · rw [rhashF_small _ l h, rhashF_small g l h]
    · rcases g with _ | g
      · omega
      · have hk := hlf_lt (n := l.length) (by omega)
        have hp := hlf_pos l.length
        rw [rhashF, rhashF, if_neg h, if_neg h, ih g (l.take (hlf l.length)) (by simp; omega) (by simp; omega), ih g (l.drop (hlf l.length)) (by simp; omega) (by simp; omega)]
/-- The hash of a log. -/
def rhash (l : List Bytes) : Nat := rhashF l.length l
theorem rhash_one (s : Bytes) : rhash [s] = Hash.of (4 :: s) := by rw [rhash, rhashF_small _ _ (by simp)]; rfl
theorem rhash_node (l : List Bytes) (h : 2 ≤ l.length) (k : Nat) (hk : hlf l.length = k) : rhash l = Hash.of (said 5 (rhash (l.take k)) (rhash (l.drop k))) := by
  have h1 := hlf_lt h
  have h2 := hlf_pos l.length
  rw [hk] at h1 h2
  rw [rhash, rhashF_more l.length (l.length + 1) l (Nat.le_refl _) (by omega), rhashF, if_neg (by omega), hk, rhash, rhash,
    rhashF_more l.length (l.take k).length (l.take k) (by simp; omega) (Nat.le_refl _), rhashF_more l.length (l.drop k).length (l.drop k) (by simp) (Nat.le_refl _)]
theorem rhash_lt (l : List Bytes) : rhash l < 2305843009213693951 := by
  rw [rhash]
  cases l.length with
  | zero => rw [rhashF]; exact Hash.of_lt _
  | succ f => rw [rhashF]; split <;> exact Hash.of_lt _

/-- Where the way goes from a stretch of n on: the length behind a turn. -/
def nxt (n : Nat) (b : Bool) : Nat := if b then hlf n else n - hlf n
theorem nxt_lt {n : Nat} (h : 2 ≤ n) (b : Bool) : nxt n b < n := by
  have := hlf_lt h
  have := hlf_pos n
  unfold nxt
  split <;> omega
theorem nxt_pos {n : Nat} (h : 2 ≤ n) (b : Bool) : 1 ≤ nxt n b := by
  have := hlf_lt h
  have := hlf_pos n
  unfold nxt
  split <;> omega
/-- The sides of the way to the string i, f steps at most, from the top down: is it in the first part? -/
def sidesF : Nat → Nat → Nat → List Bool
  | 0, _, _ => []
  | f + 1, n, i => if n ≤ 1 then [] else if i < hlf n then true :: sidesF f (hlf n) i else false :: sidesF f (n - hlf n) (i - hlf n)
theorem sidesF_more (f : Nat) : ∀ g n i : Nat, n ≤ f + 1 → n ≤ g + 1 → sidesF f n i = sidesF g n i := by
  induction f with
  | zero =>
    intro g n i h1 h2
    cases g with
    | zero => rfl
    | succ g => rw [sidesF, sidesF, if_pos (by omega)]
  | succ f ih =>
    intro g n i h1 h2
    by_cases h : n ≤ 1
    · rw [sidesF, if_pos h]
      cases g with
      | zero => rw [sidesF]
      | succ g => rw [sidesF, if_pos h]
    · rcases g with _ | g
      · omega
      · have hk := hlf_lt (n := n) (by omega)
        have hp := hlf_pos n
        rw [sidesF, sidesF, if_neg h, if_neg h, ih g (hlf n) i (by omega) (by omega), ih g (n - hlf n) (i - hlf n) (by omega) (by omega)]
def sides (n i : Nat) : List Bool := sidesF n n i
theorem sides_none {n : Nat} (i : Nat) (h : n ≤ 1) : sides n i = [] := by
  rw [sides, sidesF_more n 0 n i (by omega) (by omega), sidesF]
theorem sides_left {n i : Nat} (h : 2 ≤ n) (hi : i < hlf n) : sides n i = true :: sides (hlf n) i := by
  have hk := hlf_lt h
  rw [sides, sidesF_more n (n + 1) n i (by omega) (by omega), sidesF, if_neg (by omega), if_pos hi, sides, sidesF_more n (hlf n) (hlf n) i (by omega) (by omega)]
theorem sides_right {n i : Nat} (h : 2 ≤ n) (hi : hlf n ≤ i) : sides n i = false :: sides (n - hlf n) (i - hlf n) := by
  rw [sides, sidesF_more n (n + 1) n i (by omega) (by omega), sidesF, if_neg (by omega), if_neg (by omega), sides, sidesF_more n (n - hlf n) (n - hlf n) (i - hlf n) (by omega) (by omega)]
/-- The turns of the way to where the first m strings end, f steps at most. -/
def turnsF : Nat → Nat → Nat → List Bool
  | 0, _, _ => []
  | f + 1, n, m => if n ≤ m ∨ n ≤ 1 then [] else if m ≤ hlf n then true :: turnsF f (hlf n) m else false :: turnsF f (n - hlf n) (m - hlf n)
theorem turnsF_more (f : Nat) : ∀ g n m : Nat, n ≤ f + 1 → n ≤ g + 1 → turnsF f n m = turnsF g n m := by
  induction f with
  | zero =>
    intro g n m h1 h2
    cases g with
    | zero => rfl
    | succ g => rw [turnsF, turnsF, if_pos (by omega)]
  | succ f ih =>
    intro g n m h1 h2
    by_cases h : n ≤ m ∨ n ≤ 1
    · rw [turnsF, if_pos h]
      cases g with
      | zero => rw [turnsF]
      | succ g => rw [turnsF, if_pos h]
    · rcases g with _ | g
      · omega
      · have hk := hlf_lt (n := n) (by omega)
        have hp := hlf_pos n
        rw [turnsF, turnsF, if_neg h, if_neg h, ih g (hlf n) m (by omega) (by omega), ih g (n - hlf n) (m - hlf n) (by omega) (by omega)]
def turns (n m : Nat) : List Bool := turnsF n n m
theorem turns_none {n m : Nat} (h : n ≤ m) : turns n m = [] := by
  rw [turns, turnsF_more n (n + 1) n m (by omega) (by omega), turnsF, if_pos (.inl h)]
theorem turns_left {n m : Nat} (h1 : 1 ≤ m) (h : m < n) (hi : m ≤ hlf n) : turns n m = true :: turns (hlf n) m := by
  have hk := hlf_lt (n := n) (by omega)
  rw [turns, turnsF_more n (n + 1) n m (by omega) (by omega), turnsF, if_neg (by omega), if_pos hi, turns, turnsF_more n (hlf n) (hlf n) m (by omega) (by omega)]
theorem turns_right {n m : Nat} (h1 : 1 ≤ m) (h : m < n) (hi : hlf n < m) : turns n m = false :: turns (n - hlf n) (m - hlf n) := by
  rw [turns, turnsF_more n (n + 1) n m (by omega) (by omega), turnsF, if_neg (by omega), if_neg (by omega), turns, turnsF_more n (n - hlf n) (n - hlf n) (m - hlf n) (by omega) (by omega)]

/-- A stretch behind a turn, and the other one. -/
def half1 (l : List Bytes) (b : Bool) : List Bytes := if b then l.take (hlf l.length) else l.drop (hlf l.length)
theorem half1_length (l : List Bytes) (h : 2 ≤ l.length) (b : Bool) : (half1 l b).length = nxt l.length b := by
  have := hlf_lt h
  unfold half1 nxt
  cases b <;> simp <;> omega
/-- The hashes beside a way, the deepest one first. -/
def besideOf (l : List Bytes) : List Bool → List Nat
  | [] => []
  | b :: s => besideOf (half1 l b) s ++ [rhash (half1 l !b)]
/-- The stretch that a way ends at. -/
def restOf (l : List Bytes) : List Bool → List Bytes
  | [] => l
  | b :: s => restOf (half1 l b) s
theorem besideOf_length (l : List Bytes) (s : List Bool) : (besideOf l s).length = s.length := by
  induction s generalizing l with
  | nil => rfl
  | cons b s ih => simp [besideOf, ih]
theorem besideOf_lt (l : List Bytes) (s : List Bool) : ∀ z ∈ besideOf l s, z < 2305843009213693951 := by
  induction s generalizing l with
  | nil => intro z hz; cases hz
  | cons b s ih =>
    intro z hz
    rw [besideOf, List.mem_append, List.mem_singleton] at hz
    rcases hz with h | rfl
    · exact ih _ z h
    · exact rhash_lt _
/-- Is each stretch on the way long enough for a turn? -/
def steps (n : Nat) : List Bool → Prop
  | [] => True
  | b :: s => 2 ≤ n ∧ steps (nxt n b) s
theorem sides_steps (n i : Nat) : steps n (sides n i) := by
  induction n using Nat.strongRecOn generalizing i with
  | ind n ih =>
    by_cases h : n ≤ 1
    · rw [sides_none i h]; trivial
    · by_cases hi : i < hlf n
      · rw [sides_left (by omega) hi]
        exact ⟨by omega, ih _ (hlf_lt (by omega)) i⟩
      · rw [sides_right (by omega) (by omega)]
        exact ⟨by omega, ih (n - hlf n) (by have := hlf_pos n; omega) _⟩
theorem turns_steps (n m : Nat) (h1 : 1 ≤ m) : steps n (turns n m) := by
  induction n using Nat.strongRecOn generalizing m with
  | ind n ih =>
    by_cases h : n ≤ m
    · rw [turns_none h]; trivial
    · by_cases hi : m ≤ hlf n
      · rw [turns_left h1 (by omega) hi]
        exact ⟨by omega, ih _ (hlf_lt (by omega)) m h1⟩
      · rw [turns_right h1 (by omega) (by omega)]
        exact ⟨by omega, ih (n - hlf n) (by have := hlf_pos n; omega) _ (by omega)⟩
theorem steps_length {n : Nat} {s : List Bool} (h : steps n s) : s.length ≤ n := by
  induction s generalizing n with
  | nil => simp
  | cons b s ih =>
    have := ih h.2
    have := nxt_lt h.1 b
    rw [List.length_cons]
    omega
theorem sides_length (n i : Nat) : (sides n i).length ≤ n := steps_length (sides_steps n i)
theorem turns_length (n m : Nat) (h1 : 1 ≤ m) : (turns n m).length ≤ n := steps_length (turns_steps n m h1)

/-- One step of a proof: the other hash stands behind, or ahead. -/
def two (b : Bool) (h x : Nat) : Nat := Hash.of (if b then said 5 h x else said 5 x h)
theorem two_lt (b : Bool) (h x : Nat) : two b h x < 2305843009213693951 := Hash.of_lt _
/-- What the hashes p make of h along the sides s. -/
def mk (h : Nat) (s : List Bool) (p : List Nat) : Nat := (s.reverse.zip p).foldl (fun h z => two z.1 h z.2) h
/-- The same for the old strings: what stands behind does not count. -/
def mo (h : Nat) (s : List Bool) (p : List Nat) : Nat := (s.reverse.zip p).foldl (fun h z => if z.1 then h else two false h z.2) h
theorem mk_nil (h : Nat) (p : List Nat) : mk h [] p = h := rfl
theorem mo_nil (h : Nat) (p : List Nat) : mo h [] p = h := rfl
theorem mk_snoc (h : Nat) (b : Bool) (s : List Bool) (p : List Nat) (x : Nat) (e : s.length = p.length) : mk h (b :: s) (p ++ [x]) = two b (mk h s p) x := by
  unfold mk
  rw [List.reverse_cons, List.zip_append (by simp [e]), List.foldl_append]
  rfl
theorem mo_snoc (h : Nat) (b : Bool) (s : List Bool) (p : List Nat) (x : Nat) (e : s.length = p.length) : mo h (b :: s) (p ++ [x]) = if b then mo h s p else two false (mo h s p) x := by
  unfold mo
  rw [List.reverse_cons, List.zip_append (by simp [e]), List.foldl_append]
  rfl
theorem mk_lt (h : Nat) (s : List Bool) (p : List Nat) (hh : h < 18446744073709551616) : mk h s p < 18446744073709551616 := by
  unfold mk
  generalize s.reverse.zip p = l
  induction l generalizing h with
  | nil => exact hh
  | cons z l ih => exact ih _ (Nat.lt_trans (two_lt _ _ _) (by decide))
theorem mo_lt (h : Nat) (s : List Bool) (p : List Nat) (hh : h < 18446744073709551616) : mo h s p < 18446744073709551616 := by
  unfold mo
  generalize s.reverse.zip p = l
  induction l generalizing h with
  | nil => exact hh
  | cons z l ih =>
    refine ih _ ?_
    show (if z.1 then h else _) < _
    split
    · exact hh
    · exact Nat.lt_trans (two_lt _ _ _) (by decide)
theorem mo_all (h : Nat) (s : List Bool) (p : List Nat) (hs : s.all id = true) (e : s.length = p.length) : mo h s p = h := by
  induction s generalizing p with
  | nil => rfl
  | cons b s ih =>
    rcases List.eq_nil_or_concat p with rfl | ⟨q, x, rfl⟩
    · simp at e
    · rw [List.concat_eq_append] at e ⊢
      simp only [List.length_cons, List.length_append, List.length_nil] at e
      simp only [List.all_cons, id_eq, Bool.and_eq_true] at hs
      obtain ⟨rfl, hs⟩ := hs
      rw [mo_snoc h true s q x (by omega), if_pos rfl]
      exact ih q hs (by omega)

/-- The way of a log and what stands beside it make the log's hash. -/
theorem mk_root (l : List Bytes) (s : List Bool) (h : steps l.length s) : mk (rhash (restOf l s)) s (besideOf l s) = rhash l := by
  induction s generalizing l with
  | nil => rfl
  | cons b s ih =>
    obtain ⟨h2, hs⟩ := h
    rw [← half1_length l h2 b] at hs
    rw [besideOf, mk_snoc _ _ _ _ _ (besideOf_length _ _).symm, restOf, ih _ hs, rhash_node l h2 _ rfl]
    cases b <;> rfl
/-- The first m strings: what the way makes of their last stretch. -/
theorem mo_root (l : List Bytes) (m : Nat) (h1 : 1 ≤ m) (hm : m ≤ l.length) : mo (rhash (restOf l (turns l.length m))) (turns l.length m) (besideOf l (turns l.length m)) = rhash (l.take m) := by
  generalize hn : l.length = n at hm
  induction n using Nat.strongRecOn generalizing l m with
  | ind n ih =>
    by_cases h : n ≤ m
    · rw [turns_none h, List.take_of_length_le (by omega)]; rfl
    · have h2 : 2 ≤ n := by omega
      have hk := hlf_lt h2
      have hp := hlf_pos n
      by_cases hi : m ≤ hlf n
      · have e1 : half1 l true = l.take (hlf n) := by unfold half1; rw [if_pos rfl, hn]
        rw [turns_left h1 (by omega) hi, besideOf, restOf, mo_snoc _ _ _ _ _ (besideOf_length _ _).symm, if_pos rfl, e1,
          ih (hlf n) hk (l.take (hlf n)) m h1 (by simp; omega) (by omega), List.take_take, Nat.min_eq_left hi]
      · have e1 : half1 l false = l.drop (hlf n) := by unfold half1; rw [if_neg (by simp), hn]
        have e2 : half1 l true = l.take (hlf n) := by unfold half1; rw [if_pos rfl, hn]
        have hsm : hlf m = hlf n := hlf_same (by omega) (by omega)
        rw [turns_right h1 (by omega) (by omega), besideOf, restOf, mo_snoc _ _ _ _ _ (besideOf_length _ _).symm, if_neg (by simp), e1,
          ih (n - hlf n) (by omega) (l.drop (hlf n)) (m - hlf n) (by omega) (by simp; omega) (by omega),
          rhash_node (l.take m) (by simp; omega) (hlf n) (by rw [List.length_take, hn, Nat.min_eq_left (by omega), hsm])]
        rw [List.take_take, Nat.min_eq_left (by omega), List.drop_take]
        show two false _ (rhash (half1 l true)) = _
        rw [e2]
        rfl
theorem rest_at (n : Nat) : ∀ (l : List Bytes) (i : Nat) (hi : i < l.length), l.length = n → restOf l (sides n i) = [l[i]] := by
  induction n using Nat.strongRecOn with
  | ind n ih =>
    intro l i hi hn
    by_cases h : n ≤ 1
    · rw [sides_none i h]
      obtain rfl : i = 0 := by omega
      rcases l with _ | ⟨a, l⟩
      · simp at hi
      · rw [List.length_cons] at hn
        obtain rfl : l = [] := List.eq_nil_of_length_eq_zero (by omega)
        rfl
    · have hk := hlf_lt (n := n) (by omega)
      have hp := hlf_pos n
      by_cases hlt : i < hlf n
      · have e1 : half1 l true = l.take (hlf n) := by unfold half1; rw [if_pos rfl, hn]
        rw [sides_left (by omega) hlt, restOf, e1, ih _ hk (l.take (hlf n)) i (by simp; omega) (by simp; omega), List.getElem_take]
      · have e1 : half1 l false = l.drop (hlf n) := by unfold half1; rw [if_neg (by simp), hn]
        rw [sides_right (by omega) (by omega), restOf, e1, ih (n - hlf n) (by omega) (l.drop (hlf n)) (i - hlf n) (by simp; omega) (by simp; omega)]
        congr 1
        rw [List.getElem_drop]
        congr 1
        omega

theorem rest_side (l : List Bytes) (i : Nat) (hi : i < l.length) : restOf l (sides l.length i) = [l[i]] := rest_at _ l i hi rfl

/-- The inclusion proof. -/
def inn (l : List Bytes) (i : Nat) : List Nat := besideOf l (sides l.length i)
theorem inn_none (l : List Bytes) (i : Nat) (h : l.length ≤ 1) : inn l i = [] := by unfold inn; rw [sides_none i h]; rfl
theorem inn_left (l : List Bytes) (i k : Nat) (h : 2 ≤ l.length) (hk : hlf l.length = k) (hi : i < k) : inn l i = inn (l.take k) i ++ [rhash (l.drop k)] := by
  subst hk
  have := hlf_lt h
  unfold inn
  rw [sides_left h hi, besideOf, List.length_take, Nat.min_eq_left (by omega)]
  rfl
theorem inn_right (l : List Bytes) (i k : Nat) (h : 2 ≤ l.length) (hk : hlf l.length = k) (hi : k ≤ i) : inn l i = inn (l.drop k) (i - k) ++ [rhash (l.take k)] := by
  subst hk
  unfold inn
  rw [sides_right h hi, besideOf, List.length_drop]
  rfl
theorem inn_length (l : List Bytes) (i : Nat) : (inn l i).length = (sides l.length i).length := besideOf_length _ _
theorem inn_le (l : List Bytes) (i : Nat) : (inn l i).length ≤ l.length := by rw [inn_length]; exact sides_length _ _

/-- The consistency proof of a stretch; wh: is it the whole log? -/
def grw (l : List Bytes) (m : Nat) (wh : Bool) : List Nat :=
  (if (wh && (turns l.length m).all id) = true then [] else [rhash (restOf l (turns l.length m))]) ++ besideOf l (turns l.length m)
theorem grw_all (l : List Bytes) (m : Nat) (h : l.length ≤ m) (wh : Bool) : grw l m wh = if wh = true then [] else [rhash l] := by
  unfold grw
  rw [turns_none h]
  cases wh <;> rfl
theorem grw_left (l : List Bytes) (m k : Nat) (wh : Bool) (h1 : 1 ≤ m) (h : m < l.length) (hk : hlf l.length = k) (hi : m ≤ k) : grw l m wh = grw (l.take k) m wh ++ [rhash (l.drop k)] := by
  subst hk
  have := hlf_lt (n := l.length) (by omega)
  unfold grw
  rw [turns_left h1 h hi, besideOf, restOf, List.length_take, Nat.min_eq_left (by omega), List.append_assoc]
  rfl
theorem grw_right (l : List Bytes) (m k : Nat) (wh : Bool) (h1 : 1 ≤ m) (h : m < l.length) (hk : hlf l.length = k) (hi : k < m) : grw l m wh = grw (l.drop k) (m - k) false ++ [rhash (l.take k)] := by
  subst hk
  unfold grw
  rw [turns_right h1 h hi, besideOf, restOf, List.length_drop, List.append_assoc]
  cases wh <;> rfl
theorem grw_le (l : List Bytes) (m : Nat) (wh : Bool) (h1 : 1 ≤ m) : (grw l m wh).length ≤ l.length + 1 := by
  have := turns_length l.length m h1
  unfold grw
  rw [List.length_append, besideOf_length]
  split <;> simp <;> omega

/-- Where a consistency proof begins, and the hashes beside its way. -/
def core (a : Nat) (wh : Bool) (p : List Nat) : Nat := if wh then a else p.headD 0
def body (wh : Bool) (p : List Nat) : List Nat := if wh then p else p.tail
/-- Are there as many hashes as a consistency proof takes? -/
def gfits (n m : Nat) (wh : Bool) (p : List Nat) : Bool := p.length == (turns n m).length + (if wh && (turns n m).all id then 0 else 1)
def gold (a n m : Nat) (wh : Bool) (p : List Nat) : Nat := mo (core a (wh && (turns n m).all id) p) (turns n m) (body (wh && (turns n m).all id) p)
def gnew (a n m : Nat) (wh : Bool) (p : List Nat) : Nat := mk (core a (wh && (turns n m).all id) p) (turns n m) (body (wh && (turns n m).all id) p)
end Go.Proofs.Ytlobpjpkldmnaaa
