/- The reference's Looked returns the names found by hashes, and how many prefixes were examined. It writes nothing that was there. -/
import Derived.Test.YtmmmolbejfdamaaLook
import Derived.Test.YtmmmolbejfdamaaRefDiffer
import Derived.Test.YtmmmolbejfdamaaQueue
import Derived.Test.YtmmmolbejfdamaaLevels
namespace Go.Proofs.Ytmmmolbejfdamaa
open Go.RowKit Go.Maps

set_option maxHeartbeats 400000 in
theorem lookAt (q : Bytes) (w : World) (gN bM nM : Nat) (f : Bytes → Option Value) (hq : q.length ≤ maxLen) (hM : MapOf w bM nM f)
    (cN : w.cell? ⟨gN, 0, none⟩ = some (.int .u64 (nil0 : Int))) (v : Nat) (hv : f q = some (.int .u64 (v : Int)) ∨ f q = none ∧ v = nil0) :
    Calls Try.prog 41 #[.map (some bM), .string (S q), .pointer (some ⟨gN, 0, none⟩)] w fun e w' => e = .returned (.int .u64 (v : Int)) ∧ w' = w := by
  generalize nil0 = z at *
  have hz := zeroU
  rcases hv with hf | ⟨hf, rfl⟩
  · go_enter Try.func41, Try.ntmps41
    go_wp2_with (first
      | (at_lookup; refine map_look_some _ rfl _ _ 70 rfl 46 Try.underlying70 _ (hz _) bM nM f rfl hM q hq rfl _ hf ?_))
    go_ret
    exact ⟨rfl, rfl⟩
  · go_enter Try.func41, Try.ntmps41
    go_wp2_with (first
      | (at_lookup; refine map_look_none _ rfl _ _ 70 rfl 46 Try.underlying70 _ (hz _) bM nM f rfl hM q hq rfl hf ?_))
    go_ret
    exact ⟨rfl, rfl⟩

section
variable {ops : Array Oper} {rest : List Oper} {o : Oper} {a : Act} {Q : Exit → Act → World → Prop}
/-- One string behind strings, and where they lie. -/
theorem app_strs_at (w : World) (hgd : o.guard = none) (s x : Operand) (ho : o.op = .call { callee := .builtin .append, args := #[s, x], argTypes := #[23, 23] })
    (base : Nat) (v : Value) (l : List Bytes) (hs : a.eval s = v) (hown : w.ownsRow base 9 1 v l.length (scells l))
    (ad : Addr) (c : Nat) (r : List Bytes) (m : Nat) (hm : m = r.length) (hx : a.eval x = .slice (some ad) m c) (hnews : ∀ j u, (scells r)[j]? = some u → w.cell? (ad.add j) = some u)
    (hsmall : (l.length + r.length) * 16 ≤ 140737488355328) (hbase : base ≤ w.heap.size)
    (h : ∀ v' w', w'.ownsRow base 9 1 v' (l ++ r).length (scells (l ++ r)) → w.grownBy w' v.ownBlock → (v'.ownBlock = v.ownBlock ∨ v'.ownBlock = some w.heap.size) → wpList Try.prog ops Q rest (a.put o.dst v') w') : wpList Try.prog ops Q (o :: rest) a w := by
  obtain ⟨i0, hi, hz0, hz1, hz2⟩ := str_info
  subst hm
  refine wpList_append_own_at w hgd s x 23 ho base 9 i0 (.string ⟨#[]⟩) 1 16 Try.underlying23 hi hz0 hz1 hz2 rfl (by decide) v l.length (scells l) hs hown ad r.length c (scells r) hx (by rw [scells_length]; omega) hnews
    (fun u hu => by obtain ⟨_, _, rfl⟩ := List.mem_map.1 hu; rfl) (by unfold maxLen; omega) hsmall hbase ?_
  intro v' w' h1 h2 h3 h4
  first
  | exact h v' w' (by rw [scells_append, List.length_append]; exact h1) h2 h3
  | exact h v' w' (by rw [scells_append, List.length_append]; exact h1) h2 h4
end
theorem two_new (w : World) (p : Bytes) (t : TypeId) : ∀ j u, (scells [p ++ [48], p ++ [49]])[j]? = some u → (w.alloc (.cells #[.string (S p ++ ⟨#[48]⟩), .string (S p ++ ⟨#[49]⟩)] t)).cell? ((⟨w.heap.size, 0, none⟩ : Addr).add j) = some u := by
  intro j u hu
  rw [Go.WideShapes.add_plain, Nat.zero_add, World.cell?_alloc_new]
  have e1 : S p ++ ⟨#[48]⟩ = S (p ++ [48]) := S_append p [48]
  have e2 : S p ++ ⟨#[49]⟩ = S (p ++ [49]) := S_append p [49]
  rw [e1, e2]
  simpa [scells] using hu

/-- What Looked leaves. -/
def LookGives (T : List Bytes) (n : Nat) (w : World) (e : Ending) (w' : World) : Prop := ∃ D d, e = .returned (.tuple #[.slice D T.length d, .int .i64 (n : Int)]) ∧ Row w' D (scells T) ∧ Below w.heap.size w w'

/-- What the search holds on to: what was found, what is still to be examined, the two maps and the hash of nothing. -/
structure Srch (w wr : World) (base gN b1 n1 b2 n2 : Nat) (f1 f2 : Bytes → Option Value) (vo vt : Value) (M Q : List Bytes) (g : Nat) : Prop where
  out : wr.ownsRow base 9 1 vo M.length (scells M)
  todo : QRow wr base g vt Q
  apart : vo.ownBlock ≠ some g
  m1 : MapOf wr b1 n1 f1
  m2 : MapOf wr b2 n2 f2
  l1 : b1 < base
  l2 : b2 < base
  lN : gN < base
  cN : wr.cell? ⟨gN, 0, none⟩ = some (.int .u64 (nil0 : Int))
  bl : Below w.heap.size w wr
  sz : base ≤ wr.heap.size
  lo : w.heap.size ≤ base
theorem Srch.below {w wr w' : World} {base gN b1 n1 b2 n2 g : Nat} {f1 f2 : Bytes → Option Value} {vo vt : Value} {M Q : List Bytes} (h : Srch w wr base gN b1 n1 b2 n2 f1 f2 vo vt M Q g) (hb : Below wr.heap.size wr w') : Srch w w' base gN b1 n1 b2 n2 f1 f2 vo vt M Q g :=
  ⟨own_below h.out hb, h.todo.below hb, h.apart, h.m1.below hb, h.m2.below hb, h.l1, h.l2, h.lN, Go.Proofs.Ytmmmolbejfdamaa.kept h.cN hb, below_chain h.bl hb, Nat.le_trans h.sz hb.size, h.lo⟩

theorem Srch.alloc {w wr : World} {base gN b1 n1 b2 n2 g : Nat} {f1 f2 : Bytes → Option Value} {vo vt : Value} {M Q : List Bytes} (h : Srch w wr base gN b1 n1 b2 n2 f1 f2 vo vt M Q g) (o : Obj) : Srch w (wr.alloc o) base gN b1 n1 b2 n2 f1 f2 vo vt M Q g :=
  h.below ((Below.refl _ _).alloc (Nat.le_refl _) o)
theorem Srch.push {w wr w' : World} {base gN b1 n1 b2 n2 g g' : Nat} {f1 f2 : Bytes → Option Value} {vo vt v' : Value} {M Q Q' : List Bytes} (h : Srch w wr base gN b1 n1 b2 n2 f1 f2 vo vt M Q g) (hq : QRow w' base g' v' Q') (hg : wr.grownBy w' (some g)) (hl : g' = g ∨ g' = wr.heap.size) : Srch w w' base gN b1 n1 b2 n2 f1 f2 vo v' M Q' g' := by
  obtain ⟨off, cap, _, q2, q3, _⟩ := h.todo
  have hlt : ∀ k, k < base → some k ≠ some g := fun k hk e => by injection e with e; omega
  refine ⟨h.out.kept hg (.inr h.apart), hq, ?_, h.m1.kept hg (hlt _ h.l1), h.m2.kept hg (hlt _ h.l2), h.l1, h.l2, h.lN, ?_, ?_, Nat.le_trans h.sz hg.size, h.lo⟩
  · rcases hl with rfl | rfl
    · exact h.apart
    · intro e
      have := (h.out.lt _ e).2
      omega
  · exact (hg.cell_far ⟨gN, 0, none⟩ (Nat.lt_of_lt_of_le h.lN h.sz) (hlt _ h.lN)).trans h.cN
  · have := h.lo
    exact h.bl.grown hg (Nat.le_trans this h.sz) (fun k hk => by injection hk with hk; omega)
theorem Srch.add {w wr w' : World} {base gN b1 n1 b2 n2 g : Nat} {f1 f2 : Bytes → Option Value} {vo vt v' : Value} {M M' Q : List Bytes} (h : Srch w wr base gN b1 n1 b2 n2 f1 f2 vo vt M Q g) (ho : w'.ownsRow base 9 1 v' M'.length (scells M')) (hg : wr.grownBy w' vo.ownBlock) (hl : v'.ownBlock = vo.ownBlock ∨ v'.ownBlock = some wr.heap.size) : Srch w w' base gN b1 n1 b2 n2 f1 f2 v' vt M' Q g := by
  obtain ⟨off, cap, _, q2, q3, _⟩ := h.todo
  have hlt : ∀ k, k < base → some k ≠ vo.ownBlock := fun k hk e => by have := (h.out.lt _ e.symm).1; omega
  refine ⟨ho, h.todo.kept hg (fun e => h.apart e.symm), ?_, h.m1.kept hg (hlt _ h.l1), h.m2.kept hg (hlt _ h.l2), h.l1, h.l2, h.lN, ?_, ?_, Nat.le_trans h.sz hg.size, h.lo⟩
  · rcases hl with e | e
    · rw [e]; exact h.apart
    · rw [e]
      intro e
      injection e with e
      omega
  · exact (hg.cell_far ⟨gN, 0, none⟩ (Nat.lt_of_lt_of_le h.lN h.sz) (hlt _ h.lN)).trans h.cN
  · have := h.lo
    exact h.bl.grown hg (Nat.le_trans this h.sz) (fun k hk => by have := (h.out.lt k hk).1; omega)
theorem found_sub (a b : List Ent) (k : Nat) (p n : Bytes) (h : n ∈ found a b k p) : n ∈ differ a b := by
  induction k generalizing p with
  | zero =>
    rw [found] at h
    split at h
    · simp at h
    · exact (List.mem_filter.1 h).1
  | succ k ih =>
    rw [found] at h
    split at h
    · simp at h
    · rcases List.mem_append.1 h with h | h
      · exact ih _ h
      · exact ih _ h
theorem differ_short (a b : List Ent) (sa : ∀ x ∈ a, x.1.length ≤ maxLen) (sb : ∀ x ∈ b, x.1.length ≤ maxLen) : ∀ n ∈ differ a b, n.length ≤ maxLen := fun n hn => by
  have := (Bin.srt_mem _ _).1 (List.mem_filter.1 hn).1
  obtain ⟨x, hx, rfl⟩ := List.mem_map.1 this
  rcases List.mem_append.1 hx with h | h
  · exact sa x h
  · exact sb x h

set_option maxRecDepth 100000 in
set_option maxHeartbeats 4000000 in
theorem refLooked (A B : Option Addr) (c d : Nat) (a b : List Ent) (w : World) (hma : a.length ≤ 1000) (hmb : b.length ≤ 1000) (ha : ∀ x ∈ a, x.1.length + x.2.length ≤ 596) (hb : ∀ x ∈ b, x.1.length + x.2.length ≤ 596) (hA : Row w A (encells a)) (hB : Row w B (encells b)) :
    Calls Try.prog 17 #[.slice A a.length c, .slice B b.length d] w (LookGives (Bin.srt (foundAt a b [])) (visitsAt a b []) w) := by
  have hLa := fun (w : World) hA => Lib.hid (refLevels A c a w hma ha hA)
  have hLb := fun (w : World) hB => Lib.hid (refLevels B d b w hmb hb hB)
  have hZ := fun w => Lib.hid (refMark_0 w)
  have sa : ∀ x ∈ a, x.1.length ≤ maxLen := fun x hx => by have := ha x hx; unfold maxLen; omega
  have sb : ∀ x ∈ b, x.1.length ≤ maxLen := fun x hx => by have := hb x hx; unfold maxLen; omega
  have hD := fun (w : World) hA hB => Lib.hid (refDifferO A B c d a b w hma hmb sa sb hA hB)
  have HS : Hid (∀ n ∈ differ a b, n.length ≤ maxLen) := differ_short a b sa sb
  clear ha hb sa sb
  go_enter Try.func17, Try.ntmps17
  go_wp2_with fail
  refine (hLa _ hA).out.mono ?_
  rintro e w1 ⟨b1, n1, f1, rfl, m1, lev1, hb1⟩
  go_wp2_with fail
  refine (hLb _ (hB.below hb1)).out.mono ?_
  rintro e w2 ⟨b2, n2, f2, rfl, m2, lev2, hb2⟩
  go_wp2_with fail
  refine (hZ _).out.mono ?_
  rintro e w3 ⟨rfl, hw3⟩
  have hb02 := below_chain hb1 hb2
  have m1' := m1.below hb2
  rw [hw3] at hb02 m1' m2 hb2
  clear hw3 hZ hLa hLb m1 hb1 hb2
  go_wp2
  have hs0 : Srch w ((w3.alloc (.cells #[.int .u64 (nil0 : Int)] 46)).alloc (.cells #[.string (S [])] 9)) (w3.heap.size + 1) w3.heap.size b1 n1 b2 n2 f1 f2 (.slice none 0 0) (.slice (some ⟨w3.heap.size + 1, 0, none⟩) 1 1) [] [[]] (w3.heap.size + 1) := by
    have e1 : (w3.alloc (.cells #[.int .u64 (nil0 : Int)] 46)).heap.size = w3.heap.size + 1 := by simp
    have hq := QRow.one (w3.alloc (.cells #[.int .u64 (nil0 : Int)] 46)) (w3.heap.size + 1) (by rw [e1]; exact Nat.le_refl _) []
    rw [e1] at hq
    refine ⟨World.ownsRow_nil _ _ _ _, hq, by simp [Value.ownBlock], (m1'.alloc _).alloc _, (m2.alloc _).alloc _, Nat.lt_succ_of_lt m1'.lt, Nat.lt_succ_of_lt m2.lt, Nat.lt_succ_self _, ?_, balloc (balloc hb02 _) _, by simp, Nat.le_succ_of_le hb02.size⟩
    rw [World.cell?_alloc_lt _ _ _ (by simp), World.cell?_alloc_new]
    rfl
  have hvp := visits_le a b 16 []
  have HV : Hid (visitsAt a b [] ≤ 131071) := by
    show visitsAt a b [] ≤ 131071
    unfold visitsAt
    rw [List.length_nil, Nat.sub_zero]
    have : 2 ^ (16 + 1) = 131072 := by decide
    omega
  have HL1 : Hid (∀ q : Bytes, q.length ≤ 16 → (f1 q = some (.int .u64 (prefMark a q : Int)) ∨ f1 q = none ∧ prefMark a q = nil0)) := fun q hq => lev1.look q hq (Nat.zero_le _)
  have HL2 : Hid (∀ q : Bytes, q.length ≤ 16 → (f2 q = some (.int .u64 (prefMark b q : Int)) ∨ f2 q = none ∧ prefMark b q = nil0)) := fun q hq => lev2.look q hq (Nat.zero_le _)
  have H0 : Hid (0 + tv a b [[]] = visitsAt a b []) := by show _ = _; rw [tv, tv]; omega
  clear lev1 lev2 m1' m2 hb02 hvp
  generalize hT : visitsAt a b [] = T at *
  generalize hbase : w3.heap.size + 1 = base at *
  generalize w3.heap.size = gN at *
  go_loopw [10, 11, 12] (fun vo vt i wr => ∃ (M Q : List Bytes) (g cnt : Nat), i = .int .i64 cnt ∧ Hid (cnt + tv a b Q = T) ∧ Hid (Finds a b M Q) ∧ Hid (∀ q ∈ Q, q.length ≤ 16) ∧ M.length ≤ cnt * 2000 ∧ Q.length ≤ cnt + 1 ∧ Srch w wr base gN b1 n1 b2 n2 f1 f2 vo vt M Q g) (fun _ _ i _ => T - (intOf i).toNat)
  case atStart => exact ⟨[], [[]], _, 0, rfl, H0, Finds.start a b, fun q hq => by rw [List.mem_singleton.1 hq]; simp, by simp, by simp, hs0⟩
  case round =>
    obtain ⟨M, Q, g, cnt, rfl, HC, HF, HQ, hMl, hQl, hsr⟩ := hrel
    clear hs0 H0
    have hcT : cnt ≤ 131071 := by have h1 := HC.out; have h2 := HV.out; omega
    cases Q with
    | nil =>
      obtain ⟨off, cap, rfl, -⟩ := hsr.todo
      obtain ⟨D, e0, rfl⟩ := own_shape hsr.out
      have hEnd := HF.out.end_
      have hO := Lib.hid (refOrdered D e0 M wr (by omega) (fun s hs => HS.out s (found_sub a b _ _ s ((HF.out s).1 (.inl hs)))) (Row.own hsr.out))
      rw [hEnd] at hO
      have hcT2 : Hid (T = cnt) := by
        show T = cnt
        have h1 := HC.out
        rw [tv] at h1
        omega
      have hbl := hsr.bl
      rw [List.length_nil]
      clear HC HF HQ hsr hEnd HL1 HL2 hD HV HS
      generalize Bin.srt (foundAt a b []) = R at *
      go_wp2_with fail
      refine hO.out.mono ?_
      rintro e w9 ⟨D9, d9, rfl, hr9, hb9⟩
      go_wp2
      go_ret2
      exact ⟨D9, d9, by rw [hcT2.out]; rfl, hr9, below_chain hbl hb9⟩
    | cons p Q =>
      obtain ⟨Do, eo, rfl⟩ := own_shape hsr.out
      have hp16 := HQ.out p List.mem_cons_self
      have hQ' : Hid (∀ q ∈ Q, q.length ≤ 16) := fun q hq => HQ.out q (List.mem_cons_of_mem _ hq)
      have hcl : cnt < T := by have h1 := HC.out; have h2 := visits_pos a b (16 - p.length) p; rw [tv, visitsAt] at h1; omega
      obtain ⟨off, cap, rfl, q2, q3, q4, q5, q6, q7, q8⟩ := hsr.todo
      have h0 := q6 0 (by simp)
      rw [Nat.add_zero, List.getElem_cons_zero] at h0
      have htail := hsr.todo.tail
      have hat1 := fun (w : World) hM hc => Lib.hid (lookAt p w gN b1 n1 f1 (by unfold maxLen; omega) hM hc _ (HL1.out p hp16))
      have hat2 := fun (w : World) hM hc => Lib.hid (lookAt p w gN b2 n2 f2 (by unfold maxLen; omega) hM hc _ (HL2.out p hp16))
      have hlen : (p :: Q).length = Q.length + 1 := rfl
      rw [hlen] at q4 hQl ⊢
      clear q2 q3 q5 q6 q7 q8 hlen HQ
      have hcap : cap = 1 ∨ ∃ c', cap = c' + 2 := by
        rcases Nat.lt_or_ge 1 cap with h | h
        · exact .inr ⟨cap - 2, by omega⟩
        · exact .inl (by omega)
      have hi1 : (0 : Int) < (Q.length : Int) + 1 := by omega
      have hi2 : (1 : Int) ≤ (Q.length : Int) + 1 := by omega
      by_cases he : prefMark a p = prefMark b p
      · have hF' := Lib.hid (HF.out.same he)
        have hC' : Hid (cnt + 1 + tv a b Q = T) := by
          show _ = _
          have h1 := HC.out
          rw [tv, (visitsAt_same a b p he).1] at h1
          omega
        have c1 : ((prefMark a p : Int) == (prefMark b p : Int)) = true := beq_iff_eq.2 (by rw [he])
        clear HF HC
        generalize prefMark a p = x at *
        generalize prefMark b p = y at *
        clear he HL1 HL2 hD HV
        rcases hcap with rfl | ⟨c', rfl⟩
        · rw [if_pos rfl] at htail
          have htl : QRow wr base g (.slice (some ⟨g, off, none⟩) 0 0) Q := by
            rw [show Q.length = 0 by omega] at htail
            exact htail
          clear htail
          go_wp2_with fail
          refine (hat1 _ (hsr.m1) hsr.cN).out.mono ?_
          rintro e w5 ⟨rfl, hw5⟩
          have hv5 := hw5.symm
          subst hv5
          go_wp2_with fail
          refine (hat2 _ (hsr.m2) hsr.cN).out.mono ?_
          rintro e w6 ⟨rfl, hw6⟩
          have hv6 := hw6.symm
          subst hv6
          go_wp2
          go_roundw
          case rel => exact ⟨M, Q, g, cnt + 1, by go_num, hC', hF', hQ', by omega, by omega, ⟨hsr.out, htl, hsr.apart, hsr.m1, hsr.m2, hsr.l1, hsr.l2, hsr.lN, hsr.cN, hsr.bl, hsr.sz, hsr.lo⟩⟩
          case measure => simp [intOf]; omega
        · rw [if_neg (by omega)] at htail
          go_wp2_with fail
          refine (hat1 _ (hsr.m1) hsr.cN).out.mono ?_
          rintro e w5 ⟨rfl, hw5⟩
          have hv5 := hw5.symm
          subst hv5
          go_wp2_with fail
          refine (hat2 _ (hsr.m2) hsr.cN).out.mono ?_
          rintro e w6 ⟨rfl, hw6⟩
          have hv6 := hw6.symm
          subst hv6
          go_wp2
          go_roundw
          case rel => exact ⟨M, Q, g, cnt + 1, by go_num, hC', hF', hQ', by omega, by omega, ⟨hsr.out, htail, hsr.apart, hsr.m1, hsr.m2, hsr.l1, hsr.l2, hsr.lN, hsr.cN, hsr.bl, hsr.sz, hsr.lo⟩⟩
          case measure => simp [intOf]; omega
      · have c1 : ((prefMark a p : Int) == (prefMark b p : Int)) = false := beq_eq_false_iff_ne.2 (by omega)
        have hszz := hsr.sz
        by_cases hl16 : p.length < 16
        · have hF' := Lib.hid (HF.out.more he hl16)
          have hC' : Hid (cnt + 1 + tv a b (Q ++ [p ++ [48], p ++ [49]]) = T) := by
            show _ = _
            have h1 := HC.out
            rw [tv, (visitsAt_more a b p he hl16).1] at h1
            rw [tv_snoc2]
            omega
          have hQ2 : Hid (∀ q ∈ Q ++ [p ++ [48], p ++ [49]], q.length ≤ 16) := fun q hq => by
            rcases List.mem_append.1 hq with h | h
            · exact hQ'.out q h
            · rcases List.mem_cons.1 h with rfl | h
              · rw [List.length_append, List.length_singleton]; omega
              · rw [List.mem_singleton.1 h, List.length_append, List.length_singleton]; omega
          have c2 : decide ((p.length : Int) < 16) = true := decide_eq_true (by omega)
          clear HF HC
          generalize prefMark a p = x at *
          generalize prefMark b p = y at *
          clear he HL1 HL2 hD HV HS
          rcases hcap with rfl | ⟨c', rfl⟩
          · rw [if_pos rfl] at htail
            have htl : QRow wr base g (.slice (some ⟨g, off, none⟩) 0 0) Q := by
              rw [show Q.length = 0 by omega] at htail
              exact htail
            have hsr2 : Srch w wr base gN b1 n1 b2 n2 f1 f2 (.slice Do M.length eo) (.slice (some ⟨g, off, none⟩) 0 0) M Q g := ⟨hsr.out, htl, hsr.apart, hsr.m1, hsr.m2, hsr.l1, hsr.l2, hsr.lN, hsr.cN, hsr.bl, hsr.sz, hsr.lo⟩
            clear htail
            go_wp2_with fail
            refine (hat1 _ (hsr.m1) hsr.cN).out.mono ?_
            rintro e w5 ⟨rfl, hw5⟩
            have hv5 := hw5.symm
            subst hv5
            go_wp2_with fail
            refine (hat2 _ (hsr.m2) hsr.cN).out.mono ?_
            rintro e w6 ⟨rfl, hw6⟩
            have hv6 := hw6.symm
            subst hv6
            go_wp2_with (at_builtin; refine app_queue _ rfl _ _ rfl base g _ Q rfl (htl.alloc _) ⟨wr.heap.size, 0, none⟩ 2 [p ++ [48], p ++ [49]] 2 rfl rfl (two_new wr p _) (by simp; omega) (by simp; omega) ?_; intro v7 g7 w7 hq7 hgr7 hl7)
            go_roundw
            case rel => exact ⟨M, Q ++ [p ++ [48], p ++ [49]], g7, cnt + 1, by go_num, hC', hF', hQ2, by omega, by simp; omega, (hsr2.alloc (.cells #[.string (S p ++ ⟨#[48]⟩), .string (S p ++ ⟨#[49]⟩)] 9)).push hq7 hgr7 hl7⟩
            case measure => simp [intOf]; omega
          · rw [if_neg (by omega), Option.map_some, Go.WideShapes.add_plain] at htail
            have htl : QRow wr base g (.slice (some ⟨g, off + 1, none⟩) Q.length (c' + 1)) Q := htail
            clear htail
            have hsr2 : Srch w wr base gN b1 n1 b2 n2 f1 f2 (.slice Do M.length eo) (.slice (some ⟨g, off + 1, none⟩) Q.length (c' + 1)) M Q g := ⟨hsr.out, htl, hsr.apart, hsr.m1, hsr.m2, hsr.l1, hsr.l2, hsr.lN, hsr.cN, hsr.bl, hsr.sz, hsr.lo⟩
            go_wp2_with fail
            refine (hat1 _ (hsr.m1) hsr.cN).out.mono ?_
            rintro e w5 ⟨rfl, hw5⟩
            have hv5 := hw5.symm
            subst hv5
            go_wp2_with fail
            refine (hat2 _ (hsr.m2) hsr.cN).out.mono ?_
            rintro e w6 ⟨rfl, hw6⟩
            have hv6 := hw6.symm
            subst hv6
            go_wp2_with (at_builtin; refine app_queue _ rfl _ _ rfl base g _ Q rfl (htl.alloc _) ⟨wr.heap.size, 0, none⟩ 2 [p ++ [48], p ++ [49]] 2 rfl rfl (two_new wr p _) (by simp; omega) (by simp; omega) ?_; intro v7 g7 w7 hq7 hgr7 hl7)
            go_roundw
            case rel => exact ⟨M, Q ++ [p ++ [48], p ++ [49]], g7, cnt + 1, by go_num, hC', hF', hQ2, by omega, by simp; omega, (hsr2.alloc (.cells #[.string (S p ++ ⟨#[48]⟩), .string (S p ++ ⟨#[49]⟩)] 9)).push hq7 hgr7 hl7⟩
            case measure => simp [intOf]; omega
        · have hl : p.length = 16 := by omega
          have hF' : Hid (Finds a b (M ++ (differ a b).filter fun n => Bin.of n == p) Q) := HF.out.deep he hl
          have hC' : Hid (cnt + 1 + tv a b Q = T) := by
            show _ = _
            have h1 := HC.out
            rw [tv, (visitsAt_deep a b p he hl).1] at h1
            omega
          have c2 : decide ((p.length : Int) < 16) = false := decide_eq_false (by omega)
          have hOl : (differ a b).length ≤ 2000 := by
            have h1 := List.length_filter_le (fun n => !(stands a n == stands b n)) (Bin.srt ((a ++ b).map (·.1)))
            have h2 := Bin.srt_le ((a ++ b).map (·.1))
            rw [List.length_map, List.length_append] at h2
            have h3 : (differ a b).length = ((Bin.srt ((a ++ b).map (·.1))).filter fun n => !(stands a n == stands b n)).length := rfl
            omega
          have hPn := fun (n : Bytes) (hn : n ∈ differ a b) (w : World) => Lib.hid (refPath n w (HS.out n hn))
          clear HF HC HS
          generalize prefMark a p = x at *
          generalize prefMark b p = y at *
          generalize differ a b = O at *
          clear he HL1 HL2 HV hl
          rcases hcap with rfl | ⟨c', rfl⟩
          · rw [if_pos rfl] at htail
            have htl : QRow wr base g (.slice (some ⟨g, off, none⟩) 0 0) Q := by
              rw [show Q.length = 0 by omega] at htail
              exact htail
            have hsr2 : Srch w wr base gN b1 n1 b2 n2 f1 f2 (.slice Do M.length eo) (.slice (some ⟨g, off, none⟩) 0 0) M Q g := ⟨hsr.out, htl, hsr.apart, hsr.m1, hsr.m2, hsr.l1, hsr.l2, hsr.lN, hsr.cN, hsr.bl, hsr.sz, hsr.lo⟩
            clear htail htl
            go_wp2_with fail
            refine (hat1 _ (hsr.m1) hsr.cN).out.mono ?_
            rintro e w5 ⟨rfl, hw5⟩
            have hv5 := hw5.symm
            subst hv5
            go_wp2_with fail
            refine (hat2 _ (hsr.m2) hsr.cN).out.mono ?_
            rintro e w6 ⟨rfl, hw6⟩
            have hv6 := hw6.symm
            subst hv6
            go_wp2_with fail
            refine (hD _ (hA.below hsr.bl) (hB.below hsr.bl)).out.mono ?_
            rintro e w7 ⟨D8, d8, rfl, hown8, hb7⟩
            have hsr7 := hsr2.below hb7
            have hap : (Value.slice D8 O.length d8).ownBlock = none ∨ (Value.slice D8 O.length d8).ownBlock ≠ (Value.slice Do M.length eo).ownBlock := by
              cases hk : (Value.slice D8 O.length d8).ownBlock with
              | none => exact .inl rfl
              | some k =>
                refine .inr fun e => ?_
                have h1 := (hown8.lt _ hk).1
                have h2 := (hsr2.out.lt _ e.symm).2
                omega
            clear hsr hsr2 hD hat1 hat2 h0 hb7
            go_wp2
            go_loopw [10, 56] (fun vo i w9 => ∃ (k : Nat) (M' : List Bytes), k ≤ O.length ∧ i = .int .i64 k ∧ Hid (M' = M ++ (O.take k).filter fun n => Bin.of n == p) ∧ M'.length ≤ M.length + k ∧ Srch w w9 base gN b1 n1 b2 n2 f1 f2 vo (.slice (some ⟨g, off, none⟩) 0 0) M' Q g ∧ w9.ownsRow wr.heap.size 9 1 (.slice D8 O.length d8) O.length (scells O) ∧ ((Value.slice D8 O.length d8).ownBlock = none ∨ (Value.slice D8 O.length d8).ownBlock ≠ vo.ownBlock)) (fun _ i _ => O.length - (intOf i).toNat)
            case atStart => exact ⟨0, M, Nat.zero_le _, rfl, by show _ = _; simp, by omega, hsr7, hown8, hap⟩
            case round =>
              obtain ⟨k, M', hk, rfl, HM, hMl', hs9, ho9, ha9⟩ := hrel
              obtain ⟨D9, e9, rfl⟩ := own_shape hs9.out
              by_cases hlt : k < O.length
              · obtain ⟨g8, off8, hDe, h1⟩ := (Row.own ho9).strD k hlt
                have hi0 : (0 : Int) ≤ (k : Int) := by omega
                have hi3 : (k : Int) < (O.length : Int) := by omega
                have hpn := fun w => hPn O[k] (List.getElem_mem hlt) w
                have HM' : Hid (M ++ (O.take (k + 1)).filter (fun n => Bin.of n == p) = M' ++ if (Bin.of O[k] == p) = true then [O[k]] else []) := by
                  show _ = _
                  rw [filter_step O _ k hlt, HM.out, List.append_assoc]
                have hzz := hs9.sz
                generalize O[k] = n at *
                generalize Bin.of n = pn at *
                clear HM
                subst hDe
                have hcs : (pn == p) = true ∨ (pn == p) = false := by cases (pn == p) <;> simp
                rcases hcs with hcs | hcs
                · rw [hcs, if_pos rfl] at HM'
                  go_wp2_with fail
                  refine (hpn _).out.mono ?_
                  rintro e _ ⟨rfl, rfl⟩
                  go_wp2_with (at_builtin; refine app_strs_at _ rfl _ _ rfl base _ M' rfl (hs9.out.alloc _) ⟨wr.heap.size, 0, none⟩ 1 [n] 1 rfl rfl (str_one wr n _) (by simp; omega) (by simp; omega) ?_; intro v7 w7 hown7 hgr7 hl7)
                  have hap7 : (Value.slice (some ⟨g8, off8, none⟩) O.length d8).ownBlock = none ∨ (Value.slice (some ⟨g8, off8, none⟩) O.length d8).ownBlock ≠ v7.ownBlock := by
                    rcases ha9 with h | h
                    · exact .inl h
                    · rcases hl7 with e | e
                      · exact .inr (by rw [e]; exact h)
                      · refine .inr fun e2 => ?_
                        rw [e] at e2
                        have := ((ho9.alloc (.cells #[.string (S n)] 9)).lt _ e2).2
                        omega
                  go_roundw
                  case rel => exact ⟨k + 1, M' ++ [n], by omega, by go_num, HM'.out.symm, by simp; omega, (hs9.alloc (.cells #[.string (S n)] 9)).add hown7 hgr7 hl7, (ho9.alloc (.cells #[.string (S n)] 9)).kept hgr7 ha9, hap7⟩
                  case measure => simp [intOf]; omega
                · rw [hcs, if_neg (by simp), List.append_nil] at HM'
                  go_wp2_with fail
                  refine (hpn _).out.mono ?_
                  rintro e _ ⟨rfl, rfl⟩
                  go_wp2
                  go_roundw
                  case rel => exact ⟨k + 1, M', by omega, by go_num, HM'.out.symm, by omega, hs9, ho9, ha9⟩
                  case measure => simp [intOf]; omega
              · have HM' : Hid (M' = M ++ O.filter fun n => Bin.of n == p) := by
                  show M' = _
                  rw [HM.out, List.take_of_length_le (by omega)]
                go_wp2
                go_roundw
                case rel => exact ⟨M', Q, g, cnt + 1, by go_num, hC', by show Finds a b M' Q; rw [HM'.out]; exact hF'.out, hQ', by omega, by omega, hs9⟩
                case measure => simp [intOf]; omega
          · rw [if_neg (by omega), Option.map_some, Go.WideShapes.add_plain] at htail
            have htl : QRow wr base g (.slice (some ⟨g, off + 1, none⟩) Q.length (c' + 1)) Q := htail
            have hsr2 : Srch w wr base gN b1 n1 b2 n2 f1 f2 (.slice Do M.length eo) (.slice (some ⟨g, off + 1, none⟩) Q.length (c' + 1)) M Q g := ⟨hsr.out, htl, hsr.apart, hsr.m1, hsr.m2, hsr.l1, hsr.l2, hsr.lN, hsr.cN, hsr.bl, hsr.sz, hsr.lo⟩
            clear htail htl
            go_wp2_with fail
            refine (hat1 _ (hsr.m1) hsr.cN).out.mono ?_
            rintro e w5 ⟨rfl, hw5⟩
            have hv5 := hw5.symm
            subst hv5
            go_wp2_with fail
            refine (hat2 _ (hsr.m2) hsr.cN).out.mono ?_
            rintro e w6 ⟨rfl, hw6⟩
            have hv6 := hw6.symm
            subst hv6
            go_wp2_with fail
            refine (hD _ (hA.below hsr.bl) (hB.below hsr.bl)).out.mono ?_
            rintro e w7 ⟨D8, d8, rfl, hown8, hb7⟩
            have hsr7 := hsr2.below hb7
            have hap : (Value.slice D8 O.length d8).ownBlock = none ∨ (Value.slice D8 O.length d8).ownBlock ≠ (Value.slice Do M.length eo).ownBlock := by
              cases hk : (Value.slice D8 O.length d8).ownBlock with
              | none => exact .inl rfl
              | some k =>
                refine .inr fun e => ?_
                have h1 := (hown8.lt _ hk).1
                have h2 := (hsr2.out.lt _ e.symm).2
                omega
            clear hsr hsr2 hD hat1 hat2 h0 hb7
            go_wp2
            go_loopw [10, 56] (fun vo i w9 => ∃ (k : Nat) (M' : List Bytes), k ≤ O.length ∧ i = .int .i64 k ∧ Hid (M' = M ++ (O.take k).filter fun n => Bin.of n == p) ∧ M'.length ≤ M.length + k ∧ Srch w w9 base gN b1 n1 b2 n2 f1 f2 vo (.slice (some ⟨g, off + 1, none⟩) Q.length (c' + 1)) M' Q g ∧ w9.ownsRow wr.heap.size 9 1 (.slice D8 O.length d8) O.length (scells O) ∧ ((Value.slice D8 O.length d8).ownBlock = none ∨ (Value.slice D8 O.length d8).ownBlock ≠ vo.ownBlock)) (fun _ i _ => O.length - (intOf i).toNat)
            case atStart => exact ⟨0, M, Nat.zero_le _, rfl, by show _ = _; simp, by omega, hsr7, hown8, hap⟩
            case round =>
              obtain ⟨k, M', hk, rfl, HM, hMl', hs9, ho9, ha9⟩ := hrel
              obtain ⟨D9, e9, rfl⟩ := own_shape hs9.out
              by_cases hlt : k < O.length
              · obtain ⟨g8, off8, hDe, h1⟩ := (Row.own ho9).strD k hlt
                have hi0 : (0 : Int) ≤ (k : Int) := by omega
                have hi3 : (k : Int) < (O.length : Int) := by omega
                have hpn := fun w => hPn O[k] (List.getElem_mem hlt) w
                have HM' : Hid (M ++ (O.take (k + 1)).filter (fun n => Bin.of n == p) = M' ++ if (Bin.of O[k] == p) = true then [O[k]] else []) := by
                  show _ = _
                  rw [filter_step O _ k hlt, HM.out, List.append_assoc]
                have hzz := hs9.sz
                generalize O[k] = n at *
                generalize Bin.of n = pn at *
                clear HM
                subst hDe
                have hcs : (pn == p) = true ∨ (pn == p) = false := by cases (pn == p) <;> simp
                rcases hcs with hcs | hcs
                · rw [hcs, if_pos rfl] at HM'
                  go_wp2_with fail
                  refine (hpn _).out.mono ?_
                  rintro e _ ⟨rfl, rfl⟩
                  go_wp2_with (at_builtin; refine app_strs_at _ rfl _ _ rfl base _ M' rfl (hs9.out.alloc _) ⟨wr.heap.size, 0, none⟩ 1 [n] 1 rfl rfl (str_one wr n _) (by simp; omega) (by simp; omega) ?_; intro v7 w7 hown7 hgr7 hl7)
                  have hap7 : (Value.slice (some ⟨g8, off8, none⟩) O.length d8).ownBlock = none ∨ (Value.slice (some ⟨g8, off8, none⟩) O.length d8).ownBlock ≠ v7.ownBlock := by
                    rcases ha9 with h | h
                    · exact .inl h
                    · rcases hl7 with e | e
                      · exact .inr (by rw [e]; exact h)
                      · refine .inr fun e2 => ?_
                        rw [e] at e2
                        have := ((ho9.alloc (.cells #[.string (S n)] 9)).lt _ e2).2
                        omega
                  go_roundw
                  case rel => exact ⟨k + 1, M' ++ [n], by omega, by go_num, HM'.out.symm, by simp; omega, (hs9.alloc (.cells #[.string (S n)] 9)).add hown7 hgr7 hl7, (ho9.alloc (.cells #[.string (S n)] 9)).kept hgr7 ha9, hap7⟩
                  case measure => simp [intOf]; omega
                · rw [hcs, if_neg (by simp), List.append_nil] at HM'
                  go_wp2_with fail
                  refine (hpn _).out.mono ?_
                  rintro e _ ⟨rfl, rfl⟩
                  go_wp2
                  go_roundw
                  case rel => exact ⟨k + 1, M', by omega, by go_num, HM'.out.symm, by omega, hs9, ho9, ha9⟩
                  case measure => simp [intOf]; omega
              · have HM' : Hid (M' = M ++ O.filter fun n => Bin.of n == p) := by
                  show M' = _
                  rw [HM.out, List.take_of_length_le (by omega)]
                go_wp2
                go_roundw
                case rel => exact ⟨M', Q, g, cnt + 1, by go_num, hC', by show Finds a b M' Q; rw [HM'.out]; exact hF'.out, hQ', by omega, by omega, hs9⟩
                case measure => simp [intOf]; omega
end Go.Proofs.Ytmmmolbejfdamaa
