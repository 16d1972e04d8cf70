/- package change: Diff returns the names in which two books differ, in order. It writes nothing that was there. -/
import Derived.Test.YtmmmolbejfdamaaChangeMiss
import Derived.Test.YtmmmolbejfdamaaPathSort
namespace Go.Proofs.Ytmmmolbejfdamaa
set_option maxRecDepth 100000
open Go.RowKit

/-- What Diff leaves. -/
def DiffGives (T : List Bytes) (w : World) (e : Ending) (w' : World) : Prop := ∃ D d, e = .returned (.tuple #[.slice D T.length d, .int .i64 0]) ∧ Row w' D (scells T) ∧ Below w.heap.size w w'

set_option maxHeartbeats 800000 in
theorem changeDiff_yes (A B : Option Addr) (c d : Nat) (a b : List Ent) (w : World) (ha : Good a) (hb : Good b) (hA : Row w A (encells a)) (hB : Row w B (encells b)) :
    Calls Try.prog 8 #[.slice A a.length c, .slice B b.length d] w (DiffGives (differ a b) w) := by
  obtain ⟨hma, hea⟩ := small_of_good ha
  obtain ⟨hmb, heb⟩ := small_of_good hb
  have hC := fun (w : World) hA => Lib.hid (treeCheck A c a w hma hea hA _ ((fault_ok a).2 ha))
  have hD := fun (w : World) hB => Lib.hid (treeCheck B d b w hmb heb hB _ ((fault_ok b).2 hb))
  have hla := ha.len
  have hlb := hb.len
  have hM := fun (w : World) hA hB => Lib.hid (changeMissing A B c d a b w (by omega) (by omega) hA hB)
  have hN := fun (w : World) hB hA => Lib.hid (changeMissing B A d c b a w (by omega) (by omega) hB hA)
  have hl1 := missing_le a b
  have hl2 := missing_le b a
  have hnm : ∀ s ∈ missing a b ++ missing b a, Bin.name s = true := fun s hs => by
    rcases List.mem_append.1 hs with h | h
    · exact missing_name ha.name s h
    · exact missing_name hb.name s h
  have hS := fun (D : Option Addr) (e : Nat) (w : World) hA => Lib.hid (pathSort D e (missing a b ++ missing b a) w (by rw [List.length_append]; omega) (fun s hs => small_of_name (hnm s hs)) hA)
  have HD := Lib.hid (missing_differ ha.order hb.order)
  have HN := Lib.hid hnm
  clear hnm hma hea hmb heb ha hb
  generalize differ a b = T at *
  generalize missing a b = L at *
  generalize missing b a = M at *
  have hl3 : (L.length + M.length) * 16 ≤ 140737488355328 := by omega
  obtain ⟨J, HJ⟩ : ∃ J, Hid (L ++ M = J) := ⟨_, rfl⟩
  rw [HJ.out] at hS HD HN
  clear hla hlb hl1 hl2
  go_enter Try.func8, Try.ntmps8
  go_wp2_with fail
  refine (hC _ hA).out.mono ?_
  rintro e w1 ⟨rfl, hb1⟩
  go_wp2_with fail
  refine (hD _ (hB.below hb1)).out.mono ?_
  rintro e w2 ⟨rfl, hb2⟩
  have hb02 := below_chain hb1 hb2
  clear hC hD hb1 hb2
  go_wp2_with fail
  refine (hM _ (hA.below hb02) (hB.below hb02)).out.mono ?_
  rintro e w3 ⟨D3, d3, rfl, hown3, hb3⟩
  have hb03 := below_chain hb02 hb3
  go_wp2_with fail
  refine (hN _ (hB.below hb03) (hA.below hb03)).out.mono ?_
  rintro e w4 ⟨D4, d4, rfl, hown4, hb4⟩
  have hb04 := below_chain hb03 hb4
  have hown34 := (own_below hown3 hb4).mono hb02.size
  have hr4 := Row.own hown4
  have hs4 := hb04.size
  clear hM hN hb03 hb3 hb4 hown3 hown4 hb02
  go_wp2_with (first
    | (at_builtin; refine app_strs_any _ rfl _ _ rfl w.heap.size _ L rfl hown34 D4 d4 M rfl hr4 hl3 hs4 ?_; intro v5 w5 hown5 hgrow5; rw [HJ.out] at hown5; have hb5 : Below w.heap.size w w5 := hb04.grown hgrow5 hs4 (fun k hk => (hown34.lt k hk).1); obtain ⟨D5, d5, rfl⟩ := own_shape hown5; have hr5 := Row.own hown5; clear hown5 hgrow5 hb04 hown34 hr4))
  refine (hS _ _ _ hr5).out.mono ?_
  rintro e w6 (⟨_, D6, d6, rfl, hr6, hb6⟩ | ⟨⟨s, hs, hx⟩, _⟩)
  · have hb06 := below_chain hb5 hb6
    rw [HD.out] at hr6 ⊢
    clear hS HD HN hr5
    go_wp2
    go_ret2
    exact ⟨D6, d6, rfl, hr6, hb06⟩
  · rw [HN.out s hs] at hx
    cases hx
end Go.Proofs.Ytmmmolbejfdamaa
