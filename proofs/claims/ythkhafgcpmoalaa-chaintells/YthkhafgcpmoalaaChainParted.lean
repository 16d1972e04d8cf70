/- A part of a chain, and two parts one behind the other. No function of the program in this text. -/
import Derived.Test.YthkhafgcpmoalaaChainPart
namespace Go.Proofs.Ythkhafgcpmoalaa
set_option maxRecDepth 100000
open Go.RowKit

/-- A part of a chain. -/
def partOf (l : List Hd) (fr to : Int) : List Hd := cut l (partAt l fr) (partLen fr to)
theorem PartOk.chain {l : List Hd} {fr to : Int} (k : PartOk l fr to) : CGood (partOf l fr to) ∧ (partOf l fr to).length = partLen fr to := by
  obtain ⟨_, _, e3, e4⟩ := k.spot
  exact ⟨k.g.part _ _ e3 e4, cut_length _ _ _ e4⟩
theorem parts_plain {l : List Hd} {fr mid to : Int} (k : PartOk l fr to) (h1 : fr ≤ mid) (h2 : mid < to) :
    PartOk l fr mid ∧ PartOk l (mid + 1) to ∧ partOf l fr to = partOf l fr mid ++ partOf l (mid + 1) to ∧ followAns (lastH (partOf l fr mid)) (partOf l (mid + 1) to) = (true, 0) := by
  have k1 : PartOk l fr mid := ⟨k.g, h1, k.b, by have := k.c; omega⟩
  have k2 : PartOk l (mid + 1) to := ⟨k.g, by omega, by have := k.b; omega, k.c⟩
  obtain ⟨a1, a2, a3, a4⟩ := k.spot
  obtain ⟨b1, b2, b3, b4⟩ := k1.spot
  obtain ⟨c1, c2, c3, c4⟩ := k2.spot
  obtain ⟨g1, n1⟩ := k1.chain
  obtain ⟨g2, n2⟩ := k2.chain
  have e1 : partAt l (mid + 1) = partAt l fr + partLen fr mid := by omega
  have e2 : partLen fr to = partLen fr mid + partLen (mid + 1) to := by omega
  refine ⟨k1, k2, ?_, ?_⟩
  · unfold partOf cut
    rw [e1, e2, List.take_add, List.drop_drop]
  · unfold followAns
    rw [if_pos ((cfault_ok _).2 g2), if_pos ((hfault_ok _).2 (lastH_good g1))]
    have hl : links (lastH (partOf l fr mid)) (firstH (partOf l (mid + 1) to)) = true := by
      have p1 := g1.pos
      have p2 := g2.pos
      rw [lastH_eq (by omega), firstH_at p2]
      have f1 : (partOf l fr mid)[(partOf l fr mid).length - 1] = l[partAt l fr + (partLen fr mid - 1)] := by
        have : ∀ i (h : i < (partOf l fr mid).length), (partOf l fr mid)[i] = l[partAt l fr + i]'(by omega) := fun i h => by simp only [partOf, cut, List.getElem_take, List.getElem_drop]
        rw [this _ (by omega)]
        congr 2
        omega
      have f2 : (partOf l (mid + 1) to)[0] = l[partAt l fr + (partLen fr mid - 1) + 1]'(by omega) := by
        have : ∀ i (h : i < (partOf l (mid + 1) to).length), (partOf l (mid + 1) to)[i] = l[partAt l (mid + 1) + i]'(by omega) := fun i h => by simp only [partOf, cut, List.getElem_take, List.getElem_drop]
        rw [this _ (by omega)]
        congr 1
        omega
      rw [f1, f2]
      exact k.g.link _ (by omega)
    rw [hl]

end Go.Proofs.Ythkhafgcpmoalaa
