/- Package head: Read returns the head with a preimage. It writes nothing that was there. -/
import Derived.Test.YthkhafgcpmoalaaHead
import Derived.Test.YthkhafgcpmoalaaNumBack
namespace Go.Proofs.Ythkhafgcpmoalaa
set_option maxRecDepth 100000
open Go.RowKit

theorem cell_grown (w : World) (g o : Nat) (v : Value) : w.grownBy (w.setCell ⟨g, o, none⟩ v) (some g) :=
  ⟨rfl, rfl, rfl, by simp [World.setCell], fun k _ hk => Below.heap_setCell w ⟨g, o, none⟩ v k (fun e => hk (by rw [e]))⟩
/-- The numbers that a string of 33 bytes holds. -/
def hnums (l : Bytes) : Hd := (IntKind.i64.wrap (num8 (l.tail.take 8) : Int), num8 ((l.drop 9).take 8), num8 ((l.drop 17).take 8), IntKind.i64.wrap (num8 ((l.drop 25).take 8) : Int))
end Go.Proofs.Ythkhafgcpmoalaa
