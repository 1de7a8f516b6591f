/-
  AreaRead, as the specification and as the program have it.
-/
import Derived.Test.YtfiabbfdnmldjaaGreatDoorV1
import Derived.Test.YtfiabbfdnmldjaaGreatDoorV4
import Derived.Test.YtfiabbfdnmldjaaGreatDoorV5
namespace Go.Proofs.YtfiabbfdnmldjaaGreatDoor.V6
open Go.RowKit
open Go.Proofs.YtfiabbfdnmldjaaGreatDoor.C0 Go.Proofs.YtfiabbfdnmldjaaGreatDoor.S0 Go.Proofs.YtfiabbfdnmldjaaGreatDoor.U1 Go.Proofs.YtfiabbfdnmldjaaGreatDoor.U4 Go.Proofs.YtfiabbfdnmldjaaGreatDoor.V0 Go.Proofs.YtfiabbfdnmldjaaGreatDoor.V3 Go.Proofs.YtfiabbfdnmldjaaGreatDoor.V4
theorem read_impl (a1 a3 a5 a9 : Addr) (vs vp : Value) (ss : List ByteArray) (ps : List Pend) (w : World) (hS : Sents w a1 a3 a5 a9) (hs : Strs w vs ss) (hp : Pends w vp ps) (hz : ∀ s ∈ ss, s.size ≤ maxLen) (hzp : ∀ p ∈ ps, p.2.size ≤ maxLen) :
    Calls Tryz.prog 9 #[.agg #[vs, vp]] w fun e w' => AT w (readA ss ps) e w' :=
  V4.read_impl a1 a3 a5 a9 vs vp ss ps w hS hs hp hz hzp (fun hR => V5.side_any a1 a3 a5 a9 ss ps hR)
theorem readArea_impl (a1 a3 a5 a9 : Addr) (vs vp : Value) (ss : List ByteArray) (ps : List Pend) (w : World) (hS : Sents w a1 a3 a5 a9) (hs : Strs w vs ss) (hp : Pends w vp ps) (hz : ∀ s ∈ ss, s.size ≤ maxLen) (hzp : ∀ p ∈ ps, p.2.size ≤ maxLen) :
    Calls Tryz.prog 34 #[.agg #[vs, vp]] w fun e w' => HTold a1 a3 a5 a9 w (seenD ss ps).1 (seenD ss ps).2.1 (seenD ss ps).2.2.1 (textD ss ps) (codeD ss ps) e w' :=
  readArea_any a1 a3 a5 a9 vs vp ss ps w hS hs hp hz hzp (fun hR => V5.side_any a1 a3 a5 a9 ss ps hR)
theorem read_sizes (ss : List ByteArray) (ps : List Pend) : (readA ss ps).ss.length ≤ ss.length ∧ (readA ss ps).ps.length ≤ ps.length := by
  rw [readA_eq]
  split
  · exact ⟨Nat.le_refl _, Nat.le_refl _⟩
  · exact ⟨Nat.zero_le _, Nat.zero_le _⟩
end Go.Proofs.YtfiabbfdnmldjaaGreatDoor.V6
