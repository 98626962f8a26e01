import Derived.Test.YtegblhmcfemfgaaGreatDoorTRound
import Derived.Lib.DecodeN
import Derived.Laws.IdiomStrings
namespace Go.Proofs.YtegblhmcfemfgaaGreatDoor
open Go.RowKit
theorem signB_big (c : Nat) (h0 : 65536 ≤ c) (h1 : c ≤ 1114111) : signB c = true := by unfold signB; simp; omega
theorem signB_iff (n : Nat) : signB n = true ↔ n < 55296 ∨ (57343 < n ∧ n ≤ 1114111) := by
 unfold signB; simp; omega
theorem oN (n : Nat) (h : n < 256) : (UInt8.ofNat n).toNat = n := by rw [UInt8.toNat_ofNat']; omega
end Go.Proofs.YtegblhmcfemfgaaGreatDoor
