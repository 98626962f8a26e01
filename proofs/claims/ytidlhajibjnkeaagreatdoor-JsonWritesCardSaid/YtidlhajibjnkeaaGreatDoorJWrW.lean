/- hbllaw4.JsonWrites: any arguments. -/
import Derived.Test.YtidlhajibjnkeaaGreatDoorJWr2
namespace Go.Proofs.YtidlhajibjnkeaaGreatDoor
open Go.RowKit

theorem jwrites_walk (v : JV) (cv : List Value) (u : JV) (cu : List Value) (fo : ByteArray) (n : Int) (w : World) (hv : RdJ w (fun _ => True) v cv) (hu : RdJ w (fun _ => True) u cu) (_ : fo.size ≤ maxLen) (_ : -9223372036854775808 ≤ n ∧ n ≤ 9223372036854775807) (ht : TabJ w.heap.size w) :
    Calls Tryz.prog 4 #[.agg cv.toArray, .agg cu.toArray, .string fo, .int .i64 n] w fun e w' => e = .returned (.bool true) ∧ Below w.heap.size w w' := by
  obtain ⟨⟨nm⟩⟩ := fo
  by_cases h1 : fewB v = true
  · by_cases h2 : fewB u = true
    · by_cases h3 : nm.length ≤ 1000
      · exact jwrites_main v u cv cu nm n w hv hu ht h1 h2 h3
      · exact jwrites_long v u cv cu nm n w hv hu ht h1 h2 (by omega)
    · exact jwrites_few2 v u cv cu nm n w hv hu ht h1 (by simpa using h2)
  · exact jwrites_few1 v u cv cu nm n w hv hu ht (by simpa using h1)
end Go.Proofs.YtidlhajibjnkeaaGreatDoor
