import Derived.Test.YtegblhmcfemfgaaGreatDoorSignAt
import Derived.Laws.IdiomStrings
namespace Go.Proofs.YtegblhmcfemfgaaGreatDoor
open Go.RowKit
theorem bytes_run (l : List UInt8) (W : World) (hl : l.length ≤ 1000000) : ∃ cap w', (convert 9 106 (str l)).run Tryz.prog W = .ok (.slice (some ⟨W.heap.size, 0, none⟩) l.length cap) w' ∧ Rd w' (.slice (some ⟨W.heap.size, 0, none⟩) l.length cap) l ∧ Below W.heap.size W w' := by
 have := run_bytes_of_string (P := Tryz.prog) W 9 106 5 ⟨l.toArray⟩ Tryz.underlying9 Tryz.underlying106 Tryz.underlying5
 have hs : (ByteArray.mk l.toArray).size = l.length := by simp [ByteArray.size]
 rw [hs] at this
 refine ⟨_, _, this, ?_, ?_⟩
 · refine ⟨_, _, rfl, grownCap_ge _ _ _ _, grownCap_le_maxLen _ _ _ _ (by simp only [maxLen]; omega), (fun e => by cases e), fun _ => ⟨W.heap.size, 0, rfl, fun i hi => ?_⟩⟩
   rw [Nat.zero_add, cell_of_row _ W.heap.size i _ 5 _ (heap_alloc_new W.drew _)]
   unfold bytesRow
   rw [Array.getElem?_append_left (by simpa using hi)]
   simp [bv, hi]
 exact Below.alloc (Below.drewsN (Below.refl _ _) 1) (Nat.le_refl _) _
end Go.Proofs.YtegblhmcfemfgaaGreatDoor
