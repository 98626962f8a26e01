/- Maps in order, omap[string,string]: Copy. -/
import Derived.Test.YteibiaplmmdppaaGetSS
namespace Go.Proofs.Yteibiaplmmdppaa
open Go.RowKit

theorem copySS_any (b : Nat) (t : Tr) (w : World) (h : MP w b t) : Calls Try.prog 45 #[.pointer (some ⟨b, 0, none⟩)] w fun e w' => ∃ c, e = .returned (.pointer (some ⟨c, 0, none⟩)) ∧ c = w.heap.size ∧ MP w' c t ∧ Below w.heap.size w w' := by
  obtain ⟨T, o, hc, htp⟩ := h
  have c0 : w.cell? ⟨b, 0, none⟩ = some (.pointer o) := by simp [World.cell?, hc]
  have c1 : w.cell? ⟨b, 1, none⟩ = some (.int .i64 ((prs t).length : Int)) := by simp [World.cell?, hc]
  have HT := Lib.hid htp
  obtain ⟨n, hn⟩ : ∃ n, n = (prs t).length := ⟨_, rfl⟩
  rw [← hn] at c1
  have HN := Lib.hid hn
  clear hc htp hn
  go_enter Try.func45, Try.ntmps45
  go_wp2_with fail
  go_region_held3 (fun W => W.cell? ⟨b, 0, none⟩ = some (.pointer o) ∧ W.cell? ⟨b, 1, none⟩ = some (.int .i64 (n : Int)))
    (first
      | (exact ⟨c0, c1⟩)
      | go_keep)
    (fail)
  all_goals
    go_wp2_with fail
    go_ret
    have hb : Below w.heap.size w (w.alloc (.cells #[.pointer o, .int .i64 (n : Int)] 89)) := below_alloc _ _
    exact ⟨w.heap.size, rfl, rfl, ⟨_, o, by rw [← HN.out]; exact heap_alloc_new w _, TP.drewN 1 (TP.below hb HT.out)⟩, Below.drewsN hb 1⟩
end Go.Proofs.Yteibiaplmmdppaa
