/- Maps in order, omap[string,[]handbill/vers.Version[string]]: All, what it ranges over. -/
import Derived.Test.YtdlacjdddjebgaaRiseVS
import Derived.Test.YtdlacjdddjebgaaMapVS
namespace Go.Proofs.Ytdlacjdddjebgaa
open Go.RowKit
attribute [local go_sem] Oper.semAt_some wide_fn wide_depth

/-- A pair as what is handed on; a key alone. -/
theorem mallVS_any (b : Nat) (w : World) : Calls Try.prog 43 #[.pointer (some ⟨b, 0, none⟩)] w fun e w' =>
    e = .returned (.func (.func 63) #[] #[.pointer (some ⟨w.heap.size, 0, none⟩)]) ∧ w' = w.alloc (.cells #[.pointer (some ⟨b, 0, none⟩)] 68) := by
  go_enter Try.func43, Try.ntmps43
  go_wp2
  go_ret
  exact ⟨rfl, rfl⟩
set_option maxHeartbeats 1000000 in
theorem allsVS_any {Wr : TypeId → Prop} {b Bm : Nat} {t : Tr} {w W : World} (hm : MP w b t) (hc : w.cell? ⟨Bm, 0, none⟩ = some (.pointer (some ⟨b, 0, none⟩))) (hW : Below w.heap.size w W) :
    Seqs Try.prog 63 #[.pointer (some ⟨Bm, 0, none⟩)] (fun p => #[p.1, p.2]) (NK w) Wr (prs t) W := by
  intro l J Jx hJ hJx hOk hY h0
  have hc' : W.cell? ⟨Bm, 0, none⟩ = some (.pointer (some ⟨b, 0, none⟩)) := (hW.cell (p := ⟨Bm, 0, none⟩) (World.block_lt_of_cell? w _ hc)).trans hc
  obtain ⟨T, o, hb, ht⟩ := hm
  have hb' : W.heap[b]? = some (.cells #[.pointer o, .int .i64 ((prs t).length : Int)] T (0, 0)) := by rw [hW.block b (Array.getElem?_eq_some_iff.1 hb).1]; exact hb
  have c0 : W.cell? ⟨b, 0, none⟩ = some (.pointer o) := by simp [World.cell?, hb']
  have hr := riseVS_any (xs := prs t) hJ hOk hY t o [] W 8 ht h0 ⟨[], by simp⟩
  have hdd : ∀ k : Nat, (Fence.wide.depth.isSome = true → 1 ≤ k) := fun k h => by cases h
  clear hb hb' ht
  refine (callsIn_wide (n := 9)).1 ?_
  refine callsIn_of_wp Try.func63 rfl trivial ?_ rfl
  simp only [Try.ntmps63, List.size_toArray, List.length_cons, List.length_nil, Nat.reduceAdd, Nat.reduceSub, Array.replicate_succ, Array.replicate_zero, List.push_toArray, List.append_toArray, List.nil_append, List.cons_append]
  gi_wp2_with (gi_at_call 64; refine hr.mono ?_; clear hr; rintro e W1 (⟨rfl, hJ1⟩ | ⟨rfl, q, hq, hx⟩))
  · go_end0
    exact ⟨⟨_, rfl⟩, .inl (by simpa using hJ1)⟩
  · go_end0
    exact ⟨⟨_, rfl⟩, .inr ⟨q, hq, by simpa using hx⟩⟩
end Go.Proofs.Ytdlacjdddjebgaa
