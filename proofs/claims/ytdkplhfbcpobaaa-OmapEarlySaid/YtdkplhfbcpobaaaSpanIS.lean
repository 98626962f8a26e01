/- Maps in order, omap[int,string]: Range, what it ranges over. -/
import Derived.Test.YtdkplhfbcpobaaaBetweenIS
namespace Go.Proofs.Ytdkplhfbcpobaaa
open Go.RowKit
attribute [local go_sem] Oper.semAt_some wide_fn wide_depth

/-- The world behind Range. -/
def spanWIS (w : World) (b : Nat) (lo hi : Value) : World := ((w.alloc (.cells #[.pointer (some ⟨b, 0, none⟩)] 24)).alloc (.cells #[lo] 3)).alloc (.cells #[hi] 3)
theorem mspanIS_any (b : Nat) (lo hi : Value) (hlo : KSIS lo) (hhi : KSIS hi) (w : World) : Calls Try.prog 36 #[.pointer (some ⟨b, 0, none⟩), lo, hi] w fun e w' =>
    e = .returned (.func (.func 60) #[] #[.pointer (some ⟨w.heap.size, 0, none⟩), .pointer (some ⟨w.heap.size + 1, 0, none⟩), .pointer (some ⟨w.heap.size + 2, 0, none⟩)]) ∧ w' = spanWIS w b lo hi := by
  unfold spanWIS
  obtain ⟨x, rfl, _⟩ := hlo
  obtain ⟨y, rfl, _⟩ := hhi
  go_enter Try.func36, Try.ntmps36
  go_wp2
  go_ret
  exact ⟨rfl, rfl⟩
set_option maxRecDepth 100000 in
set_option maxHeartbeats 2000000 in
theorem spansIS_any {Wr : TypeId → Prop} {b B0 B1 B2 : Nat} {t : Tr} {lo hi : Value} {w W : World} (hm : MP w b t) (hw : WS KSIS VSIS t) (hlo : KSIS lo) (hhi : KSIS hi) (hc : w.cell? ⟨B0, 0, none⟩ = some (.pointer (some ⟨b, 0, none⟩)))
    (hc1 : w.cell? ⟨B1, 0, none⟩ = some lo) (hc2 : w.cell? ⟨B2, 0, none⟩ = some hi) (hW : Below w.heap.size w W) :
    Seqs Try.prog 60 #[.pointer (some ⟨B0, 0, none⟩), .pointer (some ⟨B1, 0, none⟩), .pointer (some ⟨B2, 0, none⟩)] (fun p => #[p.1, p.2]) (NK w) Wr (btwIS lo hi t) W := by
  intro l J Jx hJ hJx hOk hY h0
  have q0 : W.cell? ⟨B0, 0, none⟩ = some (.pointer (some ⟨b, 0, none⟩)) := (hW.cell (p := ⟨B0, 0, none⟩) (World.block_lt_of_cell? w _ hc)).trans hc
  have q1 : W.cell? ⟨B1, 0, none⟩ = some lo := (hW.cell (p := ⟨B1, 0, none⟩) (World.block_lt_of_cell? w _ hc1)).trans hc1
  have q2 : W.cell? ⟨B2, 0, none⟩ = some hi := (hW.cell (p := ⟨B2, 0, none⟩) (World.block_lt_of_cell? w _ hc2)).trans hc2
  obtain ⟨T, o, hb, ht⟩ := hm
  have hb' : W.heap[b]? = some (.cells #[.pointer o, .int .i64 ((prs t).length : Int)] T (0, 0)) := by rw [hW.block b (Array.getElem?_eq_some_iff.1 hb).1]; exact hb
  have c0 : W.cell? ⟨b, 0, none⟩ = some (.pointer o) := by simp [World.cell?, hb']
  have hr : CallsIn Fence.wide 8 Try.prog 61 #[.pointer o, lo, hi, .func (.yield l) #[] #[]] W.drew fun e W1 => ∃ c, e = .returned (.bool c) ∧ (J (btwIS lo hi t) W1 ∨ ∃ pre, (∃ q, btwIS lo hi t = pre ++ q) ∧ Jx pre W1) := by
    refine (betweenIS_any (xs := btwIS lo hi t) hlo hhi hJ hOk hY t o [] W.drew 8 ht hw (own_drew hJ h0) ⟨[], by simp⟩).mono ?_
    rintro e W1 (⟨rfl, h⟩ | ⟨rfl, q, hq, h⟩)
    · exact ⟨true, rfl, .inl (by simpa using h)⟩
    · exact ⟨false, rfl, .inr ⟨q, hq, by simpa using h⟩⟩
  have hm : Try.prog.follows .mixedOrders = true := by kernel_rfl
  clear hb hb' ht hc hc1 hc2
  refine (callsIn_wide (n := 9)).1 ?_
  refine callsIn_of_wp Try.func60 rfl trivial ?_ rfl
  simp only [Try.ntmps60, List.size_toArray, List.length_cons, List.length_nil, Nat.reduceAdd, Nat.reduceSub, Array.replicate_succ, Array.replicate_zero, List.push_toArray, List.append_toArray, List.nil_append, List.cons_append]
  gi_wp2
  gi_region_with_o (gi_at_call 61; refine hr.mono ?_; rintro e W1 ⟨c, rfl, hP⟩)
  all_goals
    gi_wp2
    go_end0
    exact ⟨⟨_, rfl⟩, hP⟩
end Go.Proofs.Ytdkplhfbcpobaaa
