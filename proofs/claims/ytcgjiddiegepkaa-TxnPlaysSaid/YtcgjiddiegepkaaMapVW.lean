/- Maps in order, omap[string,handbill/api.Write]: New, Put, Len. -/
import Derived.Test.YtcgjiddiegepkaaPutVW
namespace Go.Proofs.Ytcgjiddiegepkaa
open Go.RowKit

theorem newVW_any (w : World) : Calls Try.prog 39 #[] w fun e w' => ∃ b, e = .returned (.pointer (some ⟨b, 0, none⟩)) ∧ b = w.heap.size ∧ MQ w' b .nil ∧ Below w.heap.size w w' := by
  go_enter Try.func39, Try.ntmps39
  go_wp2
  go_ret
  exact ⟨w.heap.size, rfl, rfl, ⟨_, none, heap_alloc_new w _, rfl⟩, below_alloc _ _⟩
theorem mlenVW_any (b : Nat) (t : Tr) (w : World) (h : MQ w b t) : Calls Try.prog 60 #[.pointer (some ⟨b, 0, none⟩)] w fun e w' => e = .returned (.int .i64 ((prs t).length : Int)) ∧ w' = w := by
  obtain ⟨T, o, hc, _⟩ := h
  have c1 : w.cell? ⟨b, 1, none⟩ = some (.int .i64 ((prs t).length : Int)) := by simp [World.cell?, hc]
  clear hc
  go_enter Try.func60, Try.ntmps60
  go_wp2
  go_ret
  exact ⟨rfl, rfl⟩
set_option maxHeartbeats 1000000 in
theorem mputVW_any (b : Nat) (k x : Value) (t : Tr) (w : World) (h : MQ w b t) (hks : KSVW k) (hxs : VSVW x) (hw : WS KSVW VSVW t) (hh : ht t < 1152921504606846976) (hl : (prs t).length < 1152921504606846976) :
    Calls Try.prog 61 #[.pointer (some ⟨b, 0, none⟩), k, x] w (MapQ b (putT k x t) (newT k t) w) := by
  have hlt := h.lt
  obtain ⟨T, o, hc, htp⟩ := h
  obtain ⟨xa, xb, xc, rfl⟩ := hxs
  have hbx := below_alloc w (.cells #[str xa, str xb, .bool xc] 58)
  have hnw := heap_alloc_new w (.cells #[str xa, str xb, .bool xc] 58)
  have c0 : (w.alloc (.cells #[str xa, str xb, .bool xc] 58)).cell? ⟨b, 0, none⟩ = some (.pointer o) := keepcVW (by simp [World.cell?, hc]) hbx
  have q0 : (w.alloc (.cells #[str xa, str xb, .bool xc] 58)).cell? ⟨w.heap.size, 0, none⟩ = some (str xa) := cell_of_row _ w.heap.size 0 _ _ (0, 0) hnw
  have q1 : (w.alloc (.cells #[str xa, str xb, .bool xc] 58)).cell? ⟨w.heap.size, 1, none⟩ = some (str xb) := cell_of_row _ w.heap.size 1 _ _ (0, 0) hnw
  have q2 : (w.alloc (.cells #[str xa, str xb, .bool xc] 58)).cell? ⟨w.heap.size, 2, none⟩ = some (.bool xc) := cell_of_row _ w.heap.size 2 _ _ (0, 0) hnw
  have CP := Lib.hid (fun (W : World) (hb : Below w.heap.size w W) => putVW_any k (.agg #[str xa, str xb, .bool xc]) hks ⟨xa, xb, xc, rfl⟩ t o W (TQ.below hb htp) hw hh)
  have HL := Lib.hid (len_put k (.agg #[str xa, str xb, .bool xc]) t)
  have HC := Lib.hid hc
  obtain ⟨z, hz⟩ : ∃ z, z = newT k t := ⟨_, rfl⟩
  obtain ⟨n, hn⟩ : ∃ n, n = (prs t).length := ⟨_, rfl⟩
  rw [← hz] at CP
  rw [← hz]
  rw [← hn] at HC hl
  have HZ := Lib.hid (show (prs (putT k (.agg #[str xa, str xb, .bool xc]) t)).length = n + if z = true then 1 else 0 by rw [HL.out, hn, hz])
  have HBX := Lib.hid (Below.drewsN hbx 1)
  have HS : Hid (∀ W, Below (w.alloc (.cells #[str xa, str xb, .bool xc] 58)).drew.heap.size (w.alloc (.cells #[str xa, str xb, .bool xc] 58)).drew W → W.cell? ⟨b, 0, none⟩ = some (.pointer o) ∧ W.cell? ⟨w.heap.size, 0, none⟩ = some (str xa) ∧ W.cell? ⟨w.heap.size, 1, none⟩ = some (str xb) ∧ W.cell? ⟨w.heap.size, 2, none⟩ = some (.bool xc)) :=
    Lib.hid (fun W hb => ⟨keepcVW (W := (w.alloc (.cells #[str xa, str xb, .bool xc] 58)).drew) c0 hb, keepcVW (W := (w.alloc (.cells #[str xa, str xb, .bool xc] 58)).drew) q0 hb, keepcVW (W := (w.alloc (.cells #[str xa, str xb, .bool xc] 58)).drew) q1 hb, keepcVW (W := (w.alloc (.cells #[str xa, str xb, .bool xc] 58)).drew) q2 hb⟩)
  clear hc htp hw hh hz hn HL hbx hnw
  go_enter Try.func61, Try.ntmps61
  go_wp2_with fail
  go_region_held3 (fun W => W.cell? ⟨b, 0, none⟩ = some (.pointer o) ∧ W.cell? ⟨w.heap.size, 0, none⟩ = some (str xa) ∧ W.cell? ⟨w.heap.size, 1, none⟩ = some (str xb) ∧ W.cell? ⟨w.heap.size, 2, none⟩ = some (.bool xc))
    (first
      | (exact HS.out _ hb1)
      | (exact HS.out _ (Below.refl _ _))
      | go_keep)
    ((go_at_call 79; refine (CP.out _ HBX.out).mono ?_; rintro e w1 ⟨b1, rfl, ht1, hb1⟩))
  all_goals
    have HB1 := Lib.hid (HBX.out.trans (hb1.mono HBX.out.size))
    have hc1 : w1.heap[b]? = some (.cells #[.pointer o, .int .i64 (n : Int)] T (0, 0)) := by rw [HB1.out.block b hlt]; exact HC.out
    have f0 := frozen_of_row w1 b 0 _ T hc1
    have f1 := frozen_of_row w1 b 1 _ T hc1
    have d0 : w1.cell? ⟨b, 0, none⟩ = some (.pointer o) := by simp [World.cell?, hc1]
    have d1 : w1.cell? ⟨b, 1, none⟩ = some (.int .i64 (n : Int)) := by simp [World.cell?, hc1]
    have HC1 := Lib.hid hc1
    have HT1 := Lib.hid ht1
    clear hc1 ht1 hb1 c0 q0 q1 q2 HS CP HBX
    cases z with
    | true =>
      go_wp2_with fail
      go_ret
      have q1 := (two_setCell (u := .pointer (some ⟨b1, 0, none⟩)) HC1.out).1
      have q2 := (two_setCell (u := .int .i64 ((n : Int) + 1)) q1).2
      have ho : Only b w1 ((w1.setCell ⟨b, 0, none⟩ (.pointer (some ⟨b1, 0, none⟩))).setCell ⟨b, 1, none⟩ (.int .i64 ((n : Int) + 1))) := ((Only.refl b w1).setCell 0 _).setCell 1 _
      have e : (((prs (putT k (.agg #[str xa, str xb, .bool xc]) t)).length : Nat) : Int) = (n : Int) + 1 := by rw [HZ.out]; simp
      exact ⟨rfl, ⟨T, some ⟨b1, 0, none⟩, by rw [e]; exact q2, TQ.only HC1.out ho HT1.out⟩, (Only.of_below HB1.out).trans ho, ((HB1.out.mono (Nat.le_of_lt hlt)).setCell (p := ⟨b, 0, none⟩) (Nat.le_refl b) _).setCell (p := ⟨b, 1, none⟩) (Nat.le_refl b) _⟩
    | false =>
      go_wp2_with fail
      go_ret
      have q1 := (two_setCell (u := .pointer (some ⟨b1, 0, none⟩)) HC1.out).1
      have ho : Only b w1 (w1.setCell ⟨b, 0, none⟩ (.pointer (some ⟨b1, 0, none⟩))) := (Only.refl b w1).setCell 0 _
      have e : (((prs (putT k (.agg #[str xa, str xb, .bool xc]) t)).length : Nat) : Int) = (n : Int) := by rw [HZ.out]; simp
      exact ⟨rfl, ⟨T, some ⟨b1, 0, none⟩, by rw [e]; exact q1, TQ.only HC1.out ho HT1.out⟩, (Only.of_below HB1.out).trans ho, (HB1.out.mono (Nat.le_of_lt hlt)).setCell (p := ⟨b, 0, none⟩) (Nat.le_refl b) _⟩
end Go.Proofs.Ytcgjiddiegepkaa
