/- Maps in order, omap[string,[]handbill/vers.Version[string]]: New, Put, Len, Copy. -/
import Derived.Test.YtdlacjdddjebgaaPutVS
import Derived.Test.YtdlacjdddjebgaaTrMap
namespace Go.Proofs.Ytdlacjdddjebgaa
open Go.RowKit

theorem newVS_any (w : World) : Calls Try.prog 40 #[] w fun e w' => ∃ b, e = .returned (.pointer (some ⟨b, 0, none⟩)) ∧ b = w.heap.size ∧ MP w' b .nil ∧ Below w.heap.size w w' := by
  go_enter Try.func40, Try.ntmps40
  go_wp2
  go_ret
  exact ⟨w.heap.size, rfl, rfl, ⟨_, none, heap_alloc_new w _, rfl⟩, below_alloc _ _⟩
set_option maxHeartbeats 400000 in
theorem mputVS_any (b : Nat) (k x : Value) (t : Tr) (w : World) (h : MP w b t) (hks : KSVS k) (hxs : VSVS x) (hw : WS KSVS VSVS t) (hh : ht t < 1152921504606846976) (hl : (prs t).length < 1152921504606846976) :
    Calls Try.prog 46 #[.pointer (some ⟨b, 0, none⟩), k, x] w (MapPost b (putT k x t) (newT k t) w) := by
  have hlt := h.lt
  obtain ⟨T, o, hc, htp⟩ := h
  have c0 : w.cell? ⟨b, 0, none⟩ = some (.pointer o) := by simp [World.cell?, hc]
  have CP := Lib.hid (putVS_any k x hks hxs t o w htp hw hh)
  have HL := Lib.hid (len_put k x t)
  have HC := Lib.hid hc
  obtain ⟨z, hz⟩ : ∃ z, z = newT k t := ⟨_, rfl⟩
  obtain ⟨n, hn⟩ : ∃ n, n = (prs t).length := ⟨_, rfl⟩
  rw [← hz] at CP
  rw [← hz]
  rw [← hn] at HC hl
  have HZ := Lib.hid (show (prs (putT k x t)).length = n + if z = true then 1 else 0 by rw [HL.out, hn, hz])
  clear hc htp hw hh hz hn HL
  cases z with
  | true =>
    go_enter Try.func46, Try.ntmps46
    go_wp2_with fail
    refine CP.out.mono ?_
    rintro e w1 ⟨b1, rfl, ht1, hb1⟩
    have hc1 : w1.heap[b]? = some (.cells #[.pointer o, .int .i64 (n : Int)] T (0, 0)) := by rw [hb1.block b hlt]; exact HC.out
    have f0 := frozen_of_row w1 b 0 _ T hc1
    have f1 := frozen_of_row w1 b 1 _ T hc1
    have d0 : w1.cell? ⟨b, 0, none⟩ = some (.pointer o) := by simp [World.cell?, hc1]
    have d1 : w1.cell? ⟨b, 1, none⟩ = some (.int .i64 (n : Int)) := by simp [World.cell?, hc1]
    have HC1 := Lib.hid hc1
    have HT1 := Lib.hid ht1
    have HB1 := Lib.hid hb1
    clear hc1 ht1 hb1 c0
    go_wp2_with fail
    go_ret
    have q1 := (two_setCell (u := .pointer (some ⟨b1, 0, none⟩)) HC1.out).1
    have q2 := (two_setCell (u := .int .i64 ((n : Int) + 1)) q1).2
    have ho : Only b w1 ((w1.setCell ⟨b, 0, none⟩ (.pointer (some ⟨b1, 0, none⟩))).setCell ⟨b, 1, none⟩ (.int .i64 ((n : Int) + 1))) := ((Only.refl b w1).setCell 0 _).setCell 1 _
    have e : (((prs (putT k x t)).length : Nat) : Int) = (n : Int) + 1 := by rw [HZ.out]; simp
    refine ⟨rfl, ⟨T, some ⟨b1, 0, none⟩, by rw [e]; exact q2, TP.only HC1.out ho HT1.out⟩, (Only.of_below HB1.out).trans ho, ((HB1.out.mono (Nat.le_of_lt hlt)).setCell (p := ⟨b, 0, none⟩) (Nat.le_refl b) _).setCell (p := ⟨b, 1, none⟩) (Nat.le_refl b) _⟩
  | false =>
    go_enter Try.func46, Try.ntmps46
    go_wp2_with fail
    refine CP.out.mono ?_
    rintro e w1 ⟨b1, rfl, ht1, hb1⟩
    have hc1 : w1.heap[b]? = some (.cells #[.pointer o, .int .i64 (n : Int)] T (0, 0)) := by rw [hb1.block b hlt]; exact HC.out
    have f0 := frozen_of_row w1 b 0 _ T hc1
    have d0 : w1.cell? ⟨b, 0, none⟩ = some (.pointer o) := by simp [World.cell?, hc1]
    have HC1 := Lib.hid hc1
    have HT1 := Lib.hid ht1
    have HB1 := Lib.hid hb1
    clear hc1 ht1 hb1 c0
    go_wp2_with fail
    go_ret
    have q1 := (two_setCell (u := .pointer (some ⟨b1, 0, none⟩)) HC1.out).1
    have ho : Only b w1 (w1.setCell ⟨b, 0, none⟩ (.pointer (some ⟨b1, 0, none⟩))) := (Only.refl b w1).setCell 0 _
    have e : (((prs (putT k x t)).length : Nat) : Int) = (n : Int) := by rw [HZ.out]; simp
    refine ⟨rfl, ⟨T, some ⟨b1, 0, none⟩, by rw [e]; exact q1, TP.only HC1.out ho HT1.out⟩, (Only.of_below HB1.out).trans ho, (HB1.out.mono (Nat.le_of_lt hlt)).setCell (p := ⟨b, 0, none⟩) (Nat.le_refl b) _⟩
end Go.Proofs.Ytdlacjdddjebgaa
