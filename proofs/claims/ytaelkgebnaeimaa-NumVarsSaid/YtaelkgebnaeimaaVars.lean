/- NumVars: the walk. -/
import Derived.Test.YtaelkgebnaeimaaAll
import Derived.Test.YtaelkgebnaeimaaVarMath
import Derived.Deep.QuietTactic
import Derived.BigQuiet
import Derived.Deep.RegionHeld3
import Derived.Deep.AppendLies
namespace Go.Proofs.Ytaelkgebnaeimaa
open Go.RowKit

set_option maxRecDepth 100000 in
set_option maxHeartbeats 12800000 in
theorem vars_walk (a0 a1 a2 : Int) (w : World) (_h0 : -9223372036854775808 ≤ a0 ∧ a0 ≤ 9223372036854775807) (_h1 : -9223372036854775808 ≤ a1 ∧ a1 ≤ 9223372036854775807) (_h2 : -9223372036854775808 ≤ a2 ∧ a2 ≤ 9223372036854775807) :
    Calls Try.prog 5 #[.int .i64 a0, .int .i64 a1, .int .i64 a2] w fun e w' => e = .returned (.bool true) ∧ Below w.heap.size w w' := by
  go_enter Try.func5, Try.ntmps5
  go_wp2_with fail
  refine (first_any _).mono ?_
  rintro e w1 ⟨rfl, hb1⟩
  go_wp2_with fail
  refine (var_all a0 _).mono ?_
  rintro e w4 ⟨x, lx, eu, rfl, hU, ho4, hb4⟩
  go_wp2_with fail
  refine (var_all a1 _).mono ?_
  rintro e w5 ⟨y, ly, ev, rfl, hV, ho5, hb5⟩
  have hrx := ho4.rd.below hb5 (Nat.le_refl _)
  have hry := ho5.rd
  have hB : Below w.heap.size w w5 := (hb1.trans (hb4.mono hb1.size)).trans (hb5.mono (Nat.le_trans hb1.size hb4.size))
  clear ho4 ho5 hb1 hb4 hb5
  have hsz := hB.size
  obtain ⟨ax, cx, rfl, cx1, cx2, cx3, cx4⟩ := hrx
  obtain ⟨ay, cy, rfl, cy1, cy2, cy3, cy4⟩ := hry
  have hlx : lx.length ≤ 9223372036854775807 := by unfold maxLen at cx2; omega
  have hly : ly.length ≤ 9223372036854775807 := by unfold maxLen at cy2; omega
  by_cases hbad : eu = 0 ∧ ev = 0 ∧ 0 ≤ a2
  · obtain ⟨rfl, rfl, hc0⟩ := hbad
    rcases hU with ⟨_, u1, u2, rfl⟩ | ⟨h, _⟩
    · rcases hV with ⟨_, v1, v2, rfl⟩ | ⟨h, _⟩
      · obtain ⟨m, rfl⟩ := Int.eq_ofNat_of_zero_le u1
        obtain ⟨n, rfl⟩ := Int.eq_ofNat_of_zero_le v1
        obtain ⟨cut, rfl⟩ := Int.eq_ofNat_of_zero_le hc0
        simp only [Int.toNat_natCast] at cx1 cx4 cy1 cy4 hlx hly ⊢
        have hp1 := varL_pos m
        have hp2 := varL_pos n
        have h81 : (varL m).length ≤ 8 := varL_len 7 m (by omega)
        have h82 : (varL n).length ≤ 8 := varL_len 7 n (by omega)
        have hrx : Rd w5 (.slice ax (varL m).length cx) (varL m) := ⟨ax, cx, rfl, cx1, cx2, cx3, cx4⟩
        have hry : Rd w5 (.slice ay (varL n).length cy) (varL n) := ⟨ay, cy, rfl, cy1, cy2, cy3, cy4⟩
        obtain ⟨bx, ox, rfl, _⟩ := cx4 (by intro e; rw [e] at hp1; simp at hp1)
        obtain ⟨by_, oy, rfl, _⟩ := cy4 (by intro e; rw [e] at hp2; simp at hp2)
        clear cx3 cx4 cy3 cy4
        obtain ⟨c, hce⟩ : ∃ c, c = cut % (varL m).length := ⟨_, rfl⟩
        have hcI : (cut : Int) % ((varL m).length : Int) = (c : Int) := by rw [hce]; omega
        have hclt : c < (varL m).length := by rw [hce]; exact Nat.mod_lt _ hp1
        clear hce
        have hd0 : decide ((cut : Int) < 0) = false := by simp
        have hd1 : decide (((varL m).length : Int) < 1) = false := by simp; omega
        have hd2 : decide (((varL n).length : Int) < 1) = false := by simp; omega
        have HCI := Lib.hid hcI; clear hcI
        go_wp2_with fail
        have hsplit : (((m : Int) == (n : Int)) = true ∨ (((m : Int) == (n : Int)) = false ∧ decide (((varL m).length : Int) ≤ ((varL n).length : Int)) = false)) ∨ (((m : Int) == (n : Int)) = false ∧ ((varL m).length : Int) ≤ ((varL n).length : Int) ∧ ((varL n).take (varL m).length == varL m) = false) := by
          by_cases hmn : m = n
          · exact .inl (.inl (by rw [beq_iff_eq]; omega))
          · have hne : ((m : Int) == (n : Int)) = false := by rw [beq_eq_false_iff_ne]; omega
            by_cases hle : (varL m).length ≤ (varL n).length
            · refine .inr ⟨hne, by omega, ?_⟩
              rw [beq_eq_false_iff_ne]
              exact fun h => hmn (varL_prefix m n h81 h82 h)
            · exact .inl (.inr ⟨hne, by simpa using hle⟩)
        have hx7 := fun q => bt.toString (w := w5.drewN q) (S := 9) Try.underlying9 (hrx.drewN q)
        rcases hsplit with (h7 | ⟨h7, h8⟩) | ⟨h7, h8, h9⟩
        · have h7' : ((m : Int) != (n : Int)) = false := by rw [bne_eq_false_iff_eq]; simpa using h7
          go_quiet (fail)
          have hcI := HCI.out
          have hcx : (c : Int) ≤ (cx : Int) := by omega
          go_wp2_with fail
          refine (rvar_zero _ _ _ ((hrx.take c (by omega)).drewN nq) (by simp; omega)).mono ?_
          rintro e w6 ⟨rfl, rfl⟩
          rw [rv_cut m c hclt h81]
          unfold rvE
          go_wp2_with fail
          obtain ⟨W, hWe, hBW, hrW⟩ : ∃ W, W = w5.drewN nq ∧ Below w.heap.size w W ∧ Rd W (.slice (some ⟨bx, ox, none⟩) (varL m).length cx) (varL m) := ⟨_, rfl, Below.drewsN hB nq, hrx.drewN nq⟩
          rw [← hWe]
          clear hWe hx7 hrx hry
          have hlast := hrW.cells.2 ((varL m).length - 1) (by omega)
          obtain ⟨z, hz⟩ : ∃ z, z = (varL m)[(varL m).length - 1] := ⟨_, rfl⟩
          rw [← hz] at hlast
          unfold bv at hlast
          have HZ := Lib.hid hz; clear hz
          obtain ⟨k, hk⟩ : ∃ k, (varL m).length = k + 1 := ⟨(varL m).length - 1, by omega⟩
          have hkm : (varL m).length - 1 = k := by omega
          rw [hkm] at hlast
          rw [hk] at hrW ⊢
          have hw1 : IntKind.i64.wrap (((k + 1 : Nat) : Int) - 1) = (k : Int) := by rw [IntWalk.i64_in _ ⟨by omega, by omega⟩]; omega
          have hw2 : IntKind.i64.wrap ((k : Int) + 1 - 1) = (k : Int) := by rw [IntWalk.i64_in _ ⟨by omega, by omega⟩]; omega
          have hw3 : IntKind.i64.wrap (k : Int) = (k : Int) := IntWalk.i64_in _ ⟨by omega, by omega⟩
          have hi0 : (0 : Int) ≤ (k : Int) := by omega
          have hi2 : (k : Int) ≤ (cx : Int) := by omega
          have hi3 : (k : Int) < (k : Int) + 1 := by omega
          have hk8 : k + 1 ≤ 8 := by omega
          have HK := Lib.hid hk
          clear hk hkm
          have hT := (hrW.take k (by rw [HK.out]; omega)).drew1
          have hTl : ((varL m).take k).length = k := by rw [List.length_take, HK.out]; omega
          have hTle : ((varL m).take k).length ≤ 140737488355328 := by omega
          have HTl := Lib.hid hTl
          clear hTl
          have hbx : bx < W.heap.size := World.block_lt_of_cell? W _ hlast
          go_region_held3 (fun w' => w'.cell? ⟨bx, ox + k, none⟩ = some (.int .u8 (z.toNat : Int)))
            (first
              | go_keep
              | (rw [hb9.cell (p := ⟨bx, ox + k, none⟩) (by simp; omega)]; assumption)
              | (rw [hg10.cell_far ⟨bx, ox + k, none⟩ (by show bx < _; have := hb9.size; simp at this ⊢; omega) (fun e => by have := (ho9.base bx e.symm).1; omega)]; first | assumption | go_keep)
              | (rw [hg11.cell_far ⟨bx, ox + k, none⟩ (by show bx < _; have := hb9.size; have := hg10.size; simp at *; omega) (fun e => by have := (ho10.base bx e.symm).1; omega)]; first | assumption | go_keep))
            ((first
              | (go_at_call 14
                 refine (copy_any _ ((varL m).take k) _ ?_ hTle).mono ?_
                 · first | exact hT | exact hT.alloc _ | exact (hT.alloc _).alloc _
                 rintro e w9 ⟨v9, rfl, ho9a, hb9⟩
                 have ho9 := ho9a.mono (base' := W.heap.size) (by first | (simp; done) | (simp; omega) | omega))
              | (refine bt.stepAppend (by rfl) _ _ (by rfl) W.heap.size v9 ((varL m).take k) [z ||| 128] (by rfl) ?_ ?_ ?_ ?_ ?_
                 · first | exact ho9 | exact ho9.alloc _ | exact (ho9.alloc _).alloc _
                 · repeat (first | exact Rd.oneAt _ _ _ _ _ (or128_u8 z) (by simp) | apply Rd.alloc | refine Rd.below ?_ hb9 (Nat.le_refl _))
                 · simp; omega
                 · have := hb9.size
                   simp at this ⊢
                   omega
                 intro v10 w10 ho10 hg10)
              | (refine bt.stepAppend (by rfl) _ _ (by rfl) W.heap.size v10 ((varL m).take k ++ [z ||| 128]) [0] (by rfl) ?_ ?_ ?_ ?_ ?_
                 · first | exact ho10 | exact ho10.alloc _
                 · first
                   | exact Rd.oneAt _ _ _ _ _ rfl (by simp)
                   | (refine Rd.past ?_ hg10 ho9a ?_
                      · repeat (first | exact Rd.oneAt _ _ _ _ _ rfl (by simp) | apply Rd.alloc | refine Rd.below ?_ hb9 (Nat.le_refl _))
                      · first | (simp; done) | (simp; omega) | omega)
                   | fail
                 · simp; omega
                 · have h1 := hb9.size
                   have h2 := hg10.size
                   first | omega | (simp at h1 ⊢; omega) | (simp at h1 h2 ⊢; omega)
                 intro v11 w11 ho11 hg11)
              | fail))
          all_goals
            have s9 := hb9.size
            have s10 := hg10.size
            have s11 := hg11.size
            simp at s9 s10 s11
            have hX : Below W.heap.size W w11 := by
              repeat' (first
                | exact Below.refl _ _
                | (refine Below.grown ?_ hg11 ?_ (fun b e => (ho10.base b e).1))
                | (refine Below.grown ?_ hg10 ?_ (fun b e => (ho9.base b e).1))
                | (refine Below.trans ?_ (hb9.mono ?_))
                | (refine Below.alloc ?_ ?_ _)
                | (refine Below.drew ?_)
                | omega
                | (simp; done)
                | (simp; omega))
            have hcont : Cont ((varL m).take k ++ [z ||| 128]) := by
              intro c hc
              rcases List.mem_append.1 hc with hc | hc
              · refine varL_form m m (Nat.le_refl _) c ?_
                rw [List.dropLast_eq_take, HK.out]
                exact hc
              · simp at hc; subst hc; exact or128_big z
            have hl9 : ((varL m).take k ++ [z ||| 128]).length = k + 1 := by rw [List.length_append, HTl.out]; rfl
            have hrl := rv_long _ hcont (by omega) (by omega)
            have HRL := Lib.hid hrl
            have hr11 := ho11.rd
            clear hrl hcont hg11 hg10 hb9 ho9 ho9a ho10 ho11 s9 s10
            go_wp2_with fail
            refine (rvar_zero _ _ _ hr11 (by rw [List.length_append, hl9]; simp; omega)).mono ?_
            rintro e w12 ⟨rfl, rfl⟩
            rw [HRL.out]
            unfold rvE
            go_wp2_with fail
            refine (first_any _).mono ?_
            rintro e w13 ⟨rfl, hb13⟩
            go_wp2_with fail
            go_ret
            exact ⟨rfl, (hBW.trans (hX.mono hBW.size)).trans (hb13.mono (Nat.le_trans hBW.size hX.size))⟩
        · have h7' : ((m : Int) != (n : Int)) = true := by rw [bne_iff_ne]; simpa using h7
          have h8' : ¬ ((varL m).length : Int) ≤ ((varL n).length : Int) := by simpa using h8
          go_quiet (fail)
          have hcI := HCI.out
          have hcx : (c : Int) ≤ (cx : Int) := by omega
          go_wp2_with fail
          refine (rvar_zero _ _ _ ((hrx.take c (by omega)).drewN nq) (by simp; omega)).mono ?_
          rintro e w6 ⟨rfl, rfl⟩
          rw [rv_cut m c hclt h81]
          unfold rvE
          go_wp2_with fail
          obtain ⟨W, hWe, hBW, hrW⟩ : ∃ W, W = w5.drewN nq ∧ Below w.heap.size w W ∧ Rd W (.slice (some ⟨bx, ox, none⟩) (varL m).length cx) (varL m) := ⟨_, rfl, Below.drewsN hB nq, hrx.drewN nq⟩
          rw [← hWe]
          clear hWe hx7 hrx hry
          have hlast := hrW.cells.2 ((varL m).length - 1) (by omega)
          obtain ⟨z, hz⟩ : ∃ z, z = (varL m)[(varL m).length - 1] := ⟨_, rfl⟩
          rw [← hz] at hlast
          unfold bv at hlast
          have HZ := Lib.hid hz; clear hz
          obtain ⟨k, hk⟩ : ∃ k, (varL m).length = k + 1 := ⟨(varL m).length - 1, by omega⟩
          have hkm : (varL m).length - 1 = k := by omega
          rw [hkm] at hlast
          rw [hk] at hrW ⊢
          have hw1 : IntKind.i64.wrap (((k + 1 : Nat) : Int) - 1) = (k : Int) := by rw [IntWalk.i64_in _ ⟨by omega, by omega⟩]; omega
          have hw2 : IntKind.i64.wrap ((k : Int) + 1 - 1) = (k : Int) := by rw [IntWalk.i64_in _ ⟨by omega, by omega⟩]; omega
          have hw3 : IntKind.i64.wrap (k : Int) = (k : Int) := IntWalk.i64_in _ ⟨by omega, by omega⟩
          have hi0 : (0 : Int) ≤ (k : Int) := by omega
          have hi2 : (k : Int) ≤ (cx : Int) := by omega
          have hi3 : (k : Int) < (k : Int) + 1 := by omega
          have hk8 : k + 1 ≤ 8 := by omega
          have HK := Lib.hid hk
          clear hk hkm
          have hT := (hrW.take k (by rw [HK.out]; omega)).drew1
          have hTl : ((varL m).take k).length = k := by rw [List.length_take, HK.out]; omega
          have hTle : ((varL m).take k).length ≤ 140737488355328 := by omega
          have HTl := Lib.hid hTl
          clear hTl
          have hbx : bx < W.heap.size := World.block_lt_of_cell? W _ hlast
          go_region_held3 (fun w' => w'.cell? ⟨bx, ox + k, none⟩ = some (.int .u8 (z.toNat : Int)))
            (first
              | go_keep
              | (rw [hb9.cell (p := ⟨bx, ox + k, none⟩) (by simp; omega)]; assumption)
              | (rw [hg10.cell_far ⟨bx, ox + k, none⟩ (by show bx < _; have := hb9.size; simp at this ⊢; omega) (fun e => by have := (ho9.base bx e.symm).1; omega)]; first | assumption | go_keep)
              | (rw [hg11.cell_far ⟨bx, ox + k, none⟩ (by show bx < _; have := hb9.size; have := hg10.size; simp at *; omega) (fun e => by have := (ho10.base bx e.symm).1; omega)]; first | assumption | go_keep))
            ((first
              | (go_at_call 14
                 refine (copy_any _ ((varL m).take k) _ ?_ hTle).mono ?_
                 · first | exact hT | exact hT.alloc _ | exact (hT.alloc _).alloc _
                 rintro e w9 ⟨v9, rfl, ho9a, hb9⟩
                 have ho9 := ho9a.mono (base' := W.heap.size) (by first | (simp; done) | (simp; omega) | omega))
              | (refine bt.stepAppend (by rfl) _ _ (by rfl) W.heap.size v9 ((varL m).take k) [z ||| 128] (by rfl) ?_ ?_ ?_ ?_ ?_
                 · first | exact ho9 | exact ho9.alloc _ | exact (ho9.alloc _).alloc _
                 · repeat (first | exact Rd.oneAt _ _ _ _ _ (or128_u8 z) (by simp) | apply Rd.alloc | refine Rd.below ?_ hb9 (Nat.le_refl _))
                 · simp; omega
                 · have := hb9.size
                   simp at this ⊢
                   omega
                 intro v10 w10 ho10 hg10)
              | (refine bt.stepAppend (by rfl) _ _ (by rfl) W.heap.size v10 ((varL m).take k ++ [z ||| 128]) [0] (by rfl) ?_ ?_ ?_ ?_ ?_
                 · first | exact ho10 | exact ho10.alloc _
                 · first
                   | exact Rd.oneAt _ _ _ _ _ rfl (by simp)
                   | (refine Rd.past ?_ hg10 ho9a ?_
                      · repeat (first | exact Rd.oneAt _ _ _ _ _ rfl (by simp) | apply Rd.alloc | refine Rd.below ?_ hb9 (Nat.le_refl _))
                      · first | (simp; done) | (simp; omega) | omega)
                   | fail
                 · simp; omega
                 · have h1 := hb9.size
                   have h2 := hg10.size
                   first | omega | (simp at h1 ⊢; omega) | (simp at h1 h2 ⊢; omega)
                 intro v11 w11 ho11 hg11)
              | fail))
          all_goals
            have s9 := hb9.size
            have s10 := hg10.size
            have s11 := hg11.size
            simp at s9 s10 s11
            have hX : Below W.heap.size W w11 := by
              repeat' (first
                | exact Below.refl _ _
                | (refine Below.grown ?_ hg11 ?_ (fun b e => (ho10.base b e).1))
                | (refine Below.grown ?_ hg10 ?_ (fun b e => (ho9.base b e).1))
                | (refine Below.trans ?_ (hb9.mono ?_))
                | (refine Below.alloc ?_ ?_ _)
                | (refine Below.drew ?_)
                | omega
                | (simp; done)
                | (simp; omega))
            have hcont : Cont ((varL m).take k ++ [z ||| 128]) := by
              intro c hc
              rcases List.mem_append.1 hc with hc | hc
              · refine varL_form m m (Nat.le_refl _) c ?_
                rw [List.dropLast_eq_take, HK.out]
                exact hc
              · simp at hc; subst hc; exact or128_big z
            have hl9 : ((varL m).take k ++ [z ||| 128]).length = k + 1 := by rw [List.length_append, HTl.out]; rfl
            have hrl := rv_long _ hcont (by omega) (by omega)
            have HRL := Lib.hid hrl
            have hr11 := ho11.rd
            clear hrl hcont hg11 hg10 hb9 ho9 ho9a ho10 ho11 s9 s10
            go_wp2_with fail
            refine (rvar_zero _ _ _ hr11 (by rw [List.length_append, hl9]; simp; omega)).mono ?_
            rintro e w12 ⟨rfl, rfl⟩
            rw [HRL.out]
            unfold rvE
            go_wp2_with fail
            refine (first_any _).mono ?_
            rintro e w13 ⟨rfl, hb13⟩
            go_wp2_with fail
            go_ret
            exact ⟨rfl, (hBW.trans (hX.mono hBW.size)).trans (hb13.mono (Nat.le_trans hBW.size hX.size))⟩
        · have h7' : ((m : Int) != (n : Int)) = true := by rw [bne_iff_ne]; simpa using h7
          have hy7 := fun q => bt.toString (w := w5.drewN q) (S := 9) Try.underlying9 ((hry.take (varL m).length (by omega)).drewN q)
          have h8' : ((varL m).length : Int) ≤ (cy : Int) := by omega
          go_quiet (fail)
          have hcI := HCI.out
          have hcx : (c : Int) ≤ (cx : Int) := by omega
          go_wp2_with fail
          refine (rvar_zero _ _ _ ((hrx.take c (by omega)).drewN nq) (by simp; omega)).mono ?_
          rintro e w6 ⟨rfl, rfl⟩
          rw [rv_cut m c hclt h81]
          unfold rvE
          go_wp2_with fail
          obtain ⟨W, hWe, hBW, hrW⟩ : ∃ W, W = w5.drewN nq ∧ Below w.heap.size w W ∧ Rd W (.slice (some ⟨bx, ox, none⟩) (varL m).length cx) (varL m) := ⟨_, rfl, Below.drewsN hB nq, hrx.drewN nq⟩
          rw [← hWe]
          clear hWe hx7 hy7 hrx hry
          have hlast := hrW.cells.2 ((varL m).length - 1) (by omega)
          obtain ⟨z, hz⟩ : ∃ z, z = (varL m)[(varL m).length - 1] := ⟨_, rfl⟩
          rw [← hz] at hlast
          unfold bv at hlast
          have HZ := Lib.hid hz; clear hz
          obtain ⟨k, hk⟩ : ∃ k, (varL m).length = k + 1 := ⟨(varL m).length - 1, by omega⟩
          have hkm : (varL m).length - 1 = k := by omega
          rw [hkm] at hlast
          rw [hk] at hrW ⊢
          have hw1 : IntKind.i64.wrap (((k + 1 : Nat) : Int) - 1) = (k : Int) := by rw [IntWalk.i64_in _ ⟨by omega, by omega⟩]; omega
          have hw2 : IntKind.i64.wrap ((k : Int) + 1 - 1) = (k : Int) := by rw [IntWalk.i64_in _ ⟨by omega, by omega⟩]; omega
          have hw3 : IntKind.i64.wrap (k : Int) = (k : Int) := IntWalk.i64_in _ ⟨by omega, by omega⟩
          have hi0 : (0 : Int) ≤ (k : Int) := by omega
          have hi2 : (k : Int) ≤ (cx : Int) := by omega
          have hi3 : (k : Int) < (k : Int) + 1 := by omega
          have hk8 : k + 1 ≤ 8 := by omega
          have HK := Lib.hid hk
          clear hk hkm
          have hT := (hrW.take k (by rw [HK.out]; omega)).drew1
          have hTl : ((varL m).take k).length = k := by rw [List.length_take, HK.out]; omega
          have hTle : ((varL m).take k).length ≤ 140737488355328 := by omega
          have HTl := Lib.hid hTl
          clear hTl
          have hbx : bx < W.heap.size := World.block_lt_of_cell? W _ hlast
          go_region_held3 (fun w' => w'.cell? ⟨bx, ox + k, none⟩ = some (.int .u8 (z.toNat : Int)))
            (first
              | go_keep
              | (rw [hb9.cell (p := ⟨bx, ox + k, none⟩) (by simp; omega)]; assumption)
              | (rw [hg10.cell_far ⟨bx, ox + k, none⟩ (by show bx < _; have := hb9.size; simp at this ⊢; omega) (fun e => by have := (ho9.base bx e.symm).1; omega)]; first | assumption | go_keep)
              | (rw [hg11.cell_far ⟨bx, ox + k, none⟩ (by show bx < _; have := hb9.size; have := hg10.size; simp at *; omega) (fun e => by have := (ho10.base bx e.symm).1; omega)]; first | assumption | go_keep))
            ((first
              | (go_at_call 14
                 refine (copy_any _ ((varL m).take k) _ ?_ hTle).mono ?_
                 · first | exact hT | exact hT.alloc _ | exact (hT.alloc _).alloc _
                 rintro e w9 ⟨v9, rfl, ho9a, hb9⟩
                 have ho9 := ho9a.mono (base' := W.heap.size) (by first | (simp; done) | (simp; omega) | omega))
              | (refine bt.stepAppend (by rfl) _ _ (by rfl) W.heap.size v9 ((varL m).take k) [z ||| 128] (by rfl) ?_ ?_ ?_ ?_ ?_
                 · first | exact ho9 | exact ho9.alloc _ | exact (ho9.alloc _).alloc _
                 · repeat (first | exact Rd.oneAt _ _ _ _ _ (or128_u8 z) (by simp) | apply Rd.alloc | refine Rd.below ?_ hb9 (Nat.le_refl _))
                 · simp; omega
                 · have := hb9.size
                   simp at this ⊢
                   omega
                 intro v10 w10 ho10 hg10)
              | (refine bt.stepAppend (by rfl) _ _ (by rfl) W.heap.size v10 ((varL m).take k ++ [z ||| 128]) [0] (by rfl) ?_ ?_ ?_ ?_ ?_
                 · first | exact ho10 | exact ho10.alloc _
                 · first
                   | exact Rd.oneAt _ _ _ _ _ rfl (by simp)
                   | (refine Rd.past ?_ hg10 ho9a ?_
                      · repeat (first | exact Rd.oneAt _ _ _ _ _ rfl (by simp) | apply Rd.alloc | refine Rd.below ?_ hb9 (Nat.le_refl _))
                      · first | (simp; done) | (simp; omega) | omega)
                   | fail
                 · simp; omega
                 · have h1 := hb9.size
                   have h2 := hg10.size
                   first | omega | (simp at h1 ⊢; omega) | (simp at h1 h2 ⊢; omega)
                 intro v11 w11 ho11 hg11)
              | fail))
          all_goals
            have s9 := hb9.size
            have s10 := hg10.size
            have s11 := hg11.size
            simp at s9 s10 s11
            have hX : Below W.heap.size W w11 := by
              repeat' (first
                | exact Below.refl _ _
                | (refine Below.grown ?_ hg11 ?_ (fun b e => (ho10.base b e).1))
                | (refine Below.grown ?_ hg10 ?_ (fun b e => (ho9.base b e).1))
                | (refine Below.trans ?_ (hb9.mono ?_))
                | (refine Below.alloc ?_ ?_ _)
                | (refine Below.drew ?_)
                | omega
                | (simp; done)
                | (simp; omega))
            have hcont : Cont ((varL m).take k ++ [z ||| 128]) := by
              intro c hc
              rcases List.mem_append.1 hc with hc | hc
              · refine varL_form m m (Nat.le_refl _) c ?_
                rw [List.dropLast_eq_take, HK.out]
                exact hc
              · simp at hc; subst hc; exact or128_big z
            have hl9 : ((varL m).take k ++ [z ||| 128]).length = k + 1 := by rw [List.length_append, HTl.out]; rfl
            have hrl := rv_long _ hcont (by omega) (by omega)
            have HRL := Lib.hid hrl
            have hr11 := ho11.rd
            clear hrl hcont hg11 hg10 hb9 ho9 ho9a ho10 ho11 s9 s10
            go_wp2_with fail
            refine (rvar_zero _ _ _ hr11 (by rw [List.length_append, hl9]; simp; omega)).mono ?_
            rintro e w12 ⟨rfl, rfl⟩
            rw [HRL.out]
            unfold rvE
            go_wp2_with fail
            refine (first_any _).mono ?_
            rintro e w13 ⟨rfl, hb13⟩
            go_wp2_with fail
            go_ret
            exact ⟨rfl, (hBW.trans (hX.mono hBW.size)).trans (hb13.mono (Nat.le_trans hBW.size hX.size))⟩
      · omega
    · omega
  · clear cx4 cy4
    rcases hU with ⟨rfl, u1, u2, rfl⟩ | ⟨rfl, u1, rfl⟩
    all_goals rcases hV with ⟨rfl, v1, v2, rfl⟩ | ⟨rfl, v1, rfl⟩
    · have hneg : a2 < 0 := by omega
      have hp1 := varL_pos a0.toNat
      have hp2 := varL_pos a1.toNat
      have u3 : ¬ a0 < 0 := by omega
      have v3 : ¬ a1 < 0 := by omega
      have u4 : a0 < 72057594037927936 := by omega
      have v4 : a1 < 72057594037927936 := by omega
      go_wp2_with fail
      refine (first_any _).mono ?_
      rintro e w6 ⟨rfl, hb6⟩
      go_wp2_with fail
      go_ret
      exact ⟨by first | rfl | (simp; omega), hB.trans (hb6.mono hsz)⟩
    · have hp1 := varL_pos a0.toNat
      have u3 : ¬ a0 < 0 := by omega
      have u4 : a0 < 72057594037927936 := by omega
      rcases v1 with v1 | v1
      all_goals
        go_wp2_with fail
        refine (first_any _).mono ?_
        rintro e w6 ⟨rfl, hb6⟩
        go_wp2_with fail
        go_ret
        exact ⟨by first | rfl | (simp; omega), hB.trans (hb6.mono hsz)⟩
    · have hp2 := varL_pos a1.toNat
      have v3 : ¬ a1 < 0 := by omega
      have v4 : a1 < 72057594037927936 := by omega
      rcases u1 with u1 | u1
      all_goals
        go_wp2_with fail
        refine (first_any _).mono ?_
        rintro e w6 ⟨rfl, hb6⟩
        go_wp2_with fail
        go_ret
        exact ⟨by first | rfl | (simp; omega), hB.trans (hb6.mono hsz)⟩
    · rcases u1 with u1 | u1
      all_goals rcases v1 with v1 | v1
      all_goals
        go_wp2_with fail
        refine (first_any _).mono ?_
        rintro e w6 ⟨rfl, hb6⟩
        go_wp2_with fail
        go_ret
        exact ⟨by first | rfl | (simp; omega), hB.trans (hb6.mono hsz)⟩
end Go.Proofs.Ytaelkgebnaeimaa
