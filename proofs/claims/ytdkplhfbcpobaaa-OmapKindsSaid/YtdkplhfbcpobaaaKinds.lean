/- OmapKinds, walked. -/
import Derived.Test.YtdkplhfbcpobaaaKindsMath
import Derived.Test.YtdkplhfbcpobaaaFirstO
import Derived.Deep.RegionHeld3
namespace Go.Proofs.Ytdkplhfbcpobaaa
open Go.RowKit

set_option maxRecDepth 100000 in
set_option maxHeartbeats 8000000 in
theorem kinds_walk (v : Value) (l : List Int) (more : Int) (W : World) (hv : RdV W v (l.map (Value.int .i64))) (hl : ∀ x ∈ l, -9223372036854775808 ≤ x ∧ x ≤ 9223372036854775807) (hmore : -9223372036854775808 ≤ more ∧ more ≤ 9223372036854775807) :
    Calls Try.prog 8 #[v, .int .i64 more] W fun e w' => e = .returned (.bool true) ∧ Below W.heap.size W w' := by
  obtain ⟨av, cv, rfl, hlen, hcells⟩ := hv
  simp only [List.length_map] at hlen ⊢
  have HC := Lib.hid hcells
  have HL := Lib.hid hl
  clear hcells hl
  by_cases h100 : l.length ≤ 100
  · have g0 : ¬ ((100 : Int) < (l.length : Int)) := by omega
    go_enter Try.func8, Try.ntmps8
    go_wp2_with fail
    refine (first_any W).mono ?_
    rintro e w1 ⟨rfl, hb1⟩
    have HB1 := Lib.hid hb1
    clear hb1
    go_wp2_with fail
    refine (newIL_any w1).mono ?_
    rintro e w2 ⟨b, rfl, hb, hm2, hb2⟩
    have HB2 : Hid (Below W.heap.size W w2 ∧ MP w2 b .nil ∧ W.heap.size ≤ b) := Lib.hid ⟨HB1.out.trans (hb2.mono HB1.out.size), hm2, by rw [hb]; exact HB1.out.size⟩
    clear hb hm2 hb2 HB1
    go_wp2_with fail
    go_loopw [6] (fun i wr => ∃ (k : Nat) (t : Tr), k ≤ l.length ∧ i = .int .i64 (k : Int) ∧ Hid (Below W.heap.size W wr ∧ MP wr b t ∧ W.heap.size ≤ b ∧ KInv l wr k t)) (fun i _ => l.length - (intOf i).toNat)
    case atStart => exact ⟨0, .nil, Nat.zero_le _, rfl, Lib.hid ⟨HB2.out.1, HB2.out.2.1, HB2.out.2.2, ⟨trivial, trivial, Nat.le_refl _, Nat.le_refl _, fun j _ h => absurd h (Nat.not_lt_zero _)⟩⟩⟩
    case round =>
      obtain ⟨k, t, hk, rfl, HR⟩ := hrel
      by_cases hlt : k < l.length
      · have g1 : (k : Int) < (l.length : Int) := by omega
        have g2 : (0 : Int) ≤ (k : Int) := by omega
        obtain ⟨bA, oA, rfl, hA⟩ := HC.out (by intro e; simp at e; rw [e] at hlt; simp at hlt)
        obtain ⟨x, hx⟩ : ∃ x, x = l[k] := ⟨_, rfl⟩
        have c0 := hA k (by simpa using hlt)
        simp only [List.getElem_map] at c0
        rw [← hx] at c0
        have hlA := World.block_lt_of_cell? W _ c0
        have c1 : wr.cell? ⟨bA, oA + k, none⟩ = some (.int .i64 x) := (HR.out.1.cell (p := ⟨bA, oA + k, none⟩) hlA).trans c0
        have HX := Lib.hid hx
        obtain ⟨W0, hW0⟩ : ∃ W0, W0 = (wr.alloc (.cells #[.int .i64 (k : Int), .int .i64 x] 3)).drew := ⟨_, rfl⟩
        have HW0 : Hid (Below W.heap.size W W0 ∧ MP W0 b t ∧ W.heap.size ≤ b ∧ KInv l W0 k t ∧ Two W0 (.slice (some ⟨wr.heap.size, 0, none⟩) 2 2) (k : Int) x) := by
          have hd : Below wr.heap.size wr W0 := by rw [hW0]; exact (below_alloc wr _).trans (Below.drewsN (Below.refl _ _) 1)
          exact Lib.hid ⟨HR.out.1.trans (hd.mono HR.out.1.size), HR.out.2.1.below hd, HR.out.2.2.1, HR.out.2.2.2.below hd, _, rfl, by rw [hW0]; exact heap_alloc_new wr _⟩
        have CP : Hid (Calls Try.prog 39 #[.pointer (some ⟨b, 0, none⟩), .int .i64 x, .slice (some ⟨wr.heap.size, 0, none⟩) 2 2] W0 (MapPost b (putT (.int .i64 x) (.slice (some ⟨wr.heap.size, 0, none⟩) 2 2) t) (newT (.int .i64 x) t) W0)) :=
          Lib.hid (by
            obtain ⟨h1, h2, h3, h4, _⟩ := HW0.out
            have := h4.ht
            have := h4.len
            exact mputIL_any b _ _ t W0 h2 ⟨x, rfl, by rw [HX.out]; exact HL.out _ (List.getElem_mem hlt)⟩ ⟨_, _, _, rfl⟩ h4.ws (by omega) (by omega))
        have HKEEP : Hid (∀ w', Below b W0 w' → w'.cell? ⟨bA, oA + k, none⟩ = some (.int .i64 x)) := Lib.hid (fun w' h => by
          have hd : Below wr.heap.size wr W0 := by rw [hW0]; exact (below_alloc wr _).trans (Below.drewsN (Below.refl _ _) 1)
          rw [h.cell (p := ⟨bA, oA + k, none⟩) (by have := HW0.out.2.2.1; show bA < b; have h3 : bA < W.heap.size := hlA; omega), hd.cell (p := ⟨bA, oA + k, none⟩) (World.block_lt_of_cell? wr _ c1)]
          exact c1)
        rw [hW0] at CP HW0 HKEEP
        clear hA c0 hx hlA HC HB2 HR hW0
        go_wp2_with fail
        go_region_held3 (fun w' => w'.cell? ⟨bA, oA + k, none⟩ = some (.int .i64 x))
          (first
            | (exact c1)
            | (exact HKEEP.out _ hb3)
            | go_keep)
          ((first
            | (go_at_call 39; refine CP.out.mono ?_; rintro e w3 ⟨rfl, hm3, ho3, hb3⟩)
            | fail))
        all_goals
          have HN : Hid (Below W.heap.size W w3 ∧ MP w3 b (putT (.int .i64 x) (.slice (some ⟨wr.heap.size, 0, none⟩) 2 2) t) ∧ W.heap.size ≤ b ∧ KInv l w3 (k + 1) (putT (.int .i64 x) (.slice (some ⟨wr.heap.size, 0, none⟩) 2 2) t)) := by
            obtain ⟨h1, h2, h3, h4, h5⟩ := HW0.out
            refine Lib.hid ⟨h1.trans (hb3.mono h3), hm3, h3, ?_⟩
            have := KInv.put (v := .slice (some ⟨wr.heap.size, 0, none⟩) 2 2) h4 HL.out hlt h2 ho3 ⟨_, _, _, rfl⟩ (by rw [← HX.out]; exact h5)
            rw [← HX.out] at this
            exact this
          clear hm3 ho3 hb3
          go_wp2_with fail
          go_roundw
          case rel => exact ⟨k + 1, _, by omega, by go_num, HN⟩
          case measure => simp [intOf]; omega
      · obtain rfl : k = l.length := by omega
        have g1 : ¬ (l.length : Int) < (l.length : Int) := by omega
        go_wp2_with fail
        refine (copyIL_any b t wr HR.out.2.1).mono ?_
        rintro e w3 ⟨c, rfl, hc, hmc, hbc⟩
        have HR3 : Hid (Below W.heap.size W w3 ∧ MP w3 b t ∧ MP w3 c t ∧ W.heap.size ≤ b ∧ c ≠ b ∧ KInv l w3 l.length t) := by
          obtain ⟨h1, h2, h3, h4⟩ := HR.out
          have := h2.lt
          exact Lib.hid ⟨h1.trans (hbc.mono h1.size), h2.below hbc, hmc, h3, by omega, h4.below hbc⟩
        have CLen := Lib.hid (fun w (h : MP w c t) => lenIL_any c t w h)
        obtain ⟨nt, hnt⟩ : ∃ nt, nt = (prs t).length := ⟨_, rfl⟩
        rw [← hnt] at CLen
        clear hc hmc hbc HR HB2 hnt
        go_wp2_with fail
        refine (CLen.out w3 HR3.out.2.2.1).mono ?_
        rintro e w4 ⟨rfl, hw4⟩
        subst hw4
        go_wp2_with fail
        go_loopw [9] (fun i wr2 => ∃ k n : Nat, k ≤ l.length ∧ i = .int .i64 (k : Int) ∧ wr2 = w4.drewN n) (fun i _ => l.length - (intOf i).toNat)
        case atStart => exact ⟨0, 0, Nat.zero_le _, rfl, rfl⟩
        case round =>
          obtain ⟨k, n, hk, rfl, rfl⟩ := hrel
          by_cases hlt : k < l.length
          · have g1 : (k : Int) < (l.length : Int) := by omega
            have g2 : (0 : Int) ≤ (k : Int) := by omega
            obtain ⟨bA, oA, rfl, hA⟩ := HC.out (by intro e; simp at e; rw [e] at hlt; simp at hlt)
            obtain ⟨hB, hmb, hmc, hbb, hcb, hK⟩ := HR3.out
            obtain ⟨m, v, hkm, hml, hlm, hg, g, rfl, hcg⟩ := hK.got k hlt hlt
            have hAt : ∀ i (h : i < l.length), w4.cell? ⟨bA, oA + i, none⟩ = some (.int .i64 l[i]) := fun i h => by
              have c0 := hA i (by simpa using h)
              simp only [List.getElem_map] at c0
              exact (hB.cell (p := ⟨bA, oA + i, none⟩) (World.block_lt_of_cell? W _ c0)).trans c0
            have hlm' : l[m] = l[k] := by
              rw [List.getElem?_eq_getElem hml] at hlm
              simpa using hlm
            have c1 := hAt k hlt
            have c2 := hAt m hml
            rw [hlm'] at c2
            obtain ⟨x, hx⟩ : ∃ x, x = l[k] := ⟨_, rfl⟩
            have hks : KSIL (.int .i64 l[k]) := ⟨_, rfl, HL.out _ (List.getElem_mem hlt)⟩
            have CG : Hid (Calls Try.prog 42 #[.pointer (some ⟨c, 0, none⟩), .int .i64 x] (w4.drewN n) fun e w' => e = .returned (.tuple #[.slice (some ⟨g, 0, none⟩) 2 2, .bool true]) ∧ w' = w4.drewN n) := by
              have := mgetIL_any c (.int .i64 l[k]) t (w4.drewN n) (hmc.below (Below.drewsN (Below.refl _ _) n)) hks hK.ws
              rw [getT_eq ordIL hks hK.ws hK.rs, hg, ← hx] at this
              exact Lib.hid this
            have c3 : w4.cell? ⟨g, 0, none⟩ = some (.int .i64 (m : Int)) := by simp [World.cell?, hcg]
            have c4 : w4.cell? ⟨g, 1, none⟩ = some (.int .i64 x) := by simp [World.cell?, hcg, hx]
            rw [← hx] at c1 c2
            have t1 : (x == x) = true := by simp
            have t2 : ¬ (m : Int) < (k : Int) := by omega
            have t3 : ¬ (l.length : Int) ≤ (m : Int) := by omega
            have t4 : (m : Int) < (l.length : Int) := by omega
            have t5 : (0 : Int) ≤ (m : Int) := by omega
            have t6 : decide ((m : Int) < (k : Int)) = false := by simpa using t2
            have t7 : decide ((l.length : Int) ≤ (m : Int)) = false := by simpa using t3
            clear hAt hA hB hmb hmc hbb hcb hK hg hcg hlm hlm' hx hks HC
            go_wp2_with fail
            refine CG.out.mono ?_
            rintro e w5 ⟨rfl, rfl⟩
            go_wp2_with fail
            go_quiet (fail)
            go_wp2_with fail
            go_roundw
            case rel => exact ⟨k + 1, n + nq, by omega, by go_num, rfl⟩
            case measure => simp [intOf]; omega
          · obtain rfl : k = l.length := by omega
            have g1 : ¬ (l.length : Int) < (l.length : Int) := by omega
            obtain ⟨w5, hw5⟩ : ∃ w5, w5 = w4.drewN n := ⟨_, rfl⟩
            rw [← hw5]
            have hd : Below w4.heap.size w4 w5 := by rw [hw5]; exact Below.drewsN (Below.refl _ _) n
            obtain ⟨hB, hmb, hmc, hbb, hcb, hK⟩ := HR3.out
            have hks : KSIL (.int .i64 more) := ⟨_, rfl, hmore⟩
            have hvs : VSIL (.slice none 0 0) := ⟨_, _, _, rfl⟩
            have hht := hK.ht
            have hpl := hK.len
            have CPut := mputIL_any b (.int .i64 more) (.slice none 0 0) t w5 (hmb.below hd) hks hvs hK.ws (by omega) (by omega)
            have hz := newT_get (.int .i64 more) t
            obtain ⟨R, hR⟩ : ∃ R, R = getT (.int .i64 more) t := ⟨_, rfl⟩
            have hp2 := WS.put hks hvs hK.ws
            have hl2 := len_put (.int .i64 more) (.slice none 0 0) t
            have CGet : ∀ w', MP w' c t → Calls Try.prog 42 #[.pointer (some ⟨c, 0, none⟩), .int .i64 more] w' fun e w'' => e = getEIL R ∧ w'' = w' := by
              intro w' h
              rw [hR]
              exact mgetIL_any c (.int .i64 more) t w' h hks hK.ws
            have CDel : ∀ w', MP w' b (putT (.int .i64 more) (.slice none 0 0) t) → Calls Try.prog 43 #[.pointer (some ⟨b, 0, none⟩), .int .i64 more] w' (MapPost b (remT (.int .i64 more) (putT (.int .i64 more) (.slice none 0 0) t)) true w') := by
              intro w' h
              have := mdelIL_any b (.int .i64 more) _ w' h hks hp2.1 (by have := hp2.2; omega) (by rw [hl2]; split <;> omega)
              rw [has_put hks hvs hK.ws hK.rs] at this
              exact this
            rw [hz, ← hR] at CPut
            obtain ⟨t2, ht2⟩ : ∃ t2, t2 = putT (.int .i64 more) (.slice none 0 0) t := ⟨_, rfl⟩
            rw [← ht2] at CPut CDel
            obtain ⟨t3, ht3⟩ : ∃ t3, t3 = remT (.int .i64 more) t2 := ⟨_, rfl⟩
            rw [← ht3] at CDel
            have CPut := Lib.hid CPut
            have CGet := Lib.hid CGet
            have CDel := Lib.hid CDel
            have HM5 : Hid (Below W.heap.size W w5 ∧ MP w5 c t ∧ c ≠ b ∧ W.heap.size ≤ b ∧ MP w5 b t) := Lib.hid ⟨hB.trans (hd.mono hB.size), hmc.below hd, hcb, hbb, hmb.below hd⟩
            clear hd hB hmb hmc hbb hcb hK hks hvs hht hpl hz hp2 hl2 ht2 ht3 hw5 hR HR3
            cases R with
            | none =>
              go_wp2_with fail
              refine CPut.out.mono ?_
              rintro e w6 ⟨rfl, hm6, ho6, hb6⟩
              have HM6 : Hid (Below W.heap.size W w6 ∧ MP w6 c t ∧ c ≠ b ∧ W.heap.size ≤ b ∧ MP w6 b t2) := by
                obtain ⟨h1, h2, h3, h4, h5⟩ := HM5.out
                obtain ⟨u, v, T, h6⟩ := h5.two
                exact Lib.hid ⟨h1.trans (hb6.mono h4), h2.only h6 ho6 h3, h3, h4, hm6⟩
              clear hm6 ho6 hb6 HM5 CPut
              go_wp2_with fail
              refine (CGet.out w6 HM6.out.2.1).mono ?_
              rintro e w7 ⟨rfl, hw7⟩
              subst hw7
              unfold getEIL
              go_wp2_with fail
              refine (CDel.out w7 HM6.out.2.2.2.2).mono ?_
              rintro e w8 ⟨rfl, hm8, ho8, hb8⟩
              have HM8 : Hid (Below W.heap.size W w8 ∧ MP w8 c t) := by
                obtain ⟨h1, h2, h3, h4, h5⟩ := HM6.out
                obtain ⟨u, v, T, h6⟩ := h5.two
                exact Lib.hid ⟨h1.trans (hb8.mono h4), h2.only h6 ho8 h3⟩
              clear hm8 ho8 hb8 HM6 CDel CGet
              go_wp2_with fail
              refine (first_any w8).mono ?_
              rintro e w9 ⟨rfl, hb9⟩
              have HM9 : Hid (Below W.heap.size W w9 ∧ MP w9 c t) := Lib.hid ⟨HM8.out.1.trans (hb9.mono HM8.out.1.size), HM8.out.2.below hb9⟩
              clear hb9 HM8
              go_wp2_with fail
              refine (CLen.out w9 HM9.out.2).mono ?_
              rintro e w10 ⟨rfl, hw10⟩
              subst hw10
              go_wp2_with fail
              go_ret
              exact ⟨by simp, HM9.out.1⟩
            | some y =>
              go_wp2_with fail
              refine CPut.out.mono ?_
              rintro e w6 ⟨rfl, hm6, ho6, hb6⟩
              have HM6 : Hid (Below W.heap.size W w6 ∧ MP w6 c t ∧ c ≠ b ∧ W.heap.size ≤ b ∧ MP w6 b t2) := by
                obtain ⟨h1, h2, h3, h4, h5⟩ := HM5.out
                obtain ⟨u, v, T, h6⟩ := h5.two
                exact Lib.hid ⟨h1.trans (hb6.mono h4), h2.only h6 ho6 h3, h3, h4, hm6⟩
              clear hm6 ho6 hb6 HM5 CPut
              go_wp2_with fail
              refine (CGet.out w6 HM6.out.2.1).mono ?_
              rintro e w7 ⟨rfl, hw7⟩
              subst hw7
              unfold getEIL
              go_wp2_with fail
              refine (CDel.out w7 HM6.out.2.2.2.2).mono ?_
              rintro e w8 ⟨rfl, hm8, ho8, hb8⟩
              have HM8 : Hid (Below W.heap.size W w8 ∧ MP w8 c t) := by
                obtain ⟨h1, h2, h3, h4, h5⟩ := HM6.out
                obtain ⟨u, v, T, h6⟩ := h5.two
                exact Lib.hid ⟨h1.trans (hb8.mono h4), h2.only h6 ho8 h3⟩
              clear hm8 ho8 hb8 HM6 CDel CGet
              go_wp2_with fail
              refine (first_any w8).mono ?_
              rintro e w9 ⟨rfl, hb9⟩
              have HM9 : Hid (Below W.heap.size W w9 ∧ MP w9 c t) := Lib.hid ⟨HM8.out.1.trans (hb9.mono HM8.out.1.size), HM8.out.2.below hb9⟩
              clear hb9 HM8
              go_wp2_with fail
              refine (CLen.out w9 HM9.out.2).mono ?_
              rintro e w10 ⟨rfl, hw10⟩
              subst hw10
              go_wp2_with fail
              go_ret
              exact ⟨by simp, HM9.out.1⟩
  · have g0 : (100 : Int) < (l.length : Int) := by omega
    go_enter Try.func8, Try.ntmps8
    go_wp2_with fail
    refine (first_any W).mono ?_
    rintro e w1 ⟨rfl, hb1⟩
    have HB1 := Lib.hid hb1
    clear hb1
    go_wp2_with fail
    refine (newIL_any w1).mono ?_
    rintro e w2 ⟨b, rfl, hb, hm2, hb2⟩
    have HB2 : Hid (Below W.heap.size W w2) := Lib.hid (HB1.out.trans (hb2.mono HB1.out.size))
    clear hb hm2 hb2 HB1
    go_wp2_with fail
    refine (first_any w2).mono ?_
    rintro e w3 ⟨rfl, hb3⟩
    have HB3 : Hid (Below W.heap.size W w3) := Lib.hid (HB2.out.trans (hb3.mono HB2.out.size))
    clear hb3 HB2
    go_wp2_with fail
    go_ret
    exact ⟨rfl, HB3.out⟩
end Go.Proofs.Ytdkplhfbcpobaaa
