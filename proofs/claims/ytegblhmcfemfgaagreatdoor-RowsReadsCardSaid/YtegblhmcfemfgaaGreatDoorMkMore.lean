import Derived.Test.YtegblhmcfemfgaaGreatDoorMkMay
import Derived.Test.YtegblhmcfemfgaaGreatDoorQuietB
import Derived.Test.YtegblhmcfemfgaaGreatDoorAppN
import Derived.Lib.SliceRun
set_option maxRecDepth 100000
set_option maxHeartbeats 4000000
namespace Go.Proofs.YtegblhmcfemfgaaGreatDoor
open Go.RowKit
theorem infoR : (Tryz.prog.info? 91).map (fun i => (i.zero, i.size, i.bytes)) = some (some (.agg #[.int .i64 0, .int .i64 0]), 2, 16) := by kernel_rfl
theorem infoMk : (Tryz.prog.info? 67).map (fun i => (i.zero, i.size, i.bytes)) = some (some (.agg #[.int .i64 0, .int .i64 0]), 2, 16) := by kernel_rfl
def MkAt (w W : World) (v : Value) (L : List MarkT) (k : Nat) : Prop := W.ownsRow w.heap.size 91 2 v k ((L.take k).map cellsM).flatten ∧ Below w.heap.size w W
theorem marks_any (v : Value) (L : List MarkT) (w : World) (hv : RdMk w v L) (hl : L.length ≤ 1000000) :
 Calls Tryz.prog 19 #[v] w fun e w' => ∃ u, e = .returned u ∧ RdMk w' u L ∧ Below w.heap.size w w' := by
 obtain ⟨av, cv, rfl, _⟩ := hv.form
 obtain ⟨i0, hi, hz0, hz1, hz2⟩ := info_parts infoR
 have HV := Lib.hid hv
 clear hv
 go_enter Tryz.func19, Tryz.ntmps19
 go_wp2_with fail
 go_loopw [3, 4] (fun o i wr => ∃ k : Nat, k ≤ L.length ∧ i = .int .i64 (k : Int) ∧ Hid (MkAt w wr o L k)) (fun _ i _ => L.length - (intOf i).toNat)
 case atStart => exact ⟨0, Nat.zero_le _, rfl, Lib.hid ⟨World.ownsRow_nil w _ _ 2, Below.refl _ _⟩⟩
 case round =>
  obtain ⟨k, hk, rfl, HR⟩ := hrel
  obtain ⟨vo, hvo⟩ : ∃ v, v = u3 := ⟨_, rfl⟩
  subst hvo
  by_cases hlt : k < L.length
  · have g3 : (k : Int) < (L.length : Int) := by omega
    have g4 : (0 : Int) ≤ (k : Int) := by omega
    obtain ⟨bA, oA, rfl, c0, c1⟩ := HV.out.get hlt
    obtain ⟨⟨ck, cv1⟩, hc⟩ : ∃ c, c = L[k] := ⟨_, rfl⟩
    rw [← hc] at c0 c1
    dsimp only at c0 c1
    have hlA := World.block_lt_of_cell? w _ c0
    have HS := Lib.hid (show ((L.take (k + 1)).map cellsM).flatten = ((L.take k).map cellsM).flatten ++ [.int .i64 ck, .int .i64 cv1] by
     rw [List.take_succ_eq_append_getElem hlt, ← hc]; simp [cellsM])
    have HK3 : Hid (∀ W, Below w.heap.size w W → W.cell? ⟨bA, oA + k * 2, none⟩ = some (.int .i64 ck) ∧ W.cell? ⟨bA, oA + k * 2 + 1, none⟩ = some (.int .i64 cv1)) := Lib.hid (fun W h => by
     have h3 : bA < w.heap.size := hlA
     rw [h.cell (p := ⟨bA, oA + k * 2, none⟩) h3, h.cell (p := ⟨bA, oA + k * 2 + 1, none⟩) h3]
     exact ⟨c0, c1⟩)
    have HW0 : Hid (MkAt w wr.drew vo L k) := Lib.hid ⟨HR.out.1, Below.drewsN HR.out.2 1⟩
    obtain ⟨d0, d1⟩ := HK3.out wr.drew HW0.out.2
    have HD := Lib.hid (And.intro d0 d1)
    have hsz : w.heap.size ≤ wr.heap.size := HR.out.2.size
    have HA : Hid (Below w.heap.size w (wr.alloc (.cells #[.int .i64 ck, .int .i64 cv1] 91)).drew) := Lib.hid (Below.drewsN (HR.out.2.alloc HR.out.2.size _) 1)
    clear c0 c1 hc hlA HV HR
    go_wp2_with fail
    go_region_held3 (fun W => W.cell? ⟨bA, oA + k * 2, none⟩ = some (.int .i64 ck) ∧ W.cell? ⟨bA, oA + k * 2 + 1, none⟩ = some (.int .i64 cv1))
     (first
       | (exact HK3.out _ HN.out.2)
       | (exact HK3.out _ HA.out)
       | (exact HD.out)
       | go_keep)
     ((first
       | (refine step_appendN (by rfl) _ _ 51 (by rfl) (size := 2) (bytes := 16) Tryz.underlying51 hi hz0 hz1 hz2 rfl (by decide) (by rfl) (World.ownsRow.alloc HW0.out.1 _) [.int .i64 ck, .int .i64 cv1] (by rfl) (heap_alloc_new _ _) rfl ?_ ?_ ?_ ?_ ?_
          · intro u hu
            simp only [List.mem_cons, List.not_mem_nil, or_false] at hu
            rcases hu with rfl | rfl <;> rfl
          · unfold maxLen; omega
          · omega
          · simp; omega
          intro v7 w7 ho7 hg7
          have HN : Hid (MkAt w w7 v7 L (k + 1)) := Lib.hid ⟨by rw [HS.out]; exact ho7, ((HW0.out.2.alloc HW0.out.2.size _).grown hg7 (by simp; omega) (fun j ej => (World.ownsRow.lt HW0.out.1 j ej).1))⟩
          clear ho7 hg7)
       | fail))
    all_goals
     go_wp2_with fail
     go_roundw
     case rel => exact ⟨k + 1, by omega, by go_num, HN⟩
     case measure => simp [intOf]; omega
  obtain rfl : k = L.length := by omega
  have g3 : ¬ (L.length : Int) < (L.length : Int) := by omega
  have hR : RdMk wr vo L := by
   have h := HR.out.1
   rw [List.take_length] at h
   exact RdMk.of_row h
  have HRR := Lib.hid hR
  clear hR HV
  go_wp2_with fail
  go_ret
  exact ⟨_, rfl, HRR.out, HR.out.2⟩
theorem rmk_neq (c : MarkT) (W : World) : (binOp .neq 91 (encM c) (encM c)).run Tryz.prog W = .ok (.bool false) W := by
 have hS : Tryz.prog.underlying 91 = some (.struct (Tryz.prog.fieldsOf 91)) := by kernel_rfl
 have hp : Tryz.prog.stoodInHeld 91 = false := by kernel_rfl
 unfold encM
 rw [run_neq_struct, show (10000 : Nat) = 9999 + 1 from rfl, run_equalIn_agg W 9999 91 _ _ hS hp]
 simp only [Program.fieldsOf, Tryz.underlying91]
 go_simp
theorem samek_any (va vb : Value) (L : List MarkT) (w : World) (ha : RdMk w va L) (hb : RdMk w vb L) (hl : L.length ≤ 1000000) :
 Calls Tryz.prog 18 #[va, vb] w fun e w' => e = .returned (.bool true) ∧ Below w.heap.size w w' := by
 obtain ⟨ab, cb, rfl, _⟩ := hb.form
 have C := Lib.hid (marks_any va L w ha hl)
 have HB := Lib.hid hb
 clear ha hb
 go_enter Tryz.func18, Tryz.ntmps18
 go_wp2_with fail
 refine C.out.mono ?_
 rintro e w1 ⟨u, rfl, hu, hb1⟩
 obtain ⟨aa, ca, rfl, _⟩ := hu.form
 have HA := Lib.hid hu
 have HB1 := Lib.hid (HB.out.up hb1)
 have H1 := Lib.hid hb1
 clear hu hb1 HB C
 go_wp2_with fail
 go_loopw [6] (fun i wr => ∃ (k q : Nat), k ≤ L.length ∧ i = .int .i64 (k : Int) ∧ wr = w1.drewN q) (fun i _ => L.length - (intOf i).toNat)
 case atStart => exact ⟨0, 0, Nat.zero_le _, rfl, rfl⟩
 case round =>
  obtain ⟨k, q, hk, rfl, rfl⟩ := hrel
  by_cases hlt : k < L.length
  · have g3 : (k : Int) < (L.length : Int) := by omega
    have g4 : (0 : Int) ≤ (k : Int) := by omega
    obtain ⟨bA, oA, rfl, c0, c1⟩ := HA.out.get hlt
    obtain ⟨bB, oB, rfl, e0, e1⟩ := HB1.out.get hlt
    obtain ⟨⟨ck, cv1⟩, hc⟩ : ∃ c, c = L[k] := ⟨_, rfl⟩
    rw [← hc] at c0 c1 e0 e1
    dsimp only at c0 c1 e0 e1
    have hq : ∀ W, (binOp .neq 91 (.agg #[.int .i64 ck, .int .i64 cv1]) (.agg #[.int .i64 ck, .int .i64 cv1])).run Tryz.prog W = .ok (.bool false) W := rmk_neq (ck, cv1)
    clear hc HA HB1
    go_wp2_with fail
    go_quiet (fail)
    go_wp2_with fail
    go_roundw
    case rel => exact ⟨k + 1, _, by omega, by go_num, rfl⟩
    case measure => simp [intOf]; omega
  obtain rfl : k = L.length := by omega
  have g3 : ¬ (L.length : Int) < (L.length : Int) := by omega
  go_wp2_with fail
  go_ret
  exact ⟨rfl, Below.drewsN H1.out q⟩
theorem rdm_row {w : World} {base : Nat} {e : TypeId} {v : Value} {l : List MarkT} (h : w.ownsRow base e 2 v l.length (l.map cellsM).flatten) : RdMk w v l := RdMk.of_row h
theorem rdm_own0 {w : World} {base : Nat} {e : TypeId} {v : Value} {l : List MarkT} {n : Nat} (h : w.ownsRow base e 2 v (0 + n) ([] ++ (l.map cellsM).flatten)) (hn : n = l.length) : w.ownsRow base e 2 v l.length (l.map cellsM).flatten := by
 subst hn; simpa using h
theorem rdm_ones {l : List MarkT} : ∀ u ∈ (l.map cellsM).flatten, u.oneCell' = true := by
 intro u hu
 obtain ⟨r, hr, hu⟩ := List.mem_flatten.1 hu
 obtain ⟨c, _, rfl⟩ := List.mem_map.1 hr
 simp only [cellsM, List.mem_cons, List.not_mem_nil, or_false] at hu
 rcases hu with rfl | rfl <;> rfl
def FreshV (B : Nat) (u : Value) : Prop := ∀ b o n c, u = .slice (some ⟨b, o, none⟩) n c → B ≤ b
theorem FreshV.mono {B C : Nat} {u : Value} (h : FreshV C u) (hb : B ≤ C) : FreshV B u := fun b o n c e => Nat.le_trans hb (h b o n c e)
theorem fresh_nil (B n c : Nat) : FreshV B (.slice none n c) := fun b o n c e => by cases e
theorem fresh_row {w : World} {base size n : Nat} {e : TypeId} {v : Value} {xs : List Value} (h : w.ownsRow base e size v n xs) : FreshV base v := by
 intro b o m c hv
 rcases h.2 with ⟨h1, _⟩ | ⟨g, cap, cur, h1, hb, _⟩
 · rw [h1] at hv; cases hv
 rw [h1] at hv; cases hv; exact hb
theorem clone_any (v : Value) (l : List MarkT) (w : World) (hv : RdMk w v l) (hn : ∀ c, v = .slice none 0 c → c = 0) (hl : l.length ≤ 1000000) :
 Calls Tryz.prog 52 #[v] w fun e w' => ∃ u, e = .returned u ∧ RdMk w' u l ∧ (∀ c, u = .slice none 0 c → c = 0) ∧ FreshV w.heap.size u ∧ Below w.heap.size w w' := by
 obtain ⟨i0, hi, hz0, hz1, hz2⟩ := info_parts infoMk
 obtain ⟨av, cv, rfl, _⟩ := hv.form
 cases av with
 | none =>
  have hnil : l = [] := by
   obtain ⟨a', c', he, _, _, _, h4⟩ := hv
   by_cases e : l = []
   · exact e
   obtain ⟨b, off, ha, _⟩ := h4 (by simpa using e)
   simp only [Value.slice.injEq] at he
   rw [← he.1] at ha; cases ha
  subst hnil
  obtain rfl := hn cv (by simp)
  have qT : ∀ w : World, (binOp .eql 28 (.slice none 0 0) (.slice none 0 0)).run Tryz.prog w = .ok (.bool true) w := fun w => Lib.run_eql_slice_nil w _ _ _ _ _ _ _ Tryz.underlying28
  clear hv hn
  go_enter Tryz.func52, Tryz.ntmps52
  go_wp2_with fail
  go_ret
  exact ⟨_, rfl, ⟨none, 0, rfl, by simp, by simp, by simp, fun h => absurd rfl h⟩, fun c hc => (by cases hc; rfl), fresh_nil _ _ _, Below.refl _ _⟩
 | some ad =>
  have HV := Lib.hid hv
  have qT : ∀ w : World, (binOp .eql 28 (.slice (some ad) l.length cv) (.slice none 0 0)).run Tryz.prog w = .ok (.bool false) w := fun w => Lib.run_eql_slice_nil w _ _ _ _ _ _ _ Tryz.underlying28
  clear hv hn
  go_enter Tryz.func52, Tryz.ntmps52
  go_wp2_with (at_builtin; refine hold ?_)
  intro _
  refine wpList_appendF (by rfl) _ _ 28 (by rfl) w.heap.size 67 i0 _ 2 16 Tryz.underlying28 hi hz0 hz1 hz2 rfl (by decide) _ 0 [] (by rfl) (World.ownsRow_made w #[] 0 (Nat.le_refl _) (by decide) rfl) _ (l.map cellsM) (cellsM_len l) rdm_ones (by rfl) (RdF.below HV.out (below_alloc w _) (Nat.le_refl _)) (fun c h => by cases h) (by simp [maxLen]; omega) (by simp; omega) (by simp) ?_
  intro v' w' ho hg
  have HN : Hid (w'.ownsRow w.heap.size 67 2 v' l.length (l.map cellsM).flatten ∧ Below w.heap.size w w') := Lib.hid ⟨rdm_own0 ho (by simp), (below_alloc w _).grown hg (by simp) (fun k hk => by simp [Value.ownBlock] at hk; omega)⟩
  clear ho hg
  go_wp2_with fail
  go_ret
  refine ⟨_, rfl, rdm_row HN.out.1, ?_, fresh_row HN.out.1, HN.out.2⟩
  intro c hc
  rcases HN.out.1.2 with ⟨h1, _⟩ | ⟨g, cap, cur, h1, _⟩
  · rw [h1] at hc; cases hc; rfl
  rw [h1] at hc; cases hc
end Go.Proofs.YtegblhmcfemfgaaGreatDoor
