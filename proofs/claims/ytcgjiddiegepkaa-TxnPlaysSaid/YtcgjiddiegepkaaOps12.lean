import Derived.Test.YtcgjiddiegepkaaTxState
import Derived.Deep.RegionHeld3
/- hbllaw12.first. -/
namespace Go.Proofs.Ytcgjiddiegepkaa
open Go.RowKit
def fstL1 : OwnL := wrL [] ([97], [49], false)
def fstL2 : OwnL := wrL fstL1 ([97], [], true)
theorem fst1 : fstL2 = [([97], ([97], [], true))] := by decide
theorem fst2 : sawT 0 [] fstL2 = [] := by
  rw [fst1]
  unfold sawT
  rw [show scanC 0 [] = [] from rfl, List.map_nil]
  simp [mrgL, seenW, decW, pairB, fW]
theorem fst3 : wrC [] ([97], [49], false) = 0 ∧ wrC fstL1 ([97], [], true) = 0 := by decide
theorem rd_wr {W : World} {base : Nat} {v : Value} {l : List WrT} (h : W.ownsRow base 58 3 v l.length (l.map cellsWr).flatten) : RdF 3 W v (l.map cellsWr) :=
  RdF.of_row (fun r hr => by obtain ⟨y, _, rfl⟩ := List.mem_map.1 hr; rfl) (by simpa using h)
theorem rd_wr1 {W : World} {v : Value} {y : WrT} (h : RdF 3 W v ([y].map cellsWr)) : ∃ b off c, v = .slice (some ⟨b, off, none⟩) 1 c ∧ W.cell? ⟨b, off, none⟩ = some (str y.1) ∧ W.cell? ⟨b, off + 1, none⟩ = some (str y.2.1) ∧ W.cell? ⟨b, off + 2, none⟩ = some (.bool y.2.2) := by
  obtain ⟨a, cap, rfl, h1, h2, h3, h4⟩ := h
  obtain ⟨b, off, rfl, hc⟩ := h4 (by simp)
  exact ⟨b, off, cap, rfl, by simpa using hc 0 (by simp) 0 (str y.1) rfl, by simpa using hc 0 (by simp) 1 (str y.2.1) rfl, by simpa using hc 0 (by simp) 2 (.bool y.2.2) rfl⟩
theorem txL_new (W : World) (tb : Nat) (lo hi : List UInt8) : TxL (((W.alloc (.cells #[.pointer (some ⟨tb, 0, none⟩)] 30)).alloc (.cells #[str lo] 9)).alloc (.cells #[str hi] 9)) W.heap.size (W.heap.size + 1) (W.heap.size + 2) tb lo hi := by
  have b1 := Boxed.new W 30 (.pointer (some ⟨tb, 0, none⟩))
  have b2 := Boxed.new (W.alloc (.cells #[.pointer (some ⟨tb, 0, none⟩)] 30)) 9 (str lo)
  have b3 := Boxed.new ((W.alloc (.cells #[.pointer (some ⟨tb, 0, none⟩)] 30)).alloc (.cells #[str lo] 9)) 9 (str hi)
  simp only [World.size_alloc] at b2 b3
  exact ⟨((b1.alloc _).alloc _).cell, (b2.alloc _).cell, b3.cell⟩
set_option maxRecDepth 100000 in
set_option maxHeartbeats 4000000 in
theorem v12first_any (w : World) : Calls Try.prog 8 #[] w fun e w' => e = .returned (.bool true) ∧ Below w.heap.size w w' := by
  have CN := Lib.hid (newG w)
  have CB := Lib.hid (fun W s mb (h : SG w (fun _ => False) W s mb [] 0 0) => ttBegin h 0)
  have CP := Lib.hid (fun W s mb tb wb (h : TT w W s mb [] 0 0 tb wb 0 [] 0) => ttPut h (by decide) [97] [49] (by decide) (by decide))
  have CD := Lib.hid (fun W s mb tb wb (h : TT w W s mb [] 0 0 tb wb 0 fstL1 1) => ttDelete h (by decide) [97] (by decide))
  rw [show wrL [] (([97], [49], false) : WrT) = fstL1 from rfl, fst3.1] at CP
  rw [show wrL fstL1 (([97], [], true) : WrT) = fstL2 from rfl, fst3.2] at CD
  go_enter Try.func8, Try.ntmps8
  go_wp2_with fail
  refine CN.out.mono ?_
  rintro e w1 ⟨s, mb, rfl, h1⟩
  have H1 := Lib.hid h1
  clear h1 CN
  go_wp2_with fail
  refine (CB.out _ _ _ H1.out).mono ?_
  rintro e w2 ⟨tb, wb, rfl, h2⟩
  have H2 := Lib.hid h2
  clear h2 CB H1
  go_wp2_with fail
  refine (CP.out _ _ _ _ _ H2.out).mono ?_
  rintro e w3 ⟨rfl, h3⟩
  have H3 := Lib.hid h3
  clear h3 CP H2
  go_wp2_with fail
  refine (CD.out _ _ _ _ _ H3.out).mono ?_
  rintro e w4 ⟨rfl, h4⟩
  have H4 := Lib.hid h4
  clear h4 CD H3
  go_wp2_with fail
  refine (txn_scan w4 tb [] []).mono ?_
  rintro e w5 ⟨rfl, hw5⟩
  have hb5 : Below w4.heap.size w4 w5 := by rw [hw5]; exact (((Below.refl _ _).alloc (Nat.le_refl _) _).alloc (by simp) _).alloc (by simp; omega) _
  have hL5 : TxL w5 w4.heap.size (w4.heap.size + 1) (w4.heap.size + 2) tb [] [] := by rw [hw5]; exact txL_new w4 tb [] []
  have H5 := Lib.hid (And.intro (H4.out.below hb5) hL5)
  clear hw5 H4
  generalize w4.heap.size = n4 at H5 ⊢
  have C5 := Lib.hid (ttPairs H5.out.1 (by decide) (by decide) H5.out.2 9 (by decide))
  rw [fst2] at C5
  clear hb5 hL5
  go_wp2_with fail
  refine C5.out.mono ?_
  rintro e w6 ⟨v6, rfl, hr6, hb6⟩
  obtain ⟨a6, c6, rfl, _⟩ := (RdF.of_row (L := ([] : List PairT).map cellsP) (fun r hr => by simp at hr) (by simpa using hr6) : RdF 2 w6 v6 _)
  have H6 := Lib.hid (H5.out.1.below hb6)
  clear C5 H5 hr6 hb6
  have C6 := Lib.hid (txWrites H6.out.tx (by decide))
  rw [fst1] at C6
  go_wp2_with fail
  refine C6.out.mono ?_
  rintro e w7 ⟨v7, rfl, hr7, hb7⟩
  obtain ⟨b7, o7, c7, rfl, _, _, _⟩ := rd_wr1 (y := ([97], [], true)) (rd_wr hr7)
  have H7 := Lib.hid (H6.out.below hb7)
  clear C6 H6 hr7 hb7
  have C7 := Lib.hid (txWrites H7.out.tx (by decide))
  rw [fst1] at C7
  go_wp2_with fail
  refine C7.out.mono ?_
  rintro e w8 ⟨v8, rfl, hr8, hb8⟩
  obtain ⟨b8, o8, c8, rfl, z0, z1, z2⟩ := rd_wr1 (y := ([97], [], true)) (rd_wr hr8)
  have H8 := Lib.hid (H7.out.below hb8)
  clear C7 H7 hr8 hb8
  go_wp2_with fail
  go_ret
  exact ⟨rfl, H8.out.sg.bel⟩
end Go.Proofs.Ytcgjiddiegepkaa

/- hbllaw12's operations: how they lie; few. -/
namespace Go.Proofs.Ytcgjiddiegepkaa
open Go.RowKit

/-- An operation: its kind, three texts. -/
structure Op12 where
  kind : Int
  key : List UInt8
  v : List UInt8
  hi : List UInt8
instance inhOp12 : Inhabited Op12 := ⟨⟨0, [], [], []⟩⟩
def Op12.ok (o : Op12) : Prop := (-9223372036854775808 ≤ o.kind ∧ o.kind ≤ 9223372036854775807) ∧ o.key.length ≤ 9223372036854775807 ∧ o.v.length ≤ 9223372036854775807 ∧ o.hi.length ≤ 9223372036854775807
def cells12 (o : Op12) : List Value := [.int .i64 o.kind, str o.key, str o.v, str o.hi]
abbrev enc12 (o : Op12) : Value := .agg #[.int .i64 o.kind, str o.key, str o.v, str o.hi]
def Rd12 (w : World) (v : Value) (l : List Op12) : Prop := RdF 4 w v (l.map cells12)
theorem Rd12.up {w w' : World} {v : Value} {l : List Op12} (h : Rd12 w v l) (hb : Below w.heap.size w w') : Rd12 w' v l := RdF.below h hb (Nat.le_refl _)
theorem Rd12.form {w : World} {v : Value} {l : List Op12} (h : Rd12 w v l) : ∃ a cap, v = .slice a l.length cap ∧ l.length ≤ 9223372036854775807 := by
  obtain ⟨a, cap, hv, h1, _⟩ := h
  rw [List.length_map] at hv h1
  exact ⟨a, cap, hv, h1⟩
theorem Rd12.get {w : World} {a : Option Addr} {n cap : Nat} {l : List Op12} (h : Rd12 w (.slice a n cap) l) {i : Nat} (hi : i < l.length) : ∃ b off, a = some ⟨b, off, none⟩ ∧ w.cell? ⟨b, off + i * 4, none⟩ = some (.int .i64 l[i].kind) ∧ w.cell? ⟨b, off + i * 4 + 1, none⟩ = some (str l[i].key) ∧ w.cell? ⟨b, off + i * 4 + 2, none⟩ = some (str l[i].v) ∧ w.cell? ⟨b, off + i * 4 + 3, none⟩ = some (str l[i].hi) := by
  obtain ⟨a', c', he, _, _, _, h4⟩ := h
  simp only [Value.slice.injEq] at he
  obtain ⟨rfl, _, rfl⟩ := he
  obtain ⟨b, off, ha, hc⟩ := h4 (by intro e; rw [List.map_eq_nil_iff] at e; rw [e] at hi; simp at hi)
  have hi' : i < (l.map cells12).length := by simpa using hi
  exact ⟨b, off, ha, hc i hi' 0 _ (by simp [cells12]), hc i hi' 1 _ (by simp [cells12]), hc i hi' 2 _ (by simp [cells12]), hc i hi' 3 _ (by simp [cells12])⟩
/-- What few tells. -/
def FewP12 (l : List Op12) (w : World) (e : Ending) (w' : World) : Prop := ∃ b : Bool, e = .returned (.bool b) ∧ (b = true → l.length ≤ 1300) ∧ Below w.heap.size w w'
theorem min_two (n : Nat) : ∃ m : Int, (m = (n : Int) ∨ m = 100001) ∧ 0 ≤ m ∧ m ≤ 100001 ∧ min (n : Int) 100001 = m := by
  by_cases h : (n : Int) ≤ 100001
  · exact ⟨n, .inl rfl, by omega, h, by omega⟩
  · exact ⟨100001, .inr rfl, by omega, by omega, by omega⟩
set_option maxRecDepth 100000 in
set_option maxHeartbeats 4000000 in
theorem few12_any (v : Value) (l : List Op12) (w : World) (hv : Rd12 w v l) (hs : ∀ o ∈ l, o.ok) : Calls Try.prog 10 #[v] w (FewP12 l w) := by
  obtain ⟨av, cv, rfl, hl⟩ := hv.form
  have HV := Lib.hid hv
  have HS := Lib.hid hs
  clear hv hs
  go_enter Try.func10, Try.ntmps10
  go_wp2_with fail
  go_loopw [3, 4] (fun n i wr => ∃ (k : Nat) (m : Int), k ≤ l.length ∧ k ≤ 1300 ∧ i = .int .i64 (k : Int) ∧ n = .int .i64 m ∧ 0 ≤ m ∧ m ≤ 100000 ∧ Below w.heap.size w wr) (fun _ i _ => l.length - (intOf i).toNat)
  case atStart => exact ⟨0, 0, Nat.zero_le _, by omega, rfl, rfl, by omega, by omega, Below.refl _ _⟩
  case round =>
    obtain ⟨k, m, hk, hk3, rfl, rfl, hm0, hm1, HB⟩ := hrel
    by_cases hlt : k < l.length
    · have g3 : (k : Int) < (l.length : Int) := by omega
      have g3' : decide ((k : Int) < (l.length : Int)) = true := decide_eq_true g3
      have g4 : (0 : Int) ≤ (k : Int) := by omega
      by_cases h300 : k < 1300
      · have g5 : decide ((k : Int) < 1300) = true := decide_eq_true (by omega)
        obtain ⟨bA, oA, rfl, _, c2, c3, c4⟩ := (HV.out.up HB).get hlt
        obtain ⟨_, z2, z3, z4⟩ := HS.out _ (List.getElem_mem hlt)
        obtain ⟨o, ho⟩ : ∃ o, o = l[k] := ⟨_, rfl⟩
        rw [← ho] at c2 c3 c4 z2 z3 z4
        obtain ⟨ok, ky, ov, oh⟩ := o
        dsimp only at c2 c3 c4 z2 z3 z4
        clear ho HV HS
        go_wp2_with fail
        go_region_held3 (fun W' => W'.cell? ⟨bA, oA + k * 4 + 1, none⟩ = some (str ky) ∧ W'.cell? ⟨bA, oA + k * 4 + 2, none⟩ = some (str ov) ∧ W'.cell? ⟨bA, oA + k * 4 + 3, none⟩ = some (str oh))
          (first
            | (exact ⟨c2, c3, c4⟩)
            | go_keep)
          (fail)
        all_goals
          obtain ⟨m1, hm1⟩ : ∃ m1 : Int, m1 = if (100001 : Int) < (ky.length : Int) then 100001 else (ky.length : Int) := ⟨_, rfl⟩
          obtain ⟨m2, hm2⟩ : ∃ m2 : Int, m2 = if (100001 : Int) < (ov.length : Int) then 100001 else (ov.length : Int) := ⟨_, rfl⟩
          obtain ⟨m3, hm3⟩ : ∃ m3 : Int, m3 = if (100001 : Int) < (oh.length : Int) then 100001 else (oh.length : Int) := ⟨_, rfl⟩
          have q1 : 0 ≤ m1 ∧ m1 ≤ 100001 := by rw [hm1]; split <;> omega
          have q2 : 0 ≤ m2 ∧ m2 ≤ 100001 := by rw [hm2]; split <;> omega
          have q3 : 0 ≤ m3 ∧ m3 ≤ 100001 := by rw [hm3]; split <;> omega
          have w1 : IntKind.i64.wrap (m + m1) = m + m1 := IntWalk.i64_in _ (by omega)
          have w2 : IntKind.i64.wrap (m + m1 + m2) = m + m1 + m2 := IntWalk.i64_in _ (by omega)
          have w3 : IntKind.i64.wrap (m + m1 + m2 + m3) = m + m1 + m2 + m3 := IntWalk.i64_in _ (by omega)
          rw [← hm1, ← hm2, ← hm3, w1, w2, w3]
          obtain ⟨N, hN⟩ : ∃ N, N = m + m1 + m2 + m3 := ⟨_, rfl⟩
          rw [← hN]
          have hN0 : 0 ≤ N := by omega
          clear hm1 hm2 hm3 q1 q2 q3 w1 w2 w3 hN
          by_cases hb : 100000 < N
          · have d1 : decide ((100000 : Int) < N) = true := decide_eq_true hb
            go_wp2_with fail
            go_ret
            exact ⟨_, rfl, fun h => (by cases h), Below.drewsN HB 1⟩
          · have d1 : decide ((100000 : Int) < N) = false := decide_eq_false hb
            go_wp2_with fail
            go_roundw
            case rel => exact ⟨k + 1, N, by omega, by omega, by go_num, rfl, hN0, by omega, Below.drewsN HB 1⟩
            case measure => simp [intOf]; omega
      · have g5 : decide ((k : Int) < 1300) = false := decide_eq_false (by omega)
        have g6 : decide ((l.length : Int) ≤ 1300) = false := decide_eq_false (by omega)
        go_wp2_with fail
        go_ret
        exact ⟨_, rfl, fun h => (by cases h), HB⟩
    · obtain rfl : k = l.length := by omega
      have g3 : decide ((l.length : Int) < (l.length : Int)) = false := decide_eq_false (by omega)
      have g6 : decide ((l.length : Int) ≤ 1300) = true := decide_eq_true (by omega)
      go_wp2_with fail
      go_ret
      exact ⟨_, rfl, fun _ => hk3, HB⟩
end Go.Proofs.Ytcgjiddiegepkaa
